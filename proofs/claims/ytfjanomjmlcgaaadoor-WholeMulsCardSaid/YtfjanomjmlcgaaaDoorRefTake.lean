/- The document's push, take in place. -/
import Derived.Test.YtfjanomjmlcgaaaDoorRefDivN
import Derived.Test.YtfjanomjmlcgaaaDoorTake
import Derived.Test.YtfjanomjmlcgaaaDoorShift1
set_option linter.unusedVariables false
set_option linter.unusedSimpArgs false
namespace Go.Proofs.YtfjanomjmlcgaaaDoor
open Go.RowKit

/-- What push leaves. -/
def Pushed (w : World) (g more : Nat) (s : List Nat) (e : Ending) (w' : World) : Prop :=
  ∃ t c, e = .returned (.tuple #[]) ∧ PushTo s s.length more t c ∧ Row w' g t ∧ w.grownBy w' (some g)

set_option maxRecDepth 100000 in
set_option maxHeartbeats 1000000 in
theorem ref_push (g cap more : Nat) (s : List Nat) (w : World) (hr : Row w g s) (hs : Ok s) (hm : more ≤ 1) (hsl : s.length ≤ 70368744177664) :
    Calls Tryd.prog 60 #[.slice (some ⟨g, 0, none⟩) s.length cap, .int .u32 more] w fun e w' => Pushed w g more s e w' := by
  have HR := hid hr; have HS := hid hs
  have H0 := hid (PushTo.start hs more (by omega))
  clear hr hs
  go_enter Tryd.func60, Tryd.ntmps60
  go_wp2
  go_loopw [1, 4] (fun v1 v4 wr => ∃ (k c : Nat) (t : List Nat), k ≤ s.length ∧ v4 = .int .i64 k ∧ v1 = .int .u32 c ∧ c ≤ 1 ∧ Hid (PushTo s k more t c) ∧ Hid (Row wr g t) ∧ Hid (w.grownBy wr (some g))) (fun _ v _ => s.length - (intOf v).toNat)
  case atStart => exact ⟨0, more, s, Nat.zero_le _, rfl, rfl, hm, H0, HR, World.grownBy.refl _ _⟩
  case round =>
    obtain ⟨k, c, t, hk, rfl, rfl, hc1, ha, hrow, hg⟩ := hrel
    by_cases hlt : k < s.length
    · have htl := ha.out.part.len
      have hca := hrow.out.cell (i := k) (by omega)
      have hfr := hrow.out.frozen k
      have hox := ha.out.part.ok.getD k
      have hsame := ha.out.part.out k (.inr (by omega))
      have hstep := fun x d h1 h2 h3 => ha.out.step hlt x d h1 h2 h3
      rw [← hsame] at hstep
      have HST := hid hstep
      clear hstep hsame
      generalize t.getD k 0 = u at *
      obtain ⟨y, hy⟩ : ∃ y : Nat, (u * 2) % 4294967296 = y := ⟨_, rfl⟩
      obtain ⟨x, hx⟩ : ∃ x : Nat, (y + c) % 4294967296 = x := ⟨_, rfl⟩
      obtain ⟨d, hd⟩ : ∃ d : Nat, u / 2147483648 = d := ⟨_, rfl⟩
      have e1 : IntKind.u32.wrap ((u : Int) * 2) = (y : Int) := by rw [IntKind.wrap_u32]; omega
      have e1' : ((u : Int) * 2) % 4294967296 = (y : Int) := by omega
      have e2 : IntKind.u32.wrap ((y : Int) + (c : Int)) = (x : Int) := by rw [IntKind.wrap_u32]; omega
      have e2' : ((y : Int) + (c : Int)) % 4294967296 = (x : Int) := by omega
      have e3 : (u : Int) / 2147483648 = (d : Int) := by omega
      have hx1 : x < 4294967296 := by omega
      have hd1 : d ≤ 1 := by omega
      have HStep := hid (HST.out x d hx1 (by omega) (by omega))
      have HRow := hid (hrow.out.set k x)
      have HG := hid (grownBy_set (i := k) (v := .int .u32 (x : Nat)) hg.out)
      clear HST hy hx hd
      go_wp2
      go_roundw
      case rel => exact ⟨k + 1, d, t.set k x, by omega, by go_num, by first | rfl | rw [e3], hd1, HStep, by first | exact HRow | (rw [e2']; exact HRow) | (rw [e2]; exact HRow), by first | exact HG | (rw [e2']; exact HG) | (rw [e2]; exact HG)⟩
      case measure => simp [intOf]; omega
    · obtain rfl : k = s.length := by omega
      go_wp2
      go_end0
      exact ⟨t, c, rfl, ha.out, hrow.out, hg.out⟩

/-- What take leaves. -/
def Tooken (w : World) (g y : Nat) (s : List Nat) (e : Ending) (w' : World) : Prop :=
  ∃ t c, e = .returned (.tuple #[]) ∧ TakeFrom s 0 s.length y t c ∧ Row w' g t ∧ w.grownBy w' (some g)

set_option maxRecDepth 100000 in
set_option maxHeartbeats 2000000 in
theorem ref_take (g cap : Nat) (B : Option Addr) (cb : Nat) (s m : List Nat) (w : World) (hr : Row w g s) (hs : Ok s) (hb : Sees w (.slice B m.length cb) m) (hne : 0 < m.length → ∀ a, B = some a → a.block ≠ g) (hml : m.length ≤ s.length) (hsl : s.length ≤ 70368744177664) :
    Calls Tryd.prog 63 #[.slice (some ⟨g, 0, none⟩) s.length cap, .slice B m.length cb] w fun e w' => Tooken w g (val m) s e w' := by
  have HR := hid hr; have HS := hid hs; have HB := hid hb; have HN := hid hne
  have H0 : Hid (TakeFrom s 0 0 (valF (fun i => m.getD i 0) 0) s 0) := TakeFrom.start hs 0
  clear hr hs hb hne
  go_enter Tryd.func63, Tryd.ntmps63
  go_wp2
  go_loopw [4, 5] (fun v4 v5 wr => ∃ (k c : Nat) (t : List Nat), k ≤ s.length ∧ v5 = .int .i64 k ∧ v4 = .int .i64 c ∧ c ≤ 1 ∧ Hid (TakeFrom s 0 k (valF (fun i => m.getD i 0) k) t c) ∧ Hid (Row wr g t) ∧ Hid (w.grownBy wr (some g))) (fun _ v _ => s.length - (intOf v).toNat)
  case atStart => exact ⟨0, 0, s, Nat.zero_le _, rfl, rfl, by omega, H0, HR, World.grownBy.refl _ _⟩
  case round =>
    obtain ⟨k, c, t, hk, rfl, rfl, hc1, ha, hrow, hg⟩ := hrel
    by_cases hlt : k < s.length
    · have htl := ha.out.part.len
      have hca := hrow.out.cell (i := k) (by omega)
      have hfr := hrow.out.frozen k
      have hox := ha.out.part.ok.getD k
      have hoy := HB.out.ok.getD k
      have hsame := ha.out.part.out k (.inr (by omega))
      have hstep := fun x d h1 h2 h3 => ha.out.step (by omega) (m.getD k 0) x d h1 h2 h3
      rw [Nat.zero_add, ← hsame] at hstep
      have HST : Hid (∀ x d, x < 4294967296 → d ≤ 1 → t.getD k 0 + 4294967296 * d = x + m.getD k 0 + c → TakeFrom s 0 (k + 1) (valF (fun i => m.getD i 0) (k + 1)) (t.set k x) d) := hstep
      have H2 : k < m.length → ∃ b1 o1, B = some ⟨b1, o1, none⟩ ∧ wr.cell? ⟨b1, o1 + k, none⟩ = some (.int .u32 (m.getD k 0 : Nat)) := fun h => by
        obtain ⟨b1, o1, e, hc⟩ := HB.out.at (by omega)
        subst e
        exact ⟨b1, o1, rfl, hg.out.cell (hc _ h) (by have := HN.out (by omega) _ rfl; simpa using this)⟩
      have z2 : ¬ k < m.length → m.getD k 0 = 0 := fun h => by rw [List.getD_eq_getElem?_getD, List.getElem?_eq_none (by omega)]; rfl
      clear hstep hsame
      generalize t.getD k 0 = x at *
      generalize m.getD k 0 = y at *
      by_cases hkm : k < m.length
      · obtain ⟨b2, q2, rfl, hy⟩ := H2 hkm
        clear H2 z2
        by_cases hneg : x < c + y
        · obtain ⟨z, hz⟩ : ∃ z : Nat, (x : Int) - c - y + 4294967296 = (z : Int) := ⟨((x : Int) - c - y + 4294967296).toNat, by omega⟩
          have hz1 : z < 4294967296 := by omega
          have ez : (z : Int) % 4294967296 = (z : Int) := by omega
          have HStep := hid (HST.out z 1 hz1 (by omega) (by omega))
          have HRow := hid (hrow.out.set k z)
          have HG := hid (grownBy_set (i := k) (v := .int .u32 (z : Nat)) hg.out)
          clear HST
          go_wp2
          go_roundw
          case rel => exact ⟨k + 1, 1, t.set k z, by omega, by go_num, rfl, by omega, HStep, HRow, HG⟩
          case measure => simp [intOf]; omega
        · obtain ⟨z, hz⟩ : ∃ z : Nat, (x : Int) - c - y = (z : Int) := ⟨((x : Int) - c - y).toNat, by omega⟩
          have hz1 : z < 4294967296 := by omega
          have ez : (z : Int) % 4294967296 = (z : Int) := by omega
          have HStep := hid (HST.out z 0 hz1 (by omega) (by omega))
          have HRow := hid (hrow.out.set k z)
          have HG := hid (grownBy_set (i := k) (v := .int .u32 (z : Nat)) hg.out)
          clear HST
          go_wp2
          go_roundw
          case rel => exact ⟨k + 1, 0, t.set k z, by omega, by go_num, rfl, by omega, HStep, HRow, HG⟩
          case measure => simp [intOf]; omega
      · obtain rfl := z2 hkm
        clear H2 z2
        by_cases hneg : x < c
        · obtain ⟨z, hz⟩ : ∃ z : Nat, (x : Int) - c + 4294967296 = (z : Int) := ⟨((x : Int) - c + 4294967296).toNat, by omega⟩
          have hz1 : z < 4294967296 := by omega
          have ez : (z : Int) % 4294967296 = (z : Int) := by omega
          have HStep := hid (HST.out z 1 hz1 (by omega) (by omega))
          have HRow := hid (hrow.out.set k z)
          have HG := hid (grownBy_set (i := k) (v := .int .u32 (z : Nat)) hg.out)
          clear HST
          go_wp2
          go_roundw
          case rel => exact ⟨k + 1, 1, t.set k z, by omega, by go_num, rfl, by omega, HStep, HRow, HG⟩
          case measure => simp [intOf]; omega
        · obtain ⟨z, hz⟩ : ∃ z : Nat, (x : Int) - c = (z : Int) := ⟨((x : Int) - c).toNat, by omega⟩
          have hz1 : z < 4294967296 := by omega
          have ez : (z : Int) % 4294967296 = (z : Int) := by omega
          have HStep := hid (HST.out z 0 hz1 (by omega) (by omega))
          have HRow := hid (hrow.out.set k z)
          have HG := hid (grownBy_set (i := k) (v := .int .u32 (z : Nat)) hg.out)
          clear HST
          go_wp2
          go_roundw
          case rel => exact ⟨k + 1, 0, t.set k z, by omega, by go_num, rfl, by omega, HStep, HRow, HG⟩
          case measure => simp [intOf]; omega
    · obtain rfl : k = s.length := by omega
      have hv : valF (fun i => m.getD i 0) s.length = val m := (val_valF m s.length hml).symm
      rw [hv] at ha
      clear hv
      go_wp2
      go_end0
      exact ⟨t, c, rfl, ha.out, hrow.out, hg.out⟩
end Go.Proofs.YtfjanomjmlcgaaaDoor
