/- nat.takeFrom in place. -/
import Derived.Test.YtfjanomjmlcgaaaDoorArith
set_option linter.unusedVariables false
set_option linter.unusedSimpArgs false
namespace Go.Proofs.YtfjanomjmlcgaaaDoor
open Go.RowKit

/-- What takeFrom leaves. -/
def TakenFrom (w : World) (g o n y : Nat) (s : List Nat) (e : Ending) (w' : World) : Prop :=
  ∃ t c, e = .returned (.tuple #[]) ∧ TakeFrom s o n y t c ∧ Row w' g t ∧ w.grownBy w' (some g)

set_option maxHeartbeats 1000000 in
theorem nat_takeFrom (g o n cap : Nat) (B : Option Addr) (cb : Nat) (s m : List Nat) (w : World) (hr : Row w g s) (hs : Ok s) (hb : Sees w (.slice B m.length cb) m) (hne : 0 < m.length → ∀ a, B = some a → a.block ≠ g)
    (hmn : m.length ≤ n) (hn : o + n ≤ s.length) (hsl : s.length ≤ 70368744177664) :
    Calls Tryd.prog 99 #[.slice (some ⟨g, o, none⟩) n cap, .slice B m.length cb] w fun e w' => TakenFrom w g o n (val m) s e w' := by
  have HR := hid hr; have HS := hid hs; have HB := hid hb; have HN := hid hne
  clear hr hs hb hne
  go_enter Tryd.func99, Tryd.ntmps99
  go_wp2
  go_loopw [4, 9] (fun v5 v wr => ∃ (k c : Nat) (t : List Nat), k ≤ m.length ∧ v = .int .i64 k ∧ v5 = .int .u32 c ∧ c ≤ 1 ∧ Hid (TakeFrom s o k (valF (fun i => m.getD i 0) k) t c) ∧ Hid (Row wr g t) ∧ Hid (w.grownBy wr (some g))) (fun _ v _ => m.length - (intOf v).toNat)
  case atStart => exact ⟨0, 0, s, Nat.zero_le _, rfl, rfl, by omega, TakeFrom.start HS.out o, HR, World.grownBy.refl _ _⟩
  case round =>
    obtain ⟨k, c, t, hk, rfl, rfl, hc1, ha, hrow, hg⟩ := hrel
    by_cases hlt : k < m.length
    · obtain ⟨b2, o2, rfl, hcb'⟩ := HB.out.at (by omega)
      have hcb := hg.out.cell (hcb' k hlt) (by have := HN.out (by omega) _ rfl; simpa using this)
      have htl := ha.out.part.len
      have hca := hrow.out.cell (i := o + k) (by omega)
      have hfr := hrow.out.frozen (o + k)
      have hox := ha.out.part.ok.getD (o + k)
      have hob := HB.out.ok.getD k
      have hsame := ha.out.part.out (o + k) (.inr (by omega))
      obtain ⟨x, d, hx, hd, hxd, hcall⟩ := sub32 (t.getD (o + k) 0) (m.getD k 0) c hox hob hc1
      have hstep := ha.out.step (by omega) (m.getD k 0) x d hx hd (by rw [← hsame]; exact hxd.out)
      have HStep : Hid (TakeFrom s o (k + 1) (valF (fun i => m.getD i 0) (k + 1)) (t.set (o + k) x) d) := hstep
      have HRow := hid (hrow.out.set (o + k) x)
      have HG := hid (grownBy_set (i := o + k) (v := .int .u32 (x : Nat)) hg.out)
      have HCall := hid hcall
      have hkn : k < n := by omega
      clear hstep hcall hxd hsame hcb'
      generalize t.getD (o + k) 0 = u at *
      generalize m.getD k 0 = v at *
      go_wp2
      go_region_with (go_at_call 104; refine (HCall.out _).mono ?_; rintro e w' ⟨rfl, rfl⟩)
      all_goals
        go_wp2
        go_roundw
        case rel => exact ⟨k + 1, d, t.set (o + k) x, by omega, by go_num, rfl, hd, HStep, HRow, grownBy_drew HG.out⟩
        case measure => simp [intOf]; omega
    · obtain rfl : k = m.length := by omega
      have hv : valF (fun i => m.getD i 0) m.length = val m := (val_valF m m.length (Nat.le_refl _)).symm
      rw [hv] at ha
      clear hv
      go_wp2
      go_loopw [4, 34] (fun v5 v wr => ∃ (j c : Nat) (t : List Nat), m.length + j ≤ n ∧ v = .int .i64 j ∧ v5 = .int .u32 c ∧ c ≤ 1 ∧ Hid (TakeFrom s o (m.length + j) (val m) t c) ∧ Hid (Row wr g t) ∧ Hid (w.grownBy wr (some g))) (fun _ v _ => n - (intOf v).toNat)
      case atStart => exact ⟨0, c, t, by omega, rfl, rfl, hc1, ha, hrow, hg⟩
      case round =>
        clear ha hrow hg
        obtain ⟨j, c, t, hj, rfl, rfl, hc1, ha, hrow, hg⟩ := hrel
        by_cases hlt : m.length + j < n
        · have htl := ha.out.part.len
          have hca := hrow.out.cell (i := o + (m.length + j)) (by omega)
          have hfr := hrow.out.frozen (o + (m.length + j))
          have hox := ha.out.part.ok.getD (o + (m.length + j))
          have hsame := ha.out.part.out (o + (m.length + j)) (.inr (by omega))
          obtain ⟨x, d, hx, hd, hxd, hcall⟩ := sub32 (t.getD (o + (m.length + j)) 0) 0 c hox (by decide) hc1
          have hstep := ha.out.step (by omega) 0 x d hx hd (by rw [← hsame]; exact hxd.out)
          have HStep : Hid (TakeFrom s o (m.length + (j + 1)) (val m) (t.set (o + (m.length + j)) x) d) := by rw [Nat.mul_zero, Nat.add_zero] at hstep; exact hstep
          have HRow := hid (hrow.out.set (o + (m.length + j)) x)
          have HG := hid (grownBy_set (i := o + (m.length + j)) (v := .int .u32 (x : Nat)) hg.out)
          have HCall := hid hcall
          clear hstep hcall hxd hsame
          generalize t.getD (o + (m.length + j)) 0 = u at *
          go_wp2_with (go_at_call 104; refine (HCall.out _).mono ?_; rintro e w' ⟨rfl, rfl⟩)
          go_roundw
          case rel => exact ⟨j + 1, d, t.set (o + (m.length + j)) x, by omega, by go_num, rfl, hd, HStep, HRow, HG⟩
          case measure => simp [intOf]; omega
        · have hjn : m.length + j = n := by omega
          have HA : Hid (TakeFrom s o n (val m) t c) := by rw [← hjn]; exact ha
          clear ha hjn
          go_wp2
          go_end0
          exact ⟨t, c, rfl, HA.out, hrow.out, hg.out⟩
end Go.Proofs.YtfjanomjmlcgaaaDoor
