/- nat.takeTimes in place. -/
import Derived.Test.YtfjanomjmlcgaaaDoorTake
import Derived.Test.YtfjanomjmlcgaaaDoorMul
import Derived.Test.YtfjanomjmlcgaaaDoorDivN
set_option linter.unusedVariables false
set_option linter.unusedSimpArgs false
namespace Go.Proofs.YtfjanomjmlcgaaaDoor
open Go.RowKit

/-- What takeTimes leaves. -/
def TakenTimes (w : World) (g o n y : Nat) (s : List Nat) (e : Ending) (w' : World) : Prop :=
  ∃ t c, e = .returned (.int .u32 (c : Nat)) ∧ TakeFrom s o n y t c ∧ Row w' g t ∧ w.grownBy w' (some g)

set_option maxRecDepth 100000 in
set_option maxHeartbeats 2000000 in
theorem nat_takeTimes (g o n cap : Nat) (B : Option Addr) (cb : Nat) (s m : List Nat) (f : Nat) (w : World) (hr : Row w g s) (hs : Ok s) (hb : Sees w (.slice B m.length cb) m) (hne : 0 < m.length → ∀ a, B = some a → a.block ≠ g)
    (hmn : m.length < n) (hn : o + n ≤ s.length) (hsl : s.length ≤ 70368744177664) (hf : f < 4294967296) :
    Calls Tryd.prog 92 #[.slice (some ⟨g, o, none⟩) n cap, .slice B m.length cb, .int .u32 f] w fun e w' => TakenTimes w g o (m.length + 1) (val m * f) s e w' := by
  have HR := hid hr; have HS := hid hs; have HB := hid hb; have HN := hid hne
  clear hr hs hb hne
  have H0 : Hid (TakeMul s o 0 (valF (fun i => m.getD i 0) 0 * f) s 0 0) := by
    have h0 : valF (fun i => m.getD i 0) 0 * f = 0 := Nat.zero_mul f
    show TakeMul s o 0 (valF (fun i => m.getD i 0) 0 * f) s 0 0
    rw [h0]; exact TakeMul.start HS.out o
  have P0 : Hid (Part s s o 0) := Part.refl HS.out o
  go_enter Tryd.func92, Tryd.ntmps92
  go_wp2
  go_loopw [7, 8, 12] (fun v7 v8 v wr => ∃ (k c d : Nat) (t : List Nat), k ≤ m.length ∧ v = .int .i64 k ∧ v7 = .int .u64 c ∧ v8 = .int .u32 d ∧ d ≤ 1 ∧ c < 4294967296 ∧ Hid (TakeMul s o k (valF (fun i => m.getD i 0) k * f) t c d) ∧ Hid (Part s t o k) ∧ Hid (Row wr g t) ∧ Hid (w.grownBy wr (some g))) (fun _ _ v _ => m.length - (intOf v).toNat)
  case atStart => exact ⟨0, 0, 0, s, Nat.zero_le _, rfl, rfl, rfl, by omega, by omega, H0, P0, HR, World.grownBy.refl _ _⟩
  case round =>
    obtain ⟨k, c, d, t, hk, rfl, rfl, rfl, hd1, hc1, ha, hpart, hrow, hg⟩ := hrel
    by_cases hlt : k < m.length
    · obtain ⟨b2, o2, rfl, hcb'⟩ := HB.out.at (by omega)
      have hcb := hg.out.cell (hcb' k hlt) (by have := HN.out (by omega) _ rfl; simpa using this)
      have htl := hpart.out.len
      have hca := hrow.out.cell (i := o + k) (by omega)
      have hfr := hrow.out.frozen (o + k)
      have hox := hpart.out.ok.getD (o + k)
      have hob := HB.out.ok.getD k
      have hsame := hpart.out.out (o + k) (.inr (by omega))
      have hstep := fun lo c' x d' h1 h2 h3 h4 h5 => ha.out.step (by omega) (m.getD k 0) f lo c' x d' h1 h2 h3 h4 h5
      rw [← hsame] at hstep
      have hval : valF (fun i => m.getD i 0) k * f + 4294967296 ^ k * (m.getD k 0 * f) = valF (fun i => m.getD i 0) (k + 1) * f := by
        simp only [valF]; rw [Nat.add_mul, Nat.mul_assoc]
      rw [hval] at hstep
      have HST := hid hstep
      have HPS := hid (fun x hx => hpart.out.set x hx)
      have hkn : k < n := by omega
      clear hstep hsame hcb' hval
      generalize t.getD (o + k) 0 = u at *
      generalize m.getD k 0 = v at *
      have hfit := mul_fits v f 0 c hob hf (by omega) hc1
      obtain ⟨z, hz⟩ : ∃ z, z = v * f := ⟨_, rfl⟩
      have ez : IntKind.u64.wrap ((v : Int) * (f : Int)) = (z : Int) := by rw [hz, ← Int.natCast_mul]; exact wrap_u64 _ (by omega)
      rw [← hz] at hfit HST
      clear hz
      obtain ⟨T, hT⟩ : ∃ T, T = c + z := ⟨_, rfl⟩
      have e2 : IntKind.u64.wrap ((c : Int) + (z : Int)) = (T : Int) := by have := wrap_u64 T (by omega); rw [hT] at this ⊢; simpa using this
      obtain ⟨lo, hi, hlo, hhi, hxd, em, ed⟩ : ∃ lo hi : Nat, lo < 4294967296 ∧ hi < 4294967296 ∧ Hid (c + z = lo + 4294967296 * hi) ∧ (T : Int) % 4294967296 = (lo : Int) ∧ (T : Int) / 4294967296 = (hi : Int) :=
        ⟨T % 4294967296, T / 4294967296, by omega, by omega, by show _ = _; omega, by omega, by omega⟩
      obtain ⟨x, d', hx, hd', hsub, hcall⟩ := sub32 u lo d hox hlo hd1
      have HStep := hid (HST.out lo hi x d' hhi hx hd' hxd.out hsub.out)
      have HPart := hid (HPS.out x hx)
      have HRow := hid (hrow.out.set (o + k) x)
      have HG := hid (grownBy_set (i := o + k) (v := .int .u32 (x : Nat)) hg.out)
      have HCall := hid hcall
      clear hcall hsub hxd hT hfit HST HPS
      go_wp2_with (go_at_call 104; refine (HCall.out _).mono ?_; rintro e w' ⟨rfl, rfl⟩)
      all_goals
        go_roundw
        case rel => exact ⟨k + 1, hi, d', t.set (o + k) x, by omega, by go_num, by first | rfl | rw [ed], rfl, hd', hhi, HStep, HPart, HRow, by first | exact HG | exact grownBy_drewN HG.out _ | exact grownBy_drew HG.out | exact grownBy_drew (grownBy_drew HG.out)⟩
        case measure => simp [intOf]; omega
    · obtain rfl : k = m.length := by omega
      have hv : valF (fun i => m.getD i 0) m.length = val m := (val_valF m m.length (Nat.le_refl _)).symm
      rw [hv] at ha
      have htl := hpart.out.len
      have hca := hrow.out.cell (i := o + m.length) (by omega)
      have hfr := hrow.out.frozen (o + m.length)
      have hox := hpart.out.ok.getD (o + m.length)
      have hsame := hpart.out.out (o + m.length) (.inr (by omega))
      have hstep := fun x d' h1 h2 h3 => ha.out.last (by omega) x d' h1 h2 h3
      rw [← hsame] at hstep
      have HST := hid hstep
      clear hstep hsame hv ha
      generalize t.getD (o + m.length) 0 = u at *
      obtain ⟨x, d', hx, hd', hsub, hcall⟩ := sub32 u c d hox hc1 hd1
      have HStep := hid (HST.out x d' hx hd' hsub.out)
      have HRow := hid (hrow.out.set (o + m.length) x)
      have HG := hid (grownBy_set (i := o + m.length) (v := .int .u32 (x : Nat)) hg.out)
      have HCall := hid hcall
      have em : (c : Int) % 4294967296 = (c : Int) := by omega
      clear hcall hsub HST
      go_wp2_with (go_at_call 104; refine (HCall.out _).mono ?_; rintro e w' ⟨rfl, rfl⟩)
      all_goals
        go_ret
        exact ⟨_, d', rfl, HStep.out, HRow.out, by first | exact HG.out | exact grownBy_drew HG.out⟩
end Go.Proofs.YtfjanomjmlcgaaaDoor
