/- nat.shiftUp by its contract. -/
import Derived.Test.YtfjanomjmlcgaaaDoorInt1
import Derived.Test.YtfjanomjmlcgaaaDoorMul
import Derived.Test.YtfjanomjmlcgaaaDoorShiftN
set_option linter.unusedVariables false
set_option linter.unusedSimpArgs false
namespace Go.Proofs.YtfjanomjmlcgaaaDoor
open Go.RowKit

theorem wrap_u32_nat (x H : Nat) (h : x % 4294967296 = H) : IntKind.u32.wrap (x : Int) = (H : Int) := by
  rw [IntKind.wrap_u32]; omega
theorem or_u32 (H c X : Nat) (h1 : H < 4294967296) (h2 : c < 4294967296) (h : (H ||| c) = X) : bits .or .u32 (H : Int) (c : Int) = (X : Int) := by
  rw [u32_or_nat H c h1 h2, h]

/-- What shiftUp leaves. -/
def ShiftedUp (w : World) (g o k y : Nat) (s : List Nat) (e : Ending) (w' : World) : Prop :=
  ∃ t c, e = .returned (.tuple #[]) ∧ AddMul s o k y t c ∧ Row w' g (t.set (o + k) c) ∧ w.grownBy w' (some g)

set_option maxRecDepth 100000 in
set_option maxHeartbeats 2000000 in
theorem nat_shiftUp (g o n cap : Nat) (B : Option Addr) (cb : Nat) (s m : List Nat) (h k : Nat) (w : World) (hr : Row w g s) (hs : Ok s) (hz : ∀ j, o ≤ j → s.getD j 0 = 0) (hb : Sees w (.slice B m.length cb) m) (hne : 0 < m.length → ∀ a, B = some a → a.block ≠ g)
    (hmn : m.length < n) (hn : o + n ≤ s.length) (hsl : s.length ≤ 70368744177664) (hk : h + k = 32) :
    Calls Tryd.prog 90 #[.slice (some ⟨g, o, none⟩) n cap, .slice B m.length cb, .int .u64 h] w fun e w' => ShiftedUp w g o m.length (val m * 2 ^ h) s e w' := by
  have HR := hid hr; have HS := hid hs; have HB := hid hb; have HN := hid hne; have HZ := hid hz
  clear hr hs hb hne hz
  have H0 : Hid (AddMul s o 0 (valF (fun i => m.getD i 0) 0 * 2 ^ h) s 0) := by
    have h0 : valF (fun i => m.getD i 0) 0 * 2 ^ h = 0 := Nat.zero_mul _
    show AddMul s o 0 (valF (fun i => m.getD i 0) 0 * 2 ^ h) s 0
    rw [h0]; exact AddMul.start HS.out o
  have ek : (32 : Int) - (h : Int) = (k : Int) := by omega
  have hpow := Nat.two_pow_pos h
  have hpl : 2 ^ h ≤ 4294967296 := (Nat.pow_le_pow_right (by decide) (by omega) : 2 ^ h ≤ 2 ^ 32)
  have HPL := hid hpl
  clear hpl
  go_enter Tryd.func90, Tryd.ntmps90
  go_wp2
  go_loopw [6, 10] (fun v6 v wr => ∃ (i c : Nat) (t : List Nat), i ≤ m.length ∧ v = .int .i64 i ∧ v6 = .int .u32 c ∧ Hid (c < 2 ^ h) ∧ c < 4294967296 ∧ Hid (AddMul s o i (valF (fun i => m.getD i 0) i * 2 ^ h) t c) ∧ Hid (Row wr g t) ∧ Hid (w.grownBy wr (some g))) (fun _ v _ => m.length - (intOf v).toNat)
  case atStart => exact ⟨0, 0, s, Nat.zero_le _, rfl, rfl, hpow, by omega, H0, HR, World.grownBy.refl _ _⟩
  case round =>
    obtain ⟨i, c, t, hi, rfl, rfl, hcp, hc1, ha, hrow, hg⟩ := hrel
    have htl := ha.out.part.len
    by_cases hlt : i < m.length
    · obtain ⟨b2, o2, rfl, hcb'⟩ := HB.out.at (by omega)
      have hne2 : b2 ≠ g := HN.out (by omega) _ rfl
      have hcb := hg.out.cell (hcb' i hlt) (by simpa using hne2)
      have hca := hrow.out.cell (i := o + i) (by omega)
      have hfr := hrow.out.frozen (o + i)
      have hob := HB.out.ok.getD i
      have hsame := ha.out.part.out (o + i) (.inr (by omega))
      have hz0 := HZ.out (o + i) (by omega)
      have hstep := ha.out.step (by omega) (m.getD i 0 * 2 ^ h)
      rw [hz0] at hstep hsame
      have hval : valF (fun i => m.getD i 0) i * 2 ^ h + 4294967296 ^ i * (m.getD i 0 * 2 ^ h) = valF (fun i => m.getD i 0) (i + 1) * 2 ^ h := by
        simp only [valF]; rw [Nat.add_mul, Nat.mul_assoc]
      rw [hval] at hstep
      have HST := hid hstep
      clear hstep hsame hcb' hval hz0
      generalize m.getD i 0 = v at *
      obtain ⟨X, H, hX, hD, hH, e1, e2, e3⟩ := shl_limb v c h k hk hob hcp.out
      obtain ⟨D, hDe⟩ : ∃ D, D = v / 2 ^ k := ⟨_, rfl⟩
      rw [← hDe] at hD e3
      have hD1 : D < 4294967296 := by have := HPL.out; omega
      have f1 : IntKind.u32.wrap ((v : Int) * 2 ^ h) = (H : Int) := by
        have := wrap_u32_nat _ _ e1
        rw [Int.natCast_mul, Int.natCast_pow] at this
        exact this
      have f2 := or_u32 H c X hH hc1 e2
      have f3 : (v : Int) / 2 ^ k = (D : Int) := by
        rw [hDe, Int.natCast_ediv, Int.natCast_pow]; rfl
      have HStep := hid (HST.out X D hX hD1 (by omega))
      have HD := hid hD
      have HRow := hid (hrow.out.set (o + i) X)
      have HG := hid (grownBy_set (i := o + i) (v := .int .u32 (X : Nat)) hg.out)
      clear e1 e2 e3 hD hDe HST
      go_wp2
      go_roundw
      case rel => exact ⟨i + 1, D, t.set (o + i) X, by omega, by go_num, rfl, HD, hD1, HStep, HRow, HG⟩
      case measure => simp [intOf]; omega
    · obtain rfl : i = m.length := by omega
      have hv : valF (fun i => m.getD i 0) m.length = val m := (val_valF m m.length (Nat.le_refl _)).symm
      rw [hv] at ha
      clear hv
      have hca := hrow.out.cell (i := o + m.length) (by omega)
      have hfr := hrow.out.frozen (o + m.length)
      have HRow := hid (hrow.out.set (o + m.length) c)
      have HG := hid (grownBy_set (i := o + m.length) (v := .int .u32 (c : Nat)) hg.out)
      go_wp2
      go_end0
      exact ⟨t, c, rfl, ha.out, HRow.out, HG.out⟩

end Go.Proofs.YtfjanomjmlcgaaaDoor
