/- nat.Shift of nothing down, and nat.Shift whole. -/
import Derived.Test.YtgcgifehpbjglabDoorShift4
set_option linter.unusedVariables false
set_option linter.unusedSimpArgs false
namespace Go.Proofs.YtgcgifehpbjglabDoor
open Go.RowKit

set_option maxRecDepth 100000 in
set_option maxHeartbeats 800000 in
theorem nat_shift_down0 (a : Option Addr) (la ca : Nat) (l : List Nat) (d o h k : Nat) (w : World) (ha : Sees w (.slice a la ca) l) (hd0 : 0 < d) (hd : d ≤ 1048576) (hdo : d = 32 * o + h) (hk : h + k = 32) (hh : h < 32) (h0 : val l = 0) :
    Calls Tryd.prog 16 #[.slice a la ca, .int .i64 (-(d : Int))] w fun e w' => ∃ v, e = .returned (.tuple #[v, .bool true]) ∧ Sees w' v (limbs (val l / 2 ^ d)) ∧ Below w.heap.size w w' := by
  have e1 : (d : Int) / 32 = (o : Int) := by omega
  have e2 : (d : Int) % 32 = (h : Int) := by omega
  have e3 : min (o : Int) 0 = 0 := by omega
  have HCALL := hid (nat_shiftDown' none 0 0 [] h k w (Sees.nil w) hk (by simp))
  have H0 := hid h0
  have hcut := trim_any _ _ _ _ _ ha
  rw [h0, limbs_zero] at hcut
  simp only [cut, List.length_nil, if_true] at hcut
  have HCUT := hid hcut
  clear h0 hdo ha hcut
  go_enter Tryd.func16, Tryd.ntmps16
  go_wp2_with fail
  refine HCUT.out.mono ?_
  rintro e w' ⟨rfl, rfl⟩
  go_wp2_with fail
  refine HCALL.out.mono ?_
  rintro e w3 ⟨t, rfl, ht1, ht2, ht3, hrow, hb⟩
  obtain rfl : t = [] := List.eq_nil_of_length_eq_zero ht1
  have hs := hrow.sees ht2 0 0 0 (by simp) (Nat.le_refl _) (by omega)
  simp only [List.drop_nil, List.take_nil] at hs
  have HS := hid hs; have HB := hid hb
  clear hs hb hrow ht1 ht2 ht3 HCALL
  go_wp2_with fail
  refine (trim_sees _ _ _ _ _ HS.out).mono ?_
  rintro e w4 ⟨⟨R, rfl, hR, -⟩, rfl⟩
  have HRR := hid hR; clear hR
  go_wp2
  go_ret2
  exact ⟨_, rfl, by rw [H0.out, Nat.zero_div]; exact HRR.out, HB.out⟩

/-- A number shifted by n places: up if n is not negative. -/
def shiftZ (V : Nat) (n : Int) : Nat := if 0 ≤ n then V * 2 ^ n.toNat else V / 2 ^ (-n).toNat

theorem nat_shift_ok {a : Value} {l : List Nat} (n : Int) {w : World} (ha : Sees w a l) (hl : l.length ≤ 17592186044416) (h1 : -1048576 ≤ n) (h2 : n ≤ 1048576) :
    Calls Tryd.prog 16 #[a, .int .i64 n] w fun e w' => ∃ v, e = .returned (.tuple #[v, .bool true]) ∧ Sees w' v (limbs (shiftZ (val l) n)) ∧ Below w.heap.size w w' := by
  have hA := ha
  obtain ⟨A, ca, rfl, -, -, -, -, -⟩ := ha
  by_cases h0 : 0 ≤ n
  · obtain ⟨m, rfl⟩ := Int.eq_ofNat_of_zero_le h0
    have e : shiftZ (val l) (m : Int) = val l * 2 ^ m := by unfold shiftZ; rw [if_pos h0, Int.toNat_natCast]
    rw [e]
    exact nat_shift_up _ _ _ _ m (m / 32) (m % 32) (32 - m % 32) _ hA hl (by omega) (by omega) (by omega) (by omega)
  · obtain ⟨d, hd⟩ := Int.eq_ofNat_of_zero_le (a := -n) (by omega)
    obtain rfl : n = -(d : Int) := by omega
    have e : shiftZ (val l) (-(d : Int)) = val l / 2 ^ d := by unfold shiftZ; rw [if_neg h0, Int.neg_neg, Int.toNat_natCast]
    rw [e]
    rcases Nat.eq_zero_or_pos (val l) with hv | hv
    · exact nat_shift_down0 _ _ _ _ d (d / 32) (d % 32) (32 - d % 32) _ hA (by omega) (by omega) (by omega) (by omega) (by omega) hv
    · exact nat_shift_down1 _ _ _ _ d (d / 32) (d % 32) (32 - d % 32) _ hA hl (by omega) (by omega) (by omega) (by omega) (by omega) hv
end Go.Proofs.YtgcgifehpbjglabDoor
