/- Floats as numbers: a word of 64 bits is a sign and a rung; comparing floats is comparing signed rungs. Floats by their bits: what math's small functions give. The order of floats: approx.Order, the document's. Rounding to floats: what Ieee's nearest gives, scaled; of what it has. math.normalize, Frexp, Ldexp by their contracts. math.Ldexp by its contract. -/
import Ieee.Arith
import Derived.Test.YtjnbonellgpjnaaGreatChecked
import Derived.Test.YtjnbonellgpjnaaGreatKA
import Derived.Lib.SliceRun
import Derived.WalkLawsBesides
import Derived.Laws.Externs
import Derived.Laws.BitsAllLaws
set_option linter.unusedVariables false
set_option linter.unusedSimpArgs false
namespace Go.Proofs.YtjnbonellgpjnaaGreat
open Ieee

/-- The rung of a word, and its sign. -/
def rung (b : Nat) : Nat := b % 9223372036854775808
def fneg (b : Nat) : Bool := b / 9223372036854775808 % 2 == 1
def isNan (b : Nat) : Bool := decide (9218868437227405312 < rung b)
def isInf (b : Nat) : Bool := decide (rung b = 9218868437227405312)
/-- The signed rung. -/
def srung (b : Nat) : Int := if fneg b then -(rung b : Int) else (rung b : Int)
/-- The magnitude of a rung, in units of 2^-1074. -/
def mag (r : Nat) : Nat := if r < 4503599627370496 then r else (4503599627370496 + r % 4503599627370496) * 2 ^ (r / 4503599627370496 - 1)

theorem signWeight_d : double.signWeight = 9223372036854775808 := by decide
theorem binade_d : double.binade = 4503599627370496 := by decide
theorem infRung_d : double.infRung = 9218868437227405312 := by decide
theorem least_d : double.leastPlace = -1074 := by decide

theorem read_nan {b : Nat} (h : isNan b = true) : ∃ s f, double.read b = .nan s f := by
  unfold isNan rung at h
  have h := of_decide_eq_true h
  unfold Format.read
  rw [signWeight_d, binade_d, infRung_d]
  dsimp only
  rw [if_neg (by omega), if_neg (by omega), if_neg (by omega)]
  exact ⟨_, _, rfl⟩
theorem read_inf {b : Nat} (h : isInf b = true) : double.read b = .infinity (fneg b) := by
  unfold isInf rung at h
  have h := of_decide_eq_true h
  unfold Format.read fneg
  rw [signWeight_d, binade_d, infRung_d]
  dsimp only
  rw [if_neg (by omega), if_neg (by omega), if_pos (by omega)]
theorem read_fin {b : Nat} (h : rung b < 9218868437227405312) : ∃ m : Nat, ∃ i : Nat, double.read b = .number (fneg b) m ((i : Int) - 1074) ∧ m * 2 ^ i = mag (rung b) := by
  unfold rung at h
  unfold Format.read fneg rung mag
  rw [signWeight_d, binade_d, infRung_d, least_d]
  dsimp only
  by_cases h1 : b % 9223372036854775808 < 4503599627370496
  · rw [if_pos h1, if_pos h1]
    exact ⟨b % 9223372036854775808, 0, by simp, by simp⟩
  · rw [if_neg h1, if_pos h, if_neg h1]
    exact ⟨_, b % 9223372036854775808 / 4503599627370496 - 1, by first | (congr 1; done) | (congr 1; omega), rfl⟩

theorem mag_lt {r s : Nat} (h : r < s) : mag r < mag s := by
  unfold mag
  by_cases h1 : s < 4503599627370496
  · rw [if_pos h1, if_pos (by omega)]; exact h
  · rw [if_neg h1]
    have hs : 4503599627370496 * (s / 4503599627370496) ≤ s := Nat.mul_div_le _ _
    obtain ⟨q, hq⟩ : ∃ q, s / 4503599627370496 = q + 1 := ⟨s / 4503599627370496 - 1, by omega⟩
    rw [hq, Nat.add_sub_cancel]
    have pos : 0 < 2 ^ q := Nat.two_pow_pos q
    have low : 4503599627370496 * 2 ^ q ≤ (4503599627370496 + s % 4503599627370496) * 2 ^ q := Nat.mul_le_mul_right _ (by omega)
    by_cases h2 : r < 4503599627370496
    · rw [if_pos h2]
      have : 4503599627370496 * 1 ≤ 4503599627370496 * 2 ^ q := Nat.mul_le_mul_left _ pos
      omega
    · rw [if_neg h2]
      obtain ⟨p, hp⟩ : ∃ p, r / 4503599627370496 = p + 1 := ⟨r / 4503599627370496 - 1, by omega⟩
      rw [hp, Nat.add_sub_cancel]
      have hpq : p ≤ q := by
        have := Nat.div_le_div_right (c := 4503599627370496) (Nat.le_of_lt h)
        omega
      by_cases e : p = q
      · subst e
        exact Nat.mul_lt_mul_of_pos_right (by omega) pos
      · have h3 : (4503599627370496 + r % 4503599627370496) * 2 ^ p < (4503599627370496 * 2) * 2 ^ p := Nat.mul_lt_mul_of_pos_right (by omega) (Nat.two_pow_pos p)
        have h4 : (4503599627370496 * 2) * 2 ^ p = 4503599627370496 * 2 ^ (p + 1) := by rw [Nat.pow_succ]; omega
        have h5 : 4503599627370496 * 2 ^ (p + 1) ≤ 4503599627370496 * 2 ^ q := Nat.mul_le_mul_left _ (Nat.pow_le_pow_right (by decide) (by omega))
        omega
theorem mag_le {r s : Nat} (h : r ≤ s) : mag r ≤ mag s := by
  rcases Nat.lt_or_eq_of_le h with h | h
  · exact Nat.le_of_lt (mag_lt h)
  · rw [h]; exact Nat.le_refl _
theorem mag_zero : mag 0 = 0 := by decide
theorem mag_cmp (r s : Nat) : compare (mag r) (mag s) = compare r s := by
  rcases Nat.lt_trichotomy r s with h | h | h
  · rw [Nat.compare_eq_lt.2 h, Nat.compare_eq_lt.2 (mag_lt h)]
  · rw [h]; simp
  · rw [Nat.compare_eq_gt.2 h, Nat.compare_eq_gt.2 (mag_lt h)]

/-- The number of a finite float, in units of 2^-1074. -/
def smag (b : Nat) : Int := if fneg b then -(mag (rung b) : Int) else (mag (rung b) : Int)

theorem signed_shift (s : Bool) (m k : Nat) : signed s m k = (if s then -((m * 2 ^ k : Nat) : Int) else ((m * 2 ^ k : Nat) : Int)) := by
  unfold signed; rw [Nat.shiftLeft_eq]
theorem signed_scale (s : Bool) (m k j : Nat) : signed s m (k + j) = signed s m k * ((2 ^ j : Nat) : Int) := by
  rw [signed_shift, signed_shift]
  have e : (m * 2 ^ (k + j) : Nat) = m * 2 ^ k * 2 ^ j := by rw [Nat.pow_add, Nat.mul_assoc]
  rw [e]
  cases s <;> simp [Int.neg_mul]
theorem compare_scale (a b : Int) (k : Nat) (h : 0 < k) : compare (a * (k : Int)) (b * (k : Int)) = compare a b := by
  have hk : (0 : Int) < k := by omega
  rcases Int.lt_trichotomy a b with h1 | h1 | h1
  · rw [show compare a b = .lt from Int.compare_eq_lt.2 h1]
    exact Int.compare_eq_lt.2 (Int.mul_lt_mul_of_pos_right h1 hk)
  · subst h1; simp
  · rw [show compare a b = .gt from Int.compare_eq_gt.2 h1]
    exact Int.compare_eq_gt.2 (Int.mul_lt_mul_of_pos_right h1 hk)

theorem srung_cmp (a b : Nat) : compare (smag a) (smag b) = compare (srung a) (srung b) := by
  have hm := mag_cmp (rung a) (rung b)
  have h0a := mag_cmp (rung a) 0
  have h0b := mag_cmp (rung b) 0
  rw [mag_zero] at h0a h0b
  have lt_iff : ∀ r s : Nat, (mag r < mag s ↔ r < s) := fun r s => ⟨fun h => by
    rcases Nat.lt_or_ge r s with h1 | h1
    · exact h1
    · have := mag_le h1; omega, mag_lt⟩
  have l1 := lt_iff (rung a) (rung b)
  have l2 := lt_iff (rung b) (rung a)
  have l3 := lt_iff 0 (rung a)
  have l4 := lt_iff 0 (rung b)
  rw [mag_zero] at l3 l4
  unfold smag srung
  generalize mag (rung a) = x at *
  generalize mag (rung b) = y at *
  generalize rung a = r at *
  generalize rung b = s at *
  clear hm h0a h0b lt_iff
  rcases Nat.lt_trichotomy r s with h | h | h
  · have := l1.2 h
    cases fneg a <;> cases fneg b <;> simp <;> first
      | (rw [Int.compare_eq_lt.2 (by omega), Int.compare_eq_lt.2 (by omega)]; done)
      | (rw [Int.compare_eq_gt.2 (by omega), Int.compare_eq_gt.2 (by omega)]; done)
  · have e : x = y := by omega
    subst h; subst e
    rcases Nat.eq_zero_or_pos r with h0 | h0
    · have e0 : x = 0 := by omega
      subst h0; subst e0
      cases fneg a <;> cases fneg b <;> simp
    · have := l3.2 h0
      cases fneg a <;> cases fneg b <;> simp <;> first
        | (rw [Int.compare_eq_lt.2 (by omega), Int.compare_eq_lt.2 (by omega)]; done)
        | (rw [Int.compare_eq_gt.2 (by omega), Int.compare_eq_gt.2 (by omega)]; done)
  · have := l2.2 h
    cases fneg a <;> cases fneg b <;> simp <;> first
      | (rw [Int.compare_eq_lt.2 (by omega), Int.compare_eq_lt.2 (by omega)]; done)
      | (rw [Int.compare_eq_gt.2 (by omega), Int.compare_eq_gt.2 (by omega)]; done)

theorem order_fin {a b : Nat} (ha : rung a < 9218868437227405312) (hb : rung b < 9218868437227405312) : double.order a b = some (compare (smag a) (smag b)) := by
  obtain ⟨m, i, e1, e2⟩ := read_fin ha
  obtain ⟨n, j, e3, e4⟩ := read_fin hb
  unfold Format.order
  rw [e1, e3]
  unfold Datum.order
  dsimp only
  refine congrArg some ?_
  have key : ∀ k : Nat, k ≤ i → k ≤ j → compare (signed (fneg a) m (i - k)) (signed (fneg b) n (j - k)) = compare (smag a) (smag b) := by
    intro k h1 h2
    rw [← compare_scale _ _ (2 ^ k) (Nat.two_pow_pos k), ← signed_scale, ← signed_scale, Nat.sub_add_cancel h1, Nat.sub_add_cancel h2, signed_shift, signed_shift, e2, e4]
    unfold smag; rfl
  by_cases h : i ≤ j
  · have : min ((i : Int) - 1074) ((j : Int) - 1074) = (i : Int) - 1074 := by omega
    rw [this]
    have := key i (Nat.le_refl _) h
    rw [← this]
    congr 2 <;> omega
  · have : min ((i : Int) - 1074) ((j : Int) - 1074) = (j : Int) - 1074 := by omega
    rw [this]
    have := key j (by omega) (Nat.le_refl _)
    rw [← this]
    congr 2 <;> omega

/-- COMPARING FLOATS IS COMPARING SIGNED RUNGS. -/
theorem order_num {a b : Nat} (ha : isNan a = false) (hb : isNan b = false) : double.order a b = some (compare (srung a) (srung b)) := by
  have ha' := of_decide_eq_false ha
  have hb' := of_decide_eq_false hb
  by_cases ia : isInf a = true
  · have ja := of_decide_eq_true ia
    by_cases ib : isInf b = true
    · have jb := of_decide_eq_true ib
      unfold Format.order
      rw [read_inf ia, read_inf ib]
      unfold Datum.order srung
      rw [ja, jb]
      cases fneg a <;> cases fneg b <;> decide
    · have jb := of_decide_eq_false (Bool.eq_false_iff.2 ib)
      obtain ⟨n, j, e3, e4⟩ := read_fin (b := b) (by omega)
      unfold Format.order
      rw [read_inf ia, e3]
      unfold Datum.order srung
      rw [ja]
      have h0 : rung b < 9218868437227405312 := by omega
      generalize rung b = s at h0 ⊢
      cases fneg a <;> cases fneg b <;> simp <;> first
        | (symm; exact Int.compare_eq_lt.2 (by omega))
        | (symm; exact Int.compare_eq_gt.2 (by omega))
  · have ja := of_decide_eq_false (Bool.eq_false_iff.2 ia)
    by_cases ib : isInf b = true
    · have jb := of_decide_eq_true ib
      obtain ⟨n, j, e3, e4⟩ := read_fin (b := a) (by omega)
      unfold Format.order
      rw [read_inf ib, e3]
      unfold Datum.order srung
      rw [jb]
      have h0 : rung a < 9218868437227405312 := by omega
      generalize rung a = s at h0 ⊢
      cases fneg a <;> cases fneg b <;> simp <;> first
        | (symm; exact Int.compare_eq_lt.2 (by omega))
        | (symm; exact Int.compare_eq_gt.2 (by omega))
    · have jb := of_decide_eq_false (Bool.eq_false_iff.2 ib)
      rw [order_fin (by omega) (by omega), srung_cmp]
theorem order_nan_left {a : Nat} (b : Nat) (ha : isNan a = true) : double.order a b = none := by
  obtain ⟨s, f, e⟩ := read_nan ha
  unfold Format.order; rw [e]; rfl
theorem order_nan_right (a : Nat) {b : Nat} (hb : isNan b = true) : double.order a b = none := by
  obtain ⟨s, f, e⟩ := read_nan hb
  unfold Format.order; rw [e]
  cases double.read a <;> rfl

/-! ### Tests on floats, as tests on signed rungs -/
def fnum (a b : Nat) : Bool := !isNan a && !isNan b
theorem order_eq (a b : Nat) : (double.order a b == some .eq) = (fnum a b && decide (srung a = srung b)) := by
  unfold fnum
  cases ha : isNan a
  · cases hb : isNan b
    · rw [order_num ha hb]
      rcases Int.lt_trichotomy (srung a) (srung b) with h | h | h
      · rw [Int.compare_eq_lt.2 h]; simp; omega
      · rw [h]; simp
      · rw [Int.compare_eq_gt.2 h]; simp; omega
    · rw [order_nan_right a hb]; simp
  · rw [order_nan_left b ha]; simp
theorem order_ne (a b : Nat) : (double.order a b != some .eq) = !(fnum a b && decide (srung a = srung b)) := by
  rw [← order_eq]; rfl
theorem order_lt (a b : Nat) : (double.order a b == some .lt) = (fnum a b && decide (srung a < srung b)) := by
  unfold fnum
  cases ha : isNan a
  · cases hb : isNan b
    · rw [order_num ha hb]
      rcases Int.lt_trichotomy (srung a) (srung b) with h | h | h
      · rw [Int.compare_eq_lt.2 h]; simp; omega
      · rw [h]; simp
      · rw [Int.compare_eq_gt.2 h]; simp; omega
    · rw [order_nan_right a hb]; simp
  · rw [order_nan_left b ha]; simp
theorem order_gt (a b : Nat) : (double.order a b == some .gt) = (fnum a b && decide (srung b < srung a)) := by
  unfold fnum
  cases ha : isNan a
  · cases hb : isNan b
    · rw [order_num ha hb]
      rcases Int.lt_trichotomy (srung a) (srung b) with h | h | h
      · rw [Int.compare_eq_lt.2 h]; simp; omega
      · rw [h]; simp
      · rw [Int.compare_eq_gt.2 h]; simp; omega
    · rw [order_nan_right a hb]; simp
  · rw [order_nan_left b ha]; simp
theorem fnum_self (a : Nat) : fnum a a = !isNan a := by unfold fnum; simp
theorem order_self (a : Nat) : (double.order a a != some .eq) = isNan a := by rw [order_ne, fnum_self]; simp
end Go.Proofs.YtjnbonellgpjnaaGreat

set_option linter.unusedVariables false
set_option linter.unusedSimpArgs false
namespace Go.Proofs.YtjnbonellgpjnaaGreat
open Go.RowKit

theorem run_bits (b : Nat) (w : World) : (callFunc 62 #[.float .f64 b]).run Tryz.prog w = .ok (.value (.int .u64 (b : Nat))) w :=
  (run_callFunc_extern (P := Tryz.prog) Tryz.func62 (by kernel_rfl) (by kernel_rfl) (by kernel_rfl) (e := Extern.MathFloatBits.float64bits) (by kernel_rfl) _ w).trans rfl
theorem run_frombits (b : Nat) (w : World) : (callFunc 61 #[.int .u64 (b : Nat)]).run Tryz.prog w = .ok (.value (.float .f64 b)) w :=
  (run_callFunc_extern (P := Tryz.prog) Tryz.func61 (by kernel_rfl) (by kernel_rfl) (by kernel_rfl) (e := Extern.MathFloatBits.float64frombits) (by kernel_rfl) _ w).trans rfl

/-- A word of a sign and a rung. -/
def wordOf (s : Bool) (r : Nat) : Nat := if s then 9223372036854775808 + r else r
theorem rung_lt (b : Nat) : rung b < 9223372036854775808 := Nat.mod_lt _ (by decide)
theorem rung_word (s : Bool) {r : Nat} (h : r < 9223372036854775808) : rung (wordOf s r) = r := by unfold rung wordOf; cases s <;> simp <;> omega
theorem fneg_word (s : Bool) {r : Nat} (h : r < 9223372036854775808) : fneg (wordOf s r) = s := by
  unfold fneg wordOf
  cases s
  · have : r / 9223372036854775808 = 0 := by omega
    simp [this]
  · have : (9223372036854775808 + r) / 9223372036854775808 = 1 := by omega
    simp [this]
theorem word_self {b : Nat} (hb : b < 18446744073709551616) : wordOf (fneg b) (rung b) = b := by
  unfold wordOf fneg rung
  by_cases h : b < 9223372036854775808
  · have : b / 9223372036854775808 = 0 := by omega
    simp [this]; omega
  · have : b / 9223372036854775808 = 1 := by omega
    simp [this]; omega

theorem andNot_sign {b : Nat} (hb : b < 18446744073709551616) : bits .andNot .u64 (b : Int) 9223372036854775808 = ((rung b : Nat) : Int) := by
  have h := u64_andNot_nat b 9223372036854775808 hb (by decide)
  have e : b &&& (18446744073709551615 - 9223372036854775808) = rung b := by
    show b &&& (2 ^ 63 - 1) = b % 2 ^ 63
    exact Nat.and_two_pow_sub_one_eq_mod b 63
  rw [e] at h
  exact h
theorem and_sign {b : Nat} (hb : b < 18446744073709551616) : bits .and .u64 (b : Int) 9223372036854775808 = ((wordOf (fneg b) 0 : Nat) : Int) := by
  have h := u64_and_nat b 9223372036854775808 hb (by decide)
  have e : b &&& 9223372036854775808 = wordOf (fneg b) 0 := by
    have h2 : b &&& 2 ^ 63 = b / 2 ^ 63 % 2 * 2 ^ 63 := nat_bit 63 b
    have h3 : b / 9223372036854775808 = 0 ∨ b / 9223372036854775808 = 1 := by omega
    have h4 : b &&& 9223372036854775808 = b / 9223372036854775808 % 2 * 9223372036854775808 := h2
    rw [h4]
    unfold wordOf fneg
    rcases h3 with h3 | h3 <;> rw [h3] <;> decide
  rw [e] at h
  exact h
theorem or_sign (s : Bool) {r : Nat} (hr : r < 9223372036854775808) : bits .or .u64 (r : Int) ((wordOf s 0 : Nat) : Int) = ((wordOf s r : Nat) : Int) := by
  have hw : wordOf s 0 < 18446744073709551616 := by unfold wordOf; cases s <;> decide
  have h := u64_or_nat r (wordOf s 0) (by omega) hw
  have e : r ||| wordOf s 0 = wordOf s r := by
    rw [Nat.or_comm]
    have := nat_join 63 (wordOf s 0) r (by unfold wordOf; cases s <;> decide) hr
    rw [this]
    unfold wordOf; cases s <;> simp
  rw [e] at h
  exact h
theorem wrap_sign {b : Nat} (hb : b < 18446744073709551616) : decide (wrap64 (b : Int) < 0) = fneg b := by
  unfold wrap64 fneg
  by_cases h : b < 9223372036854775808
  · have h1 : b / 9223372036854775808 = 0 := by omega
    rw [h1]
    exact decide_eq_false (by omega)
  · have h1 : b / 9223372036854775808 = 1 := by omega
    rw [h1]
    exact decide_eq_true (by omega)

theorem math_isNaN (b : Nat) (w : World) : Calls Tryz.prog 31 #[.float .f64 b] w fun e w' => e = .returned (.bool (isNan b)) ∧ w = w' := by
  rw [← order_self b]
  go_enter Tryz.func31, Tryz.ntmps31
  go_wp2_with fail
  go_ret
  exact ⟨rfl, rfl⟩

set_option maxRecDepth 100000 in
theorem math_abs {b : Nat} (hb : b < 18446744073709551616) (w : World) : Calls Tryz.prog 40 #[.float .f64 b] w fun e w' => e = .returned (.float .f64 (rung b)) ∧ w = w' := by
  have hr := run_bits b w
  have ha := andNot_sign hb
  have hf := run_frombits (rung b) w
  generalize rung b = r at *
  go_enter Tryz.func40, Tryz.ntmps40
  go_wp2_with fail
  go_ret
  exact ⟨rfl, rfl⟩
theorem math_signbit (b : Nat) (w : World) (hb : b < 18446744073709551616) : Calls Tryz.prog 95 #[.float .f64 b] w fun e w' => e = .returned (.bool (fneg b)) ∧ w = w' := by
  have hr := run_bits b w
  have hs := wrap_sign hb
  generalize fneg b = s at *
  go_enter Tryz.func95, Tryz.ntmps95
  go_wp2_with fail
  go_ret
  exact ⟨rfl, rfl⟩
set_option maxRecDepth 100000 in
theorem math_copysign {b c : Nat} (hb : b < 18446744073709551616) (hc : c < 18446744073709551616) (w : World) : Calls Tryz.prog 28 #[.float .f64 b, .float .f64 c] w fun e w' => e = .returned (.float .f64 (wordOf (fneg c) (rung b))) ∧ w = w' := by
  have hr := run_bits b w
  have hr2 := run_bits c w
  have ha := andNot_sign hb
  have ha2 := and_sign hc
  have ho := or_sign (fneg c) (rung_lt b)
  have hf := run_frombits (wordOf (fneg c) (rung b)) w
  generalize wordOf (fneg c) (rung b) = y at *
  generalize wordOf (fneg c) 0 = z at *
  generalize rung b = r at *
  go_enter Tryz.func28, Tryz.ntmps28
  go_wp2_with fail
  go_ret
  exact ⟨rfl, rfl⟩
set_option maxRecDepth 100000 in
theorem math_inf (i : Int) (w : World) : Calls Tryz.prog 64 #[.int .i64 i] w fun e w' => e = .returned (.float .f64 (if 0 ≤ i then 9218868437227405312 else 18442240474082181120)) ∧ w = w' := by
  have h1 : (callFunc 61 #[.int .u64 9218868437227405312]).run Tryz.prog w = .ok (.value (.float .f64 9218868437227405312)) w := run_frombits 9218868437227405312 w
  have h2 : (callFunc 61 #[.int .u64 18442240474082181120]).run Tryz.prog w = .ok (.value (.float .f64 18442240474082181120)) w := run_frombits 18442240474082181120 w
  by_cases h : i ≥ 0
  · rw [if_pos h]
    have hd : decide (i ≥ 0) = true := decide_eq_true h
    go_enter Tryz.func64, Tryz.ntmps64
    go_wp2_with fail
    go_ret
    exact ⟨rfl, rfl⟩
  · rw [if_neg h]
    have hd : decide (i ≥ 0) = false := decide_eq_false h
    go_enter Tryz.func64, Tryz.ntmps64
    go_wp2_with fail
    go_ret
    exact ⟨rfl, rfl⟩

set_option maxRecDepth 100000 in
theorem math_isInf0 {b : Nat} (hb : b < 18446744073709551616) (w : World) : Calls Tryz.prog 32 #[.float .f64 b, .int .i64 0] w fun e w' => e = .returned (.bool (isInf b)) ∧ w = w' := by
  have HC := hid (math_abs hb w)
  have e : (Ieee.double.order (rung b) 9218868437227405311 == some .gt) = isInf b := by
    rw [order_gt]
    have r0 : rung (rung b) = rung b := by unfold rung; omega
    have f0 : fneg (rung b) = false := by unfold fneg; rw [Nat.div_eq_of_lt (rung_lt b)]; rfl
    have n1 : isNan 9218868437227405311 = false := by decide
    have s1 : srung 9218868437227405311 = 9218868437227405311 := by decide
    unfold fnum
    rw [n1, s1]
    unfold isNan isInf srung
    rw [r0, f0]
    have := rung_lt b
    generalize rung b = r at *
    by_cases h : r = 9218868437227405312
    · subst h; decide
    · have h2 : decide (r = 9218868437227405312) = false := decide_eq_false h
      rw [h2]
      by_cases h3 : 9218868437227405312 < r
      · simp [h3]
      · simp; omega
  have HE := hid e
  clear e
  generalize rung b = r at *
  go_enter Tryz.func32, Tryz.ntmps32
  go_wp2_with fail
  refine HC.out.mono ?_
  rintro e w' ⟨rfl, rfl⟩
  go_wp2_with fail
  go_ret
  exact ⟨by rw [← HE.out]; rfl, rfl⟩
end Go.Proofs.YtjnbonellgpjnaaGreat

set_option linter.unusedVariables false
set_option linter.unusedSimpArgs false
namespace Go.Proofs.YtjnbonellgpjnaaGreat
open Go.RowKit

/-- A float is a zero. -/
def isZ0 (b : Nat) : Bool := decide (rung b = 0)
theorem srung_zero (b : Nat) : decide (srung b = 0) = isZ0 b := by unfold srung isZ0; cases fneg b <;> simp <;> omega
theorem isNan_zero {b : Nat} (h : isZ0 b = true) : isNan b = false := by
  have := of_decide_eq_true h
  unfold isNan; rw [this]; decide
theorem eq_zero (b : Nat) : (Ieee.double.order b 0 == some .eq) = isZ0 b := by
  rw [order_eq, show srung 0 = 0 by decide, srung_zero]
  unfold fnum
  rw [show isNan 0 = false by decide]
  cases h : isZ0 b
  · simp
  · rw [isNan_zero h]; rfl

/-- NaN, the negative zero, all others. -/
def stand (b : Nat) : Int := if isNan b then 0 else if isZ0 b && fneg b then 1 else 2
def cmpZ (x y : Int) : Int := if x < y then -1 else if y < x then 1 else 0
/-- The order of two floats. -/
def ordF (a b : Nat) : Int := if fnum a b && decide (srung a < srung b) then -1 else if fnum a b && decide (srung b < srung a) then 1 else cmpZ (stand a) (stand b)

theorem isNaN_int (x : Int) (w : World) : Calls Tryz.prog 94 #[.int .i64 x] w fun e w' => e = .returned (.bool false) ∧ w = w' := by
  go_enter Tryz.func94, Tryz.ntmps94
  go_wp2_with fail
  go_ret
  exact ⟨by simp, rfl⟩
theorem cmp_int (x y : Int) (w : World) : Calls Tryz.prog 57 #[.int .i64 x, .int .i64 y] w fun e w' => e = .returned (.int .i64 (cmpZ x y)) ∧ w = w' := by
  unfold cmpZ
  by_cases h1 : x < y
  · rw [if_pos h1]
    have d1 : decide (x < y) = true := decide_eq_true h1
    clear h1
    go_enter Tryz.func57, Tryz.ntmps57
    go_wp2_with fail
    refine (isNaN_int _ _).mono ?_
    rintro e w' ⟨rfl, rfl⟩
    go_wp2_with fail
    refine (isNaN_int _ _).mono ?_
    rintro e w' ⟨rfl, rfl⟩
    go_wp2_with fail
    go_ret
    exact ⟨rfl, rfl⟩
  · rw [if_neg h1]
    have d1 : decide (x < y) = false := decide_eq_false h1
    by_cases h2 : y < x
    · rw [if_pos h2]
      have d2 : decide (x > y) = true := decide_eq_true h2
      clear h1 h2
      go_enter Tryz.func57, Tryz.ntmps57
      go_wp2_with fail
      refine (isNaN_int _ _).mono ?_
      rintro e w' ⟨rfl, rfl⟩
      go_wp2_with fail
      refine (isNaN_int _ _).mono ?_
      rintro e w' ⟨rfl, rfl⟩
      go_wp2_with fail
      go_ret
      exact ⟨rfl, rfl⟩
    · rw [if_neg h2]
      have d2 : decide (x > y) = false := decide_eq_false h2
      clear h1 h2
      go_enter Tryz.func57, Tryz.ntmps57
      go_wp2_with fail
      refine (isNaN_int _ _).mono ?_
      rintro e w' ⟨rfl, rfl⟩
      go_wp2_with fail
      refine (isNaN_int _ _).mono ?_
      rintro e w' ⟨rfl, rfl⟩
      go_wp2_with fail
      go_ret
      exact ⟨rfl, rfl⟩

theorem ap_standing {b : Nat} (hb : b < 18446744073709551616) (w : World) : Calls Tryz.prog 58 #[.float .f64 b] w fun e w' => e = .returned (.int .i64 (stand b)) ∧ w = w' := by
  have hn := math_isNaN b w
  have hs := math_signbit b w hb
  have hz : (FloatKind.f64.format.order b 0 == some .eq) = isZ0 b := eq_zero b
  obtain ⟨x, hx⟩ : ∃ x, stand b = x := ⟨_, rfl⟩
  have HX := hid hx
  unfold stand at hx
  rw [HX.out]
  generalize isNan b = n at *
  generalize fneg b = s at *
  generalize isZ0 b = z at *
  have HN := hid hn; have HS := hid hs
  clear hn hs HX
  cases n
  · cases z
    · simp at hx; subst hx
      go_enter Tryz.func58, Tryz.ntmps58
      go_wp2_with fail
      refine HN.out.mono ?_
      rintro e w' ⟨rfl, rfl⟩
      go_wp2_with fail
      go_ret
      exact ⟨rfl, rfl⟩
    · cases s
      · simp at hx; subst hx
        go_enter Tryz.func58, Tryz.ntmps58
        go_wp2_with fail
        refine HN.out.mono ?_
        rintro e w' ⟨rfl, rfl⟩
        go_wp2_with fail
        refine HS.out.mono ?_
        rintro e w' ⟨rfl, rfl⟩
        go_wp2_with fail
        go_ret
        exact ⟨rfl, rfl⟩
      · simp at hx; subst hx
        go_enter Tryz.func58, Tryz.ntmps58
        go_wp2_with fail
        refine HN.out.mono ?_
        rintro e w' ⟨rfl, rfl⟩
        go_wp2_with fail
        refine HS.out.mono ?_
        rintro e w' ⟨rfl, rfl⟩
        go_wp2_with fail
        go_ret
        exact ⟨rfl, rfl⟩
  · simp at hx; subst hx
    go_enter Tryz.func58, Tryz.ntmps58
    go_wp2_with fail
    refine HN.out.mono ?_
    rintro e w' ⟨rfl, rfl⟩
    go_wp2_with fail
    go_ret
    exact ⟨rfl, rfl⟩

theorem ap_order {a b : Nat} (ha : a < 18446744073709551616) (hb : b < 18446744073709551616) (w : World) : Calls Tryz.prog 25 #[.float .f64 a, .float .f64 b] w fun e w' => e = .returned (.int .i64 (ordF a b)) ∧ w = w' := by
  have hsa := hid (ap_standing ha w)
  have hsb := hid (ap_standing hb w)
  have h1 : (FloatKind.f64.format.order a b == some .lt) = (fnum a b && decide (srung a < srung b)) := order_lt a b
  have h2 : (FloatKind.f64.format.order a b == some .gt) = (fnum a b && decide (srung b < srung a)) := order_gt a b
  obtain ⟨x, hx⟩ : ∃ x, ordF a b = x := ⟨_, rfl⟩
  rw [hx]
  unfold ordF at hx
  generalize (fnum a b && decide (srung a < srung b)) = p at *
  generalize (fnum a b && decide (srung b < srung a)) = q at *
  have HX := hid hx
  clear hx
  cases p
  · cases q
    · go_enter Tryz.func25, Tryz.ntmps25
      go_wp2_with fail
      refine hsa.out.mono ?_
      rintro e w' ⟨rfl, rfl⟩
      go_wp2_with fail
      refine hsb.out.mono ?_
      rintro e w' ⟨rfl, rfl⟩
      go_wp2_with fail
      refine (cmp_int _ _ _).mono ?_
      rintro e w' ⟨rfl, rfl⟩
      go_wp2_with fail
      go_ret
      exact ⟨by rw [← HX.out]; simp, rfl⟩
    · go_enter Tryz.func25, Tryz.ntmps25
      go_wp2_with fail
      go_ret
      exact ⟨by rw [← HX.out]; simp, rfl⟩
  · go_enter Tryz.func25, Tryz.ntmps25
    go_wp2_with fail
    go_ret
    exact ⟨by rw [← HX.out]; simp, rfl⟩
end Go.Proofs.YtjnbonellgpjnaaGreat

set_option linter.unusedVariables false
set_option linter.unusedSimpArgs false
namespace Go.Proofs.YtjnbonellgpjnaaGreat
open Ieee

theorem log2_scale {n : Nat} (h : n ≠ 0) (j : Nat) : (n * 2 ^ j).log2 = n.log2 + j := by
  have hp : n * 2 ^ j ≠ 0 := Nat.mul_ne_zero h (Nat.ne_of_gt (Nat.two_pow_pos j))
  refine (Nat.log2_eq_iff hp).2 ⟨?_, ?_⟩
  · rw [Nat.pow_add]; exact Nat.mul_le_mul_right _ ((Nat.le_log2 h).1 (Nat.le_refl _))
  · rw [show n.log2 + j + 1 = (n.log2 + 1) + j by omega, Nat.pow_add]
    exact Nat.mul_lt_mul_of_pos_right Nat.lt_log2_self (Nat.two_pow_pos j)

theorem cut_scale (neg : Bool) {n : Nat} (h : n ≠ 0) (drop j : Nat) : Toward.even.cut neg (n * 2 ^ j) (drop + j) = Toward.even.cut neg n drop := by
  have hj : 0 < 2 ^ j := Nat.two_pow_pos j
  have e1 : (1 <<< min (drop + j) ((n * 2 ^ j).log2 + 2) : Nat) = (1 <<< min drop (n.log2 + 2)) * 2 ^ j := by
    rw [log2_scale h, Nat.shiftLeft_eq, Nat.shiftLeft_eq, Nat.one_mul, Nat.one_mul, ← Nat.pow_add]
    congr 1
    omega
  unfold Toward.cut
  dsimp only
  rw [e1]
  generalize (1 <<< min drop (n.log2 + 2) : Nat) = g
  have e2 : n * 2 ^ j / (g * 2 ^ j) = n / g := Nat.mul_div_mul_right _ _ hj
  have e3 : n * 2 ^ j % (g * 2 ^ j) = n % g * 2 ^ j := Nat.mul_mod_mul_right _ _ _
  rw [e2, e3]
  have e4 : decide (g * 2 ^ j < 2 * (n % g * 2 ^ j)) = decide (g < 2 * (n % g)) := by
    rw [← Nat.mul_assoc]
    simp [Nat.mul_lt_mul_right hj]
  have e5 : (g * 2 ^ j == 2 * (n % g * 2 ^ j)) = (g == 2 * (n % g)) := by
    rw [← Nat.mul_assoc, Bool.eq_iff_iff]
    simp only [beq_iff_eq]
    exact ⟨fun h => Nat.eq_of_mul_eq_mul_right hj h, fun h => congrArg (· * 2 ^ j) h⟩
  rw [e4, e5]

theorem cut_none (neg : Bool) (n : Nat) : Toward.even.cut neg n 0 = n := by
  unfold Toward.cut
  dsimp only
  have : (1 <<< min 0 (n.log2 + 2) : Nat) = 1 := by simp
  rw [this]
  simp [Nat.mod_one]

/-- The rounded word hangs on the number alone, however it is told. -/
theorem nearest_scale (neg : Bool) (m : Nat) (p : Int) (j : Nat) : double.nearest neg (m * 2 ^ j) (p - j) = double.nearest neg m p := by
  by_cases h : m = 0
  · subst h; simp [Format.nearest]
  · have hp : m * 2 ^ j ≠ 0 := Nat.mul_ne_zero h (Nat.ne_of_gt (Nat.two_pow_pos j))
    unfold Format.nearest
    rw [if_neg h, if_neg hp, log2_scale h]
    dsimp only
    have e : p - (j : Int) + ((m.log2 + j : Nat) : Int) - (double.fractionBits : Int) = p + (m.log2 : Int) - (double.fractionBits : Int) := by omega
    rw [e]
    generalize max (p + (m.log2 : Int) - (double.fractionBits : Int)) double.leastPlace = last
    have key : Toward.even.cut neg ((m * 2 ^ j) <<< (p - j - last).toNat) (last - (p - j)).toNat = Toward.even.cut neg (m <<< (p - last).toNat) (last - p).toNat := by
      rw [Nat.shiftLeft_eq, Nat.shiftLeft_eq]
      by_cases h1 : last ≤ p - j
      · have a1 : (last - (p - j)).toNat = 0 := by omega
        have a2 : (last - p).toNat = 0 := by omega
        rw [a1, a2, cut_none, cut_none, Nat.mul_assoc, ← Nat.pow_add]
        congr 2
        omega
      · have a1 : (p - j - last).toNat = 0 := by omega
        rw [a1, Nat.pow_zero, Nat.mul_one]
        by_cases h2 : p ≤ last
        · have a2 : (p - last).toNat = 0 := by omega
          have a3 : (last - (p - j)).toNat = (last - p).toNat + j := by omega
          rw [a2, a3, Nat.pow_zero, Nat.mul_one]
          exact cut_scale neg h _ j
        · have a2 : (last - p).toNat = 0 := by omega
          have a3 : j = (p - last).toNat + (last - (p - j)).toNat := by omega
          rw [a2]
          conv => lhs; arg 3; rw [a3, Nat.pow_add, ← Nat.mul_assoc]
          have := cut_scale neg (n := m * 2 ^ (p - last).toNat) (Nat.mul_ne_zero h (Nat.ne_of_gt (Nat.two_pow_pos _))) 0 (last - (p - j)).toNat
          rw [Nat.zero_add] at this
          exact this
    rw [key]

theorem log2_norm {N : Nat} (h1 : 4503599627370496 ≤ N) (h2 : N < 9007199254740992) : N.log2 = 52 :=
  (Nat.log2_eq_iff (by omega)).2 ⟨h1, h2⟩
theorem frac_d : (double.fractionBits : Int) = 52 := by decide
theorem word_eq (s : Bool) (r : Nat) : double.word s r = if s then 9223372036854775808 + r else r := by
  unfold Format.word; rw [signWeight_d]

/-- A number that the format has. -/
theorem nearest_norm (s : Bool) {F : Nat} (hF : F < 4503599627370496) {p : Int} (h1 : -1074 ≤ p) (h2 : p ≤ 971) : double.nearest s (4503599627370496 + F) p = double.word s ((p + 1075).toNat * 4503599627370496 + F) := by
  unfold Format.nearest
  rw [if_neg (by omega), log2_norm (by omega) (by omega), frac_d, least_d, binade_d, infRung_d]
  dsimp only
  have e : max (p + ((52 : Nat) : Int) - 52) (-1074) = p := by omega
  rw [e]
  have e2 : (p - p).toNat = 0 := by omega
  rw [e2, cut_none]
  simp only [Nat.shiftLeft_zero]
  congr 1
  have e3 : (p + 1075).toNat = (p - -1074).toNat + 1 := by omega
  have e4 : (p - -1074).toNat ≤ 2045 := by omega
  rw [e3]
  omega
theorem nearest_over (s : Bool) {F : Nat} (hF : F < 4503599627370496) {p : Int} (h2 : 972 ≤ p) : double.nearest s (4503599627370496 + F) p = double.word s 9218868437227405312 := by
  unfold Format.nearest
  rw [if_neg (by omega), log2_norm (by omega) (by omega), frac_d, least_d, binade_d, infRung_d]
  dsimp only
  have e : max (p + ((52 : Nat) : Int) - 52) (-1074) = p := by omega
  rw [e]
  have e2 : (p - p).toNat = 0 := by omega
  rw [e2, cut_none]
  simp only [Nat.shiftLeft_zero]
  congr 1
  have e4 : 2046 ≤ (p - -1074).toNat := by omega
  omega
theorem nearest_under (s : Bool) {F : Nat} (hF : F < 4503599627370496) {p : Int} (h2 : p ≤ -1128) : double.nearest s (4503599627370496 + F) p = double.word s 0 := by
  unfold Format.nearest
  rw [if_neg (by omega), log2_norm (by omega) (by omega), frac_d, least_d, binade_d, infRung_d]
  dsimp only
  have e : max (p + ((52 : Nat) : Int) - 52) (-1074) = -1074 := by omega
  rw [e]
  have e2 : (p - -1074).toNat = 0 := by omega
  have e3 : ((-1074 : Int) - -1074).toNat = 0 := by decide
  have e4 : Toward.even.cut s (4503599627370496 + F) (-1074 - p).toNat = 0 := by
    unfold Toward.cut
    dsimp only
    rw [log2_norm (by omega) (by omega)]
    have : min (-1074 - p).toNat (52 + 2) = 54 := by omega
    rw [this]
    have e5 : (1 <<< 54 : Nat) = 18014398509481984 := by decide
    rw [e5]
    have e6 : (4503599627370496 + F) / 18014398509481984 = 0 := by omega
    have e7 : (4503599627370496 + F) % 18014398509481984 = 4503599627370496 + F := by omega
    rw [e6, e7]
    have e8 : decide (18014398509481984 < 2 * (4503599627370496 + F)) = false := decide_eq_false (by omega)
    have e9 : ((18014398509481984 : Nat) == 2 * (4503599627370496 + F)) = false := beq_eq_false_iff_ne.2 (by omega)
    rw [e8, e9]
    rfl
  rw [e2, e3, Nat.shiftLeft_zero, e4]
  congr 1

/-- A subnormal number, and each other that is a rung's. -/
theorem nearest_mag (s : Bool) {r : Nat} (hr : r < 9218868437227405312) : double.nearest s (mag r) (-1074) = double.word s r := by
  by_cases h0 : r = 0
  · subst h0; rw [mag_zero]; unfold Format.nearest; rw [if_pos rfl]
  · by_cases h1 : r < 4503599627370496
    · have hm : mag r = r := if_pos h1
      rw [hm]
      unfold Format.nearest
      rw [if_neg h0, frac_d, least_d, binade_d, infRung_d]
      dsimp only
      have hl : r.log2 < 52 := (Nat.log2_lt h0).2 h1
      have e : max ((-1074 : Int) + (r.log2 : Int) - 52) (-1074) = -1074 := by omega
      rw [e]
      have e3 : ((-1074 : Int) - -1074).toNat = 0 := by decide
      rw [e3, Nat.shiftLeft_zero, cut_none]
      congr 1
      omega
    · have hm : mag r = (4503599627370496 + r % 4503599627370496) * 2 ^ (r / 4503599627370496 - 1) := if_neg h1
      have hq : r / 4503599627370496 - 1 ≤ 2045 := by omega
      have e : (-1074 : Int) = ((r / 4503599627370496 - 1 : Nat) : Int) - 1074 - ((r / 4503599627370496 - 1 : Nat) : Int) := by omega
      rw [hm, e, nearest_scale, nearest_norm s (Nat.mod_lt _ (by decide)) (by omega) (by omega)]
      congr 1
      have : (((r / 4503599627370496 - 1 : Nat) : Int) - 1074 + 1075).toNat = r / 4503599627370496 := by omega
      rw [this]
      omega
end Go.Proofs.YtjnbonellgpjnaaGreat

set_option linter.unusedVariables false
set_option linter.unusedSimpArgs false
namespace Go.Proofs.YtjnbonellgpjnaaGreat
open Go.RowKit

theorem rung_self {b : Nat} (h : b < 9223372036854775808) : rung b = b := Nat.mod_eq_of_lt h
theorem fneg_low {b : Nat} (h : b < 9223372036854775808) : fneg b = false := by unfold fneg; rw [Nat.div_eq_of_lt h]; rfl
theorem srung_low {b : Nat} (h : b < 9223372036854775808) : srung b = (b : Int) := by unfold srung; rw [fneg_low h, rung_self h]; rfl
theorem isNan_low {b : Nat} (h : b < 9218868437227405312) : isNan b = false := by unfold isNan; rw [rung_self (by omega)]; exact decide_eq_false (by omega)
theorem isInf_low {b : Nat} (h : b < 9218868437227405312) : isInf b = false := by unfold isInf; rw [rung_self (by omega)]; exact decide_eq_false (by omega)

set_option maxRecDepth 100000 in
theorem math_normalize_big {b : Nat} (h1 : 4503599627370496 ≤ b) (h2 : b < 9218868437227405312) (w : World) : Calls Tryz.prog 106 #[.float .f64 b] w fun e w' => e = .returned (.tuple #[.float .f64 b, .int .i64 0]) ∧ w = w' := by
  have HC := hid (math_abs (b := b) (by omega) w)
  rw [rung_self (by omega)] at HC
  have ht : (FloatKind.f64.format.order b 4503599627370496 == some .lt) = false := by
    have := order_lt b 4503599627370496
    rw [srung_low (by omega)] at this
    refine this.trans ?_
    have e : srung 4503599627370496 = 4503599627370496 := by decide
    rw [e]
    simp only [Bool.and_eq_false_iff, decide_eq_false_iff_not]
    exact .inr (by omega)
  go_enter Tryz.func106, Tryz.ntmps106
  go_wp2_with fail
  refine HC.out.mono ?_
  rintro e w' ⟨rfl, rfl⟩
  go_wp2_with fail
  go_ret2
  exact ⟨rfl, rfl⟩

/-! ### The bits of exponent and fraction -/
theorem and_low (x k : Nat) : x &&& (2 ^ k - 1) = x % 2 ^ k := Nat.and_two_pow_sub_one_eq_mod x k
theorem and_2047 {e : Nat} (he : e < 2048) : bits .and .u64 (e : Int) 2047 = (e : Int) := by
  have h := u64_and_nat e 2047 (by omega) (by decide)
  have h2 : e &&& 2047 = e := (and_low e 11).trans (Nat.mod_eq_of_lt he)
  rw [h2] at h
  exact h
theorem andNot_exp {b : Nat} (hb : b < 9223372036854775808) : bits .andNot .u64 (b : Int) 9218868437227405312 = ((b % 4503599627370496 : Nat) : Int) := by
  have h := u64_andNot_nat b 9218868437227405312 (by omega) (by decide)
  have e : b &&& (18446744073709551615 - 9218868437227405312) = b % 4503599627370496 := by
    have e1 : (18446744073709551615 - 9218868437227405312 : Nat) = 2 ^ 63 ||| (2 ^ 52 - 1) := by decide
    rw [e1, Nat.and_or_distrib_left, nat_bit 63 b, and_low b 52]
    have : b / 2 ^ 63 = 0 := Nat.div_eq_of_lt hb
    rw [this]
    simp
  rw [e] at h
  exact h
theorem or_exp {f e : Nat} (hf : f < 4503599627370496) (he : e < 4096) : bits .or .u64 (f : Int) ((e * 4503599627370496 : Nat) : Int) = ((e * 4503599627370496 + f : Nat) : Int) := by
  have h := u64_or_nat f (e * 4503599627370496) (by omega) (by omega)
  have e1 : f ||| e * 4503599627370496 = e * 4503599627370496 + f := by
    rw [Nat.or_comm]
    exact nat_join 52 (e * 4503599627370496) f (Nat.mul_mod_left _ _) hf
  rw [e1] at h
  exact h

set_option maxRecDepth 100000 in
theorem math_frexp_big {b E F : Nat} (hE : b / 4503599627370496 = E) (hF : b % 4503599627370496 = F) (h1 : 4503599627370496 ≤ b) (h2 : b < 9218868437227405312) (w : World) : Calls Tryz.prog 82 #[.float .f64 b] w fun e w' => e = .returned (.tuple #[.float .f64 (4602678819172646912 + F), .int .i64 ((E : Int) - 1022)]) ∧ w = w' := by
  have HN := hid (math_isNaN b w)
  have HI := hid (math_isInf0 (b := b) (by omega) w)
  rw [isNan_low h2] at HN
  rw [isInf_low h2] at HI
  have hz : (FloatKind.f64.format.order b 0 == some .eq) = false := by
    refine (eq_zero b).trans ?_
    unfold isZ0; rw [rung_self (by omega)]; exact decide_eq_false (by omega)
  have hb := run_bits b w
  have HM := hid (math_normalize_big h1 h2 w)
  have ha := andNot_exp (b := b) (by omega)
  rw [hF] at ha
  have ho : bits .or .u64 (F : Int) 4602678819172646912 = ((4602678819172646912 + F : Nat) : Int) := or_exp (f := F) (e := 1022) (by omega) (by omega)
  have hd : (b : Int) / 4503599627370496 = (E : Int) := by omega
  have h3 := and_2047 (e := E) (by omega)
  have w1 : wrap64 (E : Int) = (E : Int) := by unfold wrap64; omega
  have w2 : wrap64 ((E : Int) - 1023) = (E : Int) - 1023 := by unfold wrap64; omega
  have w3 : wrap64 ((E : Int) - 1023 + 1) = (E : Int) - 1022 := by unfold wrap64; omega
  have w4 : wrap64 ((E : Int) - 1022) = (E : Int) - 1022 := by unfold wrap64; omega
  have hf := run_frombits (4602678819172646912 + F) w
  obtain ⟨R, hR⟩ : ∃ R, 4602678819172646912 + F = R := ⟨_, rfl⟩
  rw [hR] at ho hf ⊢
  clear hR hE hF h1 h2
  go_enter Tryz.func82, Tryz.ntmps82
  go_wp2_with fail
  refine HI.out.mono ?_
  rintro e w' ⟨rfl, rfl⟩
  go_wp2_with fail
  refine HN.out.mono ?_
  rintro e w' ⟨rfl, rfl⟩
  go_wp2_with fail
  refine HM.out.mono ?_
  rintro e w' ⟨rfl, rfl⟩
  go_wp2_with fail
  go_ret2
  exact ⟨by simp [w4], rfl⟩

set_option maxRecDepth 100000 in
theorem math_frexp_zero (w : World) : Calls Tryz.prog 82 #[.float .f64 0] w fun e w' => e = .returned (.tuple #[.float .f64 0, .int .i64 0]) ∧ w = w' := by
  have hz : (FloatKind.f64.format.order 0 0 == some .eq) = true := eq_zero 0
  go_enter Tryz.func82, Tryz.ntmps82
  go_wp2_with fail
  go_ret2
  exact ⟨rfl, rfl⟩

/-- .. of any finite float that is not negative. -/
theorem math_Frexp {b : Nat} {r : Value} {w : World} (h : Calls Tryz.prog 82 #[.float .f64 b] w fun e w' => ∃ x y, e = .returned (.tuple #[.float .f64 x, .int .i64 y]) ∧ r = .tuple #[.float .f64 x, .int .i64 y] ∧ w = w') :
    Calls Tryz.prog 39 #[.float .f64 b] w fun e w' => e = .returned r ∧ w = w' := by
  have HH := hid h
  clear h
  go_enter Tryz.func39, Tryz.ntmps39
  go_wp2_with fail
  refine HH.out.mono ?_
  rintro e w' ⟨x, y, rfl, hr, rfl⟩
  go_wp2_with fail
  go_ret2
  exact ⟨by rw [hr]; rfl, rfl⟩

/-! ### Products -/
theorem product_fin {x y : Nat} (hx : rung x < 9218868437227405312) (hy : rung y < 9218868437227405312) : Ieee.double.mul x y = some (Ieee.double.nearest (fneg x ^^ fneg y) (mag (rung x) * mag (rung y)) (-2148)) := by
  obtain ⟨m, i, e1, e2⟩ := read_fin hx
  obtain ⟨n, j, e3, e4⟩ := read_fin hy
  unfold Ieee.Format.mul
  rw [e1, e3]
  show some (Ieee.double.nearest (fneg x ^^ fneg y) (m * n) ((i : Int) - 1074 + ((j : Int) - 1074))) = _
  rw [← e2, ← e4]
  have h := nearest_scale (fneg x ^^ fneg y) (m * n) ((i : Int) - 1074 + ((j : Int) - 1074)) (i + j)
  have e5 : ((i : Int) - 1074 + ((j : Int) - 1074) - ((i + j : Nat) : Int)) = -2148 := by omega
  have e6 : m * n * 2 ^ (i + j) = m * 2 ^ i * (n * 2 ^ j) := by
    rw [Nat.pow_add]
    generalize (2 : Nat) ^ i = p
    generalize (2 : Nat) ^ j = q
    ac_rfl
  rw [e5, e6] at h
  rw [h]
theorem mag_pow (e : Nat) : mag (e * 4503599627370496 + 4503599627370496) = 4503599627370496 * 2 ^ e := by
  unfold mag
  rw [if_neg (by omega)]
  have h1 : (e * 4503599627370496 + 4503599627370496) % 4503599627370496 = 0 := by omega
  have h2 : (e * 4503599627370496 + 4503599627370496) / 4503599627370496 - 1 = e := by omega
  rw [h1, h2]
theorem mag_norm {E F : Nat} (hF : F < 4503599627370496) : mag ((E + 1) * 4503599627370496 + F) = (4503599627370496 + F) * 2 ^ E := by
  unfold mag
  rw [if_neg (by omega)]
  have h1 : ((E + 1) * 4503599627370496 + F) % 4503599627370496 = F := by omega
  have h2 : ((E + 1) * 4503599627370496 + F) / 4503599627370496 - 1 = E := by omega
  rw [h1, h2]
/-- Times a power of two. -/
theorem mul_pow {x y E F e : Nat} (hx : x = e * 4503599627370496 + 4503599627370496) (hy : y = (E + 1) * 4503599627370496 + F) (hF : F < 4503599627370496) (hE : E ≤ 2045) (he : e ≤ 2045) : Ieee.double.mul x y = some (Ieee.double.nearest false (4503599627370496 + F) ((E : Int) + e - 2096)) := by
  have mx : mag x = 4503599627370496 * 2 ^ e := by rw [hx]; exact mag_pow e
  have my : mag y = (4503599627370496 + F) * 2 ^ E := by rw [hy]; exact mag_norm hF
  have lx : x < 9218868437227405312 := by omega
  have ly : y < 9218868437227405312 := by omega
  clear hx hy
  have r1 : rung x = x := rung_self (Nat.lt_trans lx (by decide))
  have r2 : rung y = y := rung_self (Nat.lt_trans ly (by decide))
  have s1 : fneg x = false := fneg_low (Nat.lt_trans lx (by decide))
  have s2 : fneg y = false := fneg_low (Nat.lt_trans ly (by decide))
  have h0 := product_fin (x := x) (y := y) (by rw [r1]; exact lx) (by rw [r2]; exact ly)
  rw [r1, r2, s1, s2, mx, my] at h0
  have h := nearest_scale false (4503599627370496 + F) ((E : Int) + e - 2096) (52 + E + e)
  have e1 : ((E : Int) + e - 2096 - ((52 + E + e : Nat) : Int)) = -2148 := by omega
  have e2 : (4503599627370496 + F) * 2 ^ (52 + E + e) = 4503599627370496 * 2 ^ e * ((4503599627370496 + F) * 2 ^ E) := by
    have e3 : (2 : Nat) ^ (52 + E + e) = 4503599627370496 * 2 ^ E * 2 ^ e := by rw [Nat.pow_add, Nat.pow_add]
    rw [e3]
    generalize (2 : Nat) ^ E = p
    generalize (2 : Nat) ^ e = q
    generalize 4503599627370496 + F = u
    generalize 4503599627370496 = v
    ac_rfl
  rw [e1, e2] at h
  rw [h0, ← h]
  rfl
end Go.Proofs.YtjnbonellgpjnaaGreat

set_option linter.unusedVariables false
set_option linter.unusedSimpArgs false
namespace Go.Proofs.YtjnbonellgpjnaaGreat
open Go.RowKit

theorem and_2047i {e : Nat} (he : e < 2048) : bits .and .i64 (e : Int) 2047 = (e : Int) := by
  have h := (bits_nat .i64 62 (by decide) (fun n h1 h2 => by rw [IntKind.wrap_i64]; omega) e 2047 (by omega) (by decide)).1
  have h2 : e &&& 2047 = e := (and_low e 11).trans (Nat.mod_eq_of_lt he)
  rw [h2] at h
  exact h
theorem wrap_id {x : Int} (h1 : -4611686018427387904 ≤ x) (h2 : x ≤ 4611686018427387904) : wrap64 x = x := by unfold wrap64; omega
/-- A normal float above 0: its word. -/
structure Norm (b E F : Nat) : Prop where
  word : b = (E + 1) * 4503599627370496 + F
  frac : F < 4503599627370496
  top : E ≤ 2045
theorem Norm.lt {b E F : Nat} (h : Norm b E F) : b < 9218868437227405312 := by have := h.word; have := h.frac; have := h.top; omega
theorem Norm.ge {b E F : Nat} (h : Norm b E F) : 4503599627370496 ≤ b := by have := h.word; have := h.frac; have := h.top; omega
theorem Norm.div {b E F : Nat} (h : Norm b E F) : b / 4503599627370496 = E + 1 := by have := h.word; have := h.frac; omega
theorem Norm.mod {b E F : Nat} (h : Norm b E F) : b % 4503599627370496 = F := by have := h.word; have := h.frac; omega

theorem ld_nums {E : Nat} {n : Int} (hE : E ≤ 2045) (h1 : -1000000 ≤ n) (h2 : n ≤ 1000000) : ∃ (E1 : Nat) (d x : Int), E + 1 = E1 ∧ wrap64 n = n ∧ wrap64 (E1 : Int) = (E1 : Int) ∧ wrap64 ((E1 : Int) - 1023) = d ∧ wrap64 (n + d) = x ∧ x = n + E - 1022 := by
  refine ⟨E + 1, (E : Int) - 1022, n + E - 1022, rfl, wrap_id (by omega) (by omega), wrap_id (by omega) (by omega), ?_, ?_, rfl⟩
  · rw [wrap_id (by omega) (by omega)]; omega
  · rw [wrap_id (by omega) (by omega)]; omega
theorem ld_in {x : Int} (h1 : -1022 ≤ x) (h2 : x ≤ 1023) : ∃ X : Nat, decide (x < -1075) = false ∧ decide (x > 1023) = false ∧ decide (x < -1022) = false ∧ wrap64 (x + 1023) = (X : Int) ∧ (X : Int) = x + 1023 := by
  refine ⟨(x + 1023).toNat, decide_eq_false (by omega), decide_eq_false (by omega), decide_eq_false (by omega), ?_, by omega⟩
  rw [wrap_id (by omega) (by omega)]; omega

theorem u64_id {X : Nat} (h : X < 18446744073709551616) : IntKind.u64.wrap (X : Int) = (X : Int) := by rw [IntKind.wrap_u64]; omega
theorem u64_shl {X : Nat} (h : X < 4096) : IntKind.u64.wrap ((X : Int) * 4503599627370496) = ((X * 4503599627370496 : Nat) : Int) := by rw [IntKind.wrap_u64]; omega
theorem run_mul {x y r : Nat} (t : TypeId) (w : World) (h : Ieee.double.mul x y = some r) : (binOp .mul t (.float .f64 x) (.float .f64 y)).run Tryz.prog w = .ok (.float .f64 r) w :=
  run_float_arith w .mul t .f64 x y r h
theorem one_word : 4607182418800017408 = 1022 * 4503599627370496 + 4503599627370496 := by decide
theorem tiny_word : 4368491638549381120 = 969 * 4503599627370496 + 4503599627370496 := by decide

set_option maxRecDepth 100000 in
set_option maxHeartbeats 300000 in
/-- Within: neither too small nor too great. -/
theorem math_ldexp_in {b E F : Nat} (h : Norm b E F) {n : Int} (h1 : -1022 ≤ n + E - 1022) (h2 : n + E - 1022 ≤ 1023) (w : World) :
    Calls Tryz.prog 84 #[.float .f64 b, .int .i64 n] w fun e w' => e = .returned (.float .f64 (Ieee.double.nearest false (4503599627370496 + F) (n + E - 1074))) ∧ w = w' := by
  obtain ⟨E1, d, x, hE1, w0, w1, w2, w3, hx⟩ := ld_nums (E := E) (n := n) h.top (by have := h.top; omega) (by have := h.top; omega)
  obtain ⟨X, t1, t2, t3, w4, hX⟩ := ld_in (x := x) (by omega) (by omega)
  have hXl : 1 ≤ X ∧ X ≤ 2046 := by omega
  have hXe : ((X - 1 : Nat) : Int) + (1022 : Nat) - 2096 = n + E - 1074 := by omega
  have hmul := mul_pow (x := 4607182418800017408) (y := X * 4503599627370496 + F) (E := X - 1) (F := F) (e := 1022) one_word (by rw [Nat.sub_add_cancel hXl.1]) h.frac (by omega) (by decide)
  rw [hXe] at hmul
  have hm := run_mul 30 w hmul
  have w5 := u64_id (X := X) (by omega)
  have w6 := u64_shl (X := X) (by omega)
  have ho := or_exp (f := F) (e := X) h.frac (by omega)
  have hf := run_frombits (X * 4503599627370496 + F) w
  obtain ⟨R, hR⟩ : ∃ R, X * 4503599627370496 + F = R := ⟨_, rfl⟩
  obtain ⟨Q, hQ⟩ : ∃ Q, Ieee.double.nearest false (4503599627370496 + F) (n + E - 1074) = Q := ⟨_, rfl⟩
  obtain ⟨Y, hY⟩ : ∃ Y, X * 4503599627370496 = Y := ⟨_, rfl⟩
  rw [hR] at hm ho hf
  rw [hQ] at hm
  rw [hQ]
  rw [hY] at w6 ho
  clear hmul hXl hXe hR hQ hY
  have HX : Hid ((X : Int) = n + E + 1) := hid (by omega)
  have HE1 := hid hE1
  have hd : (b : Int) / 4503599627370496 = (E1 : Int) := by have := h.div; omega
  have h3 := and_2047i (e := E1) (by have := h.top; omega)
  clear h1 h2 hx hX hE1
  have HN := hid (math_isNaN b w)
  have HI := hid (math_isInf0 (b := b) (Nat.lt_trans h.lt (by decide)) w)
  rw [isNan_low h.lt] at HN
  rw [isInf_low h.lt] at HI
  have hz : (FloatKind.f64.format.order b 0 == some .eq) = false := by
    refine (eq_zero b).trans ?_
    unfold isZ0; rw [rung_self (Nat.lt_trans h.lt (by decide))]; exact decide_eq_false (Nat.ne_of_gt (Nat.lt_of_lt_of_le (by decide) h.ge))
  have HM := hid (math_normalize_big h.ge h.lt w)
  have hb := run_bits b w
  have ha := andNot_exp (b := b) (Nat.lt_trans h.lt (by decide))
  rw [h.mod] at ha
  have HH := hid h
  clear h
  go_enter Tryz.func84, Tryz.ntmps84
  go_wp2_with fail
  refine HI.out.mono ?_
  rintro e w' ⟨rfl, rfl⟩
  go_wp2_with fail
  refine HN.out.mono ?_
  rintro e w' ⟨rfl, rfl⟩
  go_wp2_with fail
  refine HM.out.mono ?_
  rintro e w' ⟨rfl, rfl⟩
  go_wp2_with fail
  go_ret
  exact ⟨rfl, rfl⟩
theorem ld_low {x : Int} (h1 : -1075 ≤ x) (h2 : x < -1022) : ∃ (X : Nat) (x' : Int), decide (x < -1075) = false ∧ decide (x > 1023) = false ∧ decide (x < -1022) = true ∧ wrap64 (x + 53) = x' ∧ wrap64 (x' + 1023) = (X : Int) ∧ (X : Int) = x + 1076 := by
  refine ⟨(x + 1076).toNat, x + 53, decide_eq_false (by omega), decide_eq_false (by omega), decide_eq_true (by omega), wrap_id (by omega) (by omega), ?_, by omega⟩
  rw [wrap_id (by omega) (by omega)]; omega

set_option maxRecDepth 100000 in
set_option maxHeartbeats 300000 in
/-- Below the normal ones. -/
theorem math_ldexp_low {b E F : Nat} (h : Norm b E F) {n : Int} (h1 : -1075 ≤ n + E - 1022) (h2 : n + E - 1022 < -1022) (w : World) :
    Calls Tryz.prog 84 #[.float .f64 b, .int .i64 n] w fun e w' => e = .returned (.float .f64 (Ieee.double.nearest false (4503599627370496 + F) (n + E - 1074))) ∧ w = w' := by
  obtain ⟨E1, d, x, hE1, w0, w1, w2, w3, hx⟩ := ld_nums (E := E) (n := n) h.top (by have := h.top; omega) (by have := h.top; omega)
  obtain ⟨X, x', t1, t2, t3, w41, w4, hX⟩ := ld_low (x := x) (by omega) (by omega)
  have hXl : 1 ≤ X ∧ X ≤ 53 := by omega
  have hXe : ((X - 1 : Nat) : Int) + (969 : Nat) - 2096 = n + E - 1074 := by omega
  have hmul := mul_pow (x := 4368491638549381120) (y := X * 4503599627370496 + F) (E := X - 1) (F := F) (e := 969) tiny_word (by rw [Nat.sub_add_cancel hXl.1]) h.frac (by omega) (by decide)
  rw [hXe] at hmul
  have hm := run_mul 30 w hmul
  have w5 := u64_id (X := X) (by omega)
  have w6 := u64_shl (X := X) (by omega)
  have ho := or_exp (f := F) (e := X) h.frac (by omega)
  have hf := run_frombits (X * 4503599627370496 + F) w
  obtain ⟨R, hR⟩ : ∃ R, X * 4503599627370496 + F = R := ⟨_, rfl⟩
  obtain ⟨Q, hQ⟩ : ∃ Q, Ieee.double.nearest false (4503599627370496 + F) (n + E - 1074) = Q := ⟨_, rfl⟩
  obtain ⟨Y, hY⟩ : ∃ Y, X * 4503599627370496 = Y := ⟨_, rfl⟩
  rw [hR] at hm ho hf
  rw [hQ] at hm
  rw [hQ]
  rw [hY] at w6 ho
  clear hmul hXl hXe hR hQ hY
  have HX : Hid ((X : Int) = n + E + 54) := hid (by omega)
  have HE1 := hid hE1
  have hd : (b : Int) / 4503599627370496 = (E1 : Int) := by have := h.div; omega
  have h3 := and_2047i (e := E1) (by have := h.top; omega)
  clear h1 h2 hx hX hE1
  have HN := hid (math_isNaN b w)
  have HI := hid (math_isInf0 (b := b) (Nat.lt_trans h.lt (by decide)) w)
  rw [isNan_low h.lt] at HN
  rw [isInf_low h.lt] at HI
  have hz : (FloatKind.f64.format.order b 0 == some .eq) = false := by
    refine (eq_zero b).trans ?_
    unfold isZ0; rw [rung_self (Nat.lt_trans h.lt (by decide))]; exact decide_eq_false (Nat.ne_of_gt (Nat.lt_of_lt_of_le (by decide) h.ge))
  have HM := hid (math_normalize_big h.ge h.lt w)
  have hb := run_bits b w
  have ha := andNot_exp (b := b) (Nat.lt_trans h.lt (by decide))
  rw [h.mod] at ha
  have HH := hid h
  clear h
  go_enter Tryz.func84, Tryz.ntmps84
  go_wp2_with fail
  refine HI.out.mono ?_
  rintro e w' ⟨rfl, rfl⟩
  go_wp2_with fail
  refine HN.out.mono ?_
  rintro e w' ⟨rfl, rfl⟩
  go_wp2_with fail
  refine HM.out.mono ?_
  rintro e w' ⟨rfl, rfl⟩
  go_wp2_with fail
  go_ret
  exact ⟨rfl, rfl⟩
set_option maxRecDepth 100000 in
set_option maxHeartbeats 300000 in
/-- Too small. -/
theorem math_ldexp_under {b E F : Nat} (h : Norm b E F) {n : Int} (h1 : -1000000 ≤ n) (h2 : n + E - 1022 < -1075) (w : World) :
    Calls Tryz.prog 84 #[.float .f64 b, .int .i64 n] w fun e w' => e = .returned (.float .f64 (Ieee.double.nearest false (4503599627370496 + F) (n + E - 1074))) ∧ w = w' := by
  obtain ⟨E1, d, x, hE1, w0, w1, w2, w3, hx⟩ := ld_nums (E := E) (n := n) h.top (by have := h.top; omega) (by have := h.top; omega)
  have t1 : decide (x < -1075) = true := decide_eq_true (by omega)
  rw [nearest_under false h.frac (p := n + E - 1074) (by omega)]
  rw [show Ieee.double.word false 0 = 0 from rfl]
  have HE1 := hid hE1
  have hd : (b : Int) / 4503599627370496 = (E1 : Int) := by have := h.div; omega
  have h3 := and_2047i (e := E1) (by have := h.top; omega)
  clear h1 h2 hx hE1
  have HN := hid (math_isNaN b w)
  have HI := hid (math_isInf0 (b := b) (Nat.lt_trans h.lt (by decide)) w)
  rw [isNan_low h.lt] at HN
  rw [isInf_low h.lt] at HI
  have hz : (FloatKind.f64.format.order b 0 == some .eq) = false := by
    refine (eq_zero b).trans ?_
    unfold isZ0; rw [rung_self (Nat.lt_trans h.lt (by decide))]; exact decide_eq_false (Nat.ne_of_gt (Nat.lt_of_lt_of_le (by decide) h.ge))
  have HM := hid (math_normalize_big h.ge h.lt w)
  have hb := run_bits b w
  have ha := andNot_exp (b := b) (Nat.lt_trans h.lt (by decide))
  rw [h.mod] at ha
  have HCS := hid (math_copysign (b := 0) (c := b) (by decide) (Nat.lt_trans h.lt (by decide)) w)
  rw [fneg_low (Nat.lt_trans h.lt (by decide)), show wordOf false (rung 0) = 0 from rfl] at HCS
  have HH := hid h
  clear h
  go_enter Tryz.func84, Tryz.ntmps84
  go_wp2_with fail
  refine HI.out.mono ?_
  rintro e w' ⟨rfl, rfl⟩
  go_wp2_with fail
  refine HN.out.mono ?_
  rintro e w' ⟨rfl, rfl⟩
  go_wp2_with fail
  refine HM.out.mono ?_
  rintro e w' ⟨rfl, rfl⟩
  go_wp2_with fail
  refine HCS.out.mono ?_
  rintro e w' ⟨rfl, rfl⟩
  go_wp2_with fail
  go_ret
  exact ⟨rfl, rfl⟩
set_option maxRecDepth 100000 in
set_option maxHeartbeats 300000 in
/-- Too great. -/
theorem math_ldexp_over {b E F : Nat} (h : Norm b E F) {n : Int} (h1 : n ≤ 1000000) (h2 : 1023 < n + E - 1022) (w : World) :
    Calls Tryz.prog 84 #[.float .f64 b, .int .i64 n] w fun e w' => e = .returned (.float .f64 (Ieee.double.nearest false (4503599627370496 + F) (n + E - 1074))) ∧ w = w' := by
  obtain ⟨E1, d, x, hE1, w0, w1, w2, w3, hx⟩ := ld_nums (E := E) (n := n) h.top (by have := h.top; omega) (by have := h.top; omega)
  have t1 : decide (x < -1075) = false := decide_eq_false (by omega)
  have t2 : decide (x > 1023) = true := decide_eq_true (by omega)
  rw [nearest_over false h.frac (p := n + E - 1074) (by omega)]
  rw [show Ieee.double.word false 9218868437227405312 = 9218868437227405312 from rfl]
  have HE1 := hid hE1
  have hd : (b : Int) / 4503599627370496 = (E1 : Int) := by have := h.div; omega
  have h3 := and_2047i (e := E1) (by have := h.top; omega)
  clear h1 h2 hx hE1
  have HN := hid (math_isNaN b w)
  have HI := hid (math_isInf0 (b := b) (Nat.lt_trans h.lt (by decide)) w)
  rw [isNan_low h.lt] at HN
  rw [isInf_low h.lt] at HI
  have hz : (FloatKind.f64.format.order b 0 == some .eq) = false := by
    refine (eq_zero b).trans ?_
    unfold isZ0; rw [rung_self (Nat.lt_trans h.lt (by decide))]; exact decide_eq_false (Nat.ne_of_gt (Nat.lt_of_lt_of_le (by decide) h.ge))
  have HM := hid (math_normalize_big h.ge h.lt w)
  have hb := run_bits b w
  have ha := andNot_exp (b := b) (Nat.lt_trans h.lt (by decide))
  rw [h.mod] at ha
  have HCS := hid (math_inf 1 w)
  rw [if_pos (by decide)] at HCS
  have hneg : (FloatKind.f64.format.order b 0 == some .lt) = false := by
    refine (order_lt b 0).trans ?_
    rw [srung_low (Nat.lt_trans h.lt (by decide)), show srung 0 = 0 by decide]
    simp only [Bool.and_eq_false_iff, decide_eq_false_iff_not]
    exact .inr (by omega)
  have HH := hid h
  clear h
  go_enter Tryz.func84, Tryz.ntmps84
  go_wp2_with fail
  refine HI.out.mono ?_
  rintro e w' ⟨rfl, rfl⟩
  go_wp2_with fail
  refine HN.out.mono ?_
  rintro e w' ⟨rfl, rfl⟩
  go_wp2_with fail
  refine HM.out.mono ?_
  rintro e w' ⟨rfl, rfl⟩
  go_wp2_with fail
  refine HCS.out.mono ?_
  rintro e w' ⟨rfl, rfl⟩
  go_wp2_with fail
  go_ret
  exact ⟨rfl, rfl⟩
/-- Ldexp of a normal float above 0: the number, rounded once. -/
theorem math_ldexp {b E F : Nat} (h : Norm b E F) {n : Int} (h1 : -1000000 ≤ n) (h2 : n ≤ 1000000) (w : World) :
    Calls Tryz.prog 84 #[.float .f64 b, .int .i64 n] w fun e w' => e = .returned (.float .f64 (Ieee.double.nearest false (4503599627370496 + F) (n + E - 1074))) ∧ w = w' := by
  rcases Int.lt_or_le (n + E - 1022) (-1075) with g | g
  · exact math_ldexp_under h h1 g w
  · rcases Int.lt_or_le (n + E - 1022) (-1022) with g2 | g2
    · exact math_ldexp_low h g g2 w
    · rcases Int.lt_or_le 1023 (n + E - 1022) with g3 | g3
      · exact math_ldexp_over h h2 g3 w
      · exact math_ldexp_in h g2 g3 w
set_option maxRecDepth 100000 in
theorem math_ldexp_zero (n : Int) (w : World) : Calls Tryz.prog 84 #[.float .f64 0, .int .i64 n] w fun e w' => e = .returned (.float .f64 0) ∧ w = w' := by
  have hz : (FloatKind.f64.format.order 0 0 == some .eq) = true := eq_zero 0
  go_enter Tryz.func84, Tryz.ntmps84
  go_wp2_with fail
  go_ret
  exact ⟨rfl, rfl⟩
theorem math_Ldexp {b r : Nat} {n : Int} {w : World} (h : Calls Tryz.prog 84 #[.float .f64 b, .int .i64 n] w fun e w' => e = .returned (.float .f64 r) ∧ w = w') :
    Calls Tryz.prog 41 #[.float .f64 b, .int .i64 n] w fun e w' => e = .returned (.float .f64 r) ∧ w = w' := by
  have HH := hid h
  clear h
  go_enter Tryz.func41, Tryz.ntmps41
  go_wp2_with fail
  refine HH.out.mono ?_
  rintro e w' ⟨rfl, rfl⟩
  go_wp2_with fail
  go_ret
  exact ⟨rfl, rfl⟩
end Go.Proofs.YtjnbonellgpjnaaGreat
