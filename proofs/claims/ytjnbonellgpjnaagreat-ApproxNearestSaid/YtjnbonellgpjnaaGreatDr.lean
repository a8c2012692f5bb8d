/- The order of fractions, plain, and that of the floats that they become. -/
import Derived.Test.YtjnbonellgpjnaaGreatRa2
import Derived.Test.YtjnbonellgpjnaaGreatDa
import Derived.Test.YtjnbonellgpjnaaGreatKP
set_option linter.unusedVariables false
set_option linter.unusedSimpArgs false
namespace Go.Proofs.YtjnbonellgpjnaaGreat
open Go.RowKit

/-- The float that a plain fraction becomes. -/
noncomputable def tq (A : Int) (C : Nat) : Nat := if A = 0 then 0 else wordOf (decide (A < 0)) (nearF A.natAbs C)
noncomputable def kq (A : Int) (C : Nat) : Int := if A = 0 then 0 else if A < 0 then -(nearF A.natAbs C : Int) else (nearF A.natAbs C : Int)

theorem srung_word (s : Bool) {r : Nat} (h : r < 9223372036854775808) : srung (wordOf s r) = if s then -(r : Int) else (r : Int) := by
  unfold srung
  rw [rung_word s h]
  have : fneg (wordOf s r) = s := by unfold fneg wordOf; cases s <;> simp <;> omega
  rw [this]
theorem nearF_lt (a d : Nat) : nearF a d < 9223372036854775808 := by have := nearF_le a d; omega
theorem tq_lt (A : Int) (C : Nat) : tq A C < 18446744073709551616 := by
  unfold tq
  split
  · decide
  · have := nearF_le A.natAbs C
    unfold wordOf; split <;> omega
theorem tq_srung (A : Int) (C : Nat) : srung (tq A C) = kq A C := by
  unfold tq kq
  by_cases h : A = 0
  · rw [if_pos h, if_pos h]; decide
  · rw [if_neg h, if_neg h, srung_word _ (nearF_lt _ _)]
    by_cases h2 : A < 0 <;> simp [h2]
theorem tq_rung (A : Int) (C : Nat) : rung (tq A C) ≤ 9218868437227405312 := by
  unfold tq
  split
  · decide
  · rw [rung_word _ (nearF_lt _ _)]; exact nearF_le _ _
theorem tq_num (A : Int) (C : Nat) : isNan (tq A C) = false := by
  have := tq_rung A C
  unfold isNan; simp; omega

/-- To hangs on the plain form. -/
theorem toF_plain (n : Bool) (l d : List Nat) : toF n (val l) (val d) = tq (qnum (zval n l) (val d)) (qden (zval n l) (val d)) := by
  unfold toF tq
  by_cases h0 : val d = 0
  · rw [if_pos (Or.inl h0), h0, qnum_zero, if_pos rfl]
  by_cases h1 : val l = 0
  · have hz : zval n l = 0 := (zval_zero_iff n l).2 h1
    rw [if_pos (Or.inr h1), hz, if_pos]
    unfold qnum; split <;> simp
  have hz : zval n l ≠ 0 := fun e => h1 ((zval_zero_iff n l).1 e)
  have hc := q_crossD (zval n l) h0
  have hd := qden_ne (zval n l) (val d)
  generalize hA : qnum (zval n l) (val d) = A at *
  generalize hC : qden (zval n l) (val d) = C at *
  have hA0 : A ≠ 0 := by
    intro e
    rw [e, Int.zero_mul] at hc
    rcases Int.mul_eq_zero.1 hc.symm with h | h
    · exact hz h
    · omega
  rw [if_neg (by omega), if_neg hA0]
  have habs : A.natAbs * val d = val l * C := by
    have := congrArg Int.natAbs hc
    rw [Int.natAbs_mul, Int.natAbs_mul, zval_abs] at this
    simpa using this
  have hr : nearF (val l) (val d) = nearF A.natAbs C := nearF_ratio (by omega) (by omega) (by omega) (by omega) habs.symm
  rw [hr]
  congr 1
  have hd' : (0 : Int) < (val d : Int) := by omega
  have hC' : (0 : Int) < (C : Int) := by omega
  have s1 : A < 0 ↔ zval n l < 0 := by
    constructor
    · intro h
      have h2 := Int.mul_neg_of_neg_of_pos h hd'
      rw [hc] at h2
      rcases Int.lt_or_le (zval n l) 0 with h3 | h3
      · exact h3
      · have := Int.mul_nonneg h3 (Int.le_of_lt hC'); omega
    · intro h
      have h2 := Int.mul_neg_of_neg_of_pos h hC'
      rw [← hc] at h2
      rcases Int.lt_or_le A 0 with h3 | h3
      · exact h3
      · have := Int.mul_nonneg h3 (Int.le_of_lt hd'); omega
  cases n with
  | false =>
    have : ¬ A < 0 := fun h => by have := s1.1 h; simp [zval] at this; omega
    simp [this]
  | true =>
    have : A < 0 := s1.2 (by simp [zval]; omega)
    simp [this]

/-- Floats keep the order. -/
theorem kq_mono {A B : Int} {C D : Nat} (hC : 0 < C) (hD : 0 < D) (h : A * (D : Int) ≤ B * (C : Int)) : kq A C ≤ kq B D := by
  have hC' : (0 : Int) < (C : Int) := by omega
  have hD' : (0 : Int) < (D : Int) := by omega
  unfold kq
  rcases Int.lt_trichotomy A 0 with a | a | a
  · rcases Int.lt_trichotomy B 0 with b | b | b
    · rw [if_neg (by omega), if_pos a, if_neg (by omega), if_pos b]
      have hn : B.natAbs * C ≤ A.natAbs * D := by
        have e1 : ((B.natAbs * C : Nat) : Int) = -(B * (C : Int)) := by rw [Int.natCast_mul, show (B.natAbs : Int) = -B by omega, Int.neg_mul]
        have e2 : ((A.natAbs * D : Nat) : Int) = -(A * (D : Int)) := by rw [Int.natCast_mul, show (A.natAbs : Int) = -A by omega, Int.neg_mul]
        omega
      have := nearF_mono (a := B.natAbs) (d := D) (b := A.natAbs) (c := C) (by omega) hD (by omega) hC hn
      omega
    · rw [if_neg (by omega), if_pos a, if_pos b]; omega
    · rw [if_neg (by omega), if_pos a, if_neg (by omega), if_neg (by omega)]; omega
  · subst a
    rw [if_pos rfl]
    rcases Int.lt_trichotomy B 0 with b | b | b
    · have := Int.mul_neg_of_neg_of_pos b hC'
      rw [Int.zero_mul] at h; omega
    · rw [if_pos b]; omega
    · rw [if_neg (by omega), if_neg (by omega)]; omega
  · have ha := Int.mul_pos a hD'
    rcases Int.lt_or_le 0 B with b | b
    · rw [if_neg (by omega), if_neg (by omega), if_neg (by omega), if_neg (by omega)]
      have hn : A.natAbs * D ≤ B.natAbs * C := by
        have e1 : ((B.natAbs * C : Nat) : Int) = B * (C : Int) := by rw [Int.natCast_mul, show (B.natAbs : Int) = B by omega]
        have e2 : ((A.natAbs * D : Nat) : Int) = A * (D : Int) := by rw [Int.natCast_mul, show (A.natAbs : Int) = A by omega]
        omega
      have := nearF_mono (a := A.natAbs) (d := C) (b := B.natAbs) (c := D) (by omega) hC (by omega) hD hn
      omega
    · have := Int.mul_nonpos_of_nonpos_of_nonneg b (Int.le_of_lt hC')
      omega
theorem tq_eq {A B : Int} {C D : Nat} (hC : 0 < C) (hD : 0 < D) (h : A * (D : Int) = B * (C : Int)) : tq A C = tq B D := by
  have hC' : (0 : Int) < (C : Int) := by omega
  have hD' : (0 : Int) < (D : Int) := by omega
  unfold tq
  rcases Int.lt_trichotomy A 0 with a | a | a
  · have h1 := Int.mul_neg_of_neg_of_pos a hD'
    have b : B < 0 := by
      rcases Int.lt_or_le B 0 with b | b
      · exact b
      · have := Int.mul_nonneg b (Int.le_of_lt hC'); omega
    rw [if_neg (by omega), if_neg (by omega), decide_eq_true a, decide_eq_true b]
    have hn : A.natAbs * D = B.natAbs * C := by
      have := congrArg Int.natAbs h
      rw [Int.natAbs_mul, Int.natAbs_mul] at this; simpa using this
    rw [nearF_ratio (by omega) hC (by omega) hD hn]
  · subst a
    rw [Int.zero_mul] at h
    have b : B = 0 := by
      rcases Int.mul_eq_zero.1 h.symm with b | b
      · exact b
      · omega
    rw [if_pos rfl, if_pos b]
  · have h1 := Int.mul_pos a hD'
    have b : 0 < B := by
      rcases Int.lt_or_le 0 B with b | b
      · exact b
      · have := Int.mul_nonpos_of_nonpos_of_nonneg b (Int.le_of_lt hC'); omega
    rw [if_neg (by omega), if_neg (by omega), decide_eq_false (show ¬ A < 0 by omega), decide_eq_false (show ¬ B < 0 by omega)]
    have hn : A.natAbs * D = B.natAbs * C := by
      have := congrArg Int.natAbs h
      rw [Int.natAbs_mul, Int.natAbs_mul] at this; simpa using this
    rw [nearF_ratio (by omega) hC (by omega) hD hn]
/-- The sign of the plain form is that of the fraction. -/
theorem sgnI_qnum {z : Int} {d : Nat} (h : 0 < d) : sgnI (qnum z d) = sgnI z := by
  have hc := q_crossD z (d := d) (by omega)
  have hd := qden_ne z d
  have h1 : (0 : Int) < (d : Int) := by omega
  have h2 : (0 : Int) < (qden z d : Int) := by omega
  generalize qnum z d = A at *
  generalize (qden z d : Int) = C at *
  generalize (d : Int) = D at *
  unfold sgnI
  rcases Int.lt_trichotomy A 0 with a | a | a
  · have := Int.mul_neg_of_neg_of_pos a h1
    have : z < 0 := by
      rcases Int.lt_or_le z 0 with b | b
      · exact b
      · have := Int.mul_nonneg b (Int.le_of_lt h2); omega
    rw [if_pos a, if_pos this]
  · subst a
    rw [Int.zero_mul] at hc
    have : z = 0 := by
      rcases Int.mul_eq_zero.1 hc.symm with b | b
      · exact b
      · omega
    simp [this]
  · have := Int.mul_pos a h1
    have : 0 < z := by
      rcases Int.lt_or_le 0 z with b | b
      · exact b
      · have := Int.mul_nonpos_of_nonpos_of_nonneg b (Int.le_of_lt h2); omega
    rw [if_neg (by omega), if_neg (by omega), if_neg (by omega), if_neg (by omega)]
end Go.Proofs.YtjnbonellgpjnaaGreat
