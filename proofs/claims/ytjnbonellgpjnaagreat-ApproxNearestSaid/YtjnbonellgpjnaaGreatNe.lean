/- No float is nearer to a fraction than the one that it becomes. No function of the program in it. -/
import Derived.Test.YtjnbonellgpjnaaGreatTa
import Derived.Test.YtjnbonellgpjnaaGreatDr
set_option linter.unusedVariables false
set_option linter.unusedSimpArgs false
namespace Go.Proofs.YtjnbonellgpjnaaGreat
open Go.RowKit

theorem rne_best (N D J : Nat) (hD : 0 < D) : ((N : Int) - (rne N D * D : Nat)).natAbs ≤ ((N : Int) - (J * D : Nat)).natAbs := by
  have h1 := Nat.div_add_mod N D
  have h2 := Nat.mod_lt N hD
  have hI : (rne N D = N / D ∧ 2 * (N % D) ≤ D) ∨ (rne N D = N / D + 1 ∧ D ≤ 2 * (N % D)) := by
    unfold rne
    split
    · rename_i h; right; exact ⟨rfl, by omega⟩
    · rename_i h; left; exact ⟨rfl, by omega⟩
  generalize N / D = Q at *
  generalize N % D = R at *
  rw [Nat.mul_comm] at h1
  have hJ : J * D ≤ Q * D ∨ (Q + 1) * D ≤ J * D := by
    rcases Nat.lt_or_ge Q J with h | h
    · exact .inr (Nat.mul_le_mul_right D h)
    · exact .inl (Nat.mul_le_mul_right D h)
  rw [Nat.succ_mul] at hJ
  rcases hI with ⟨e, h3⟩ | ⟨e, h3⟩
  · rw [e]
    generalize Q * D = X at *
    generalize J * D = Y at *
    omega
  · rw [e, Nat.succ_mul]
    generalize Q * D = X at *
    generalize J * D = Y at *
    omega

/-- A float from 2^(52+k) units on is a multiple of 2^k. -/
theorem mag_mult (r k : Nat) : (0 < k ∧ mag r < 4503599627370496 * 2 ^ k) ∨ ∃ J, mag r = J * 2 ^ k := by
  rcases Nat.eq_zero_or_pos k with h0 | h0
  · right; exact ⟨mag r, by rw [h0, Nat.pow_zero, Nat.mul_one]⟩
  rcases Nat.lt_or_ge (mag r) (4503599627370496 * 2 ^ k) with h | h
  · exact .inl ⟨h0, h⟩
  right
  have hk := Nat.two_pow_pos k
  by_cases hr : r < 4503599627370496
  · have e : mag r = r := if_pos hr
    have := Nat.mul_le_mul_left 4503599627370496 (show 1 ≤ 2 ^ k from hk)
    omega
  · have e : mag r = (4503599627370496 + r % 4503599627370496) * 2 ^ (r / 4503599627370496 - 1) := if_neg hr
    rw [e] at h ⊢
    have hF : r % 4503599627370496 < 4503599627370496 := Nat.mod_lt _ (by decide)
    generalize r % 4503599627370496 = F at *
    generalize r / 4503599627370496 - 1 = E at *
    have hkE : k ≤ E := by
      rcases Nat.lt_or_ge E k with g | g
      · have h5 : (2 : Nat) ^ (E + 1) ≤ 2 ^ k := Nat.pow_le_pow_right (by decide) g
        rw [Nat.pow_succ] at h5
        have h6 := Nat.mul_lt_mul_of_pos_right (show 4503599627370496 + F < 9007199254740992 by omega) (Nat.two_pow_pos E)
        generalize 2 ^ E = X at *
        generalize 2 ^ k = Y at *
        generalize (4503599627370496 + F) * X = Z at *
        omega
      · exact g
    exact ⟨(4503599627370496 + F) * 2 ^ (E - k), by rw [Nat.mul_assoc, ← Nat.pow_add, Nat.sub_add_cancel hkE]⟩

theorem near_core {a C : Nat} (ha : 0 < a) (hC : 0 < C) (hr : nearF a C < 9218868437227405312) (r' : Nat) :
    ((a * units : Nat) - (mag (nearF a C) * C : Nat) : Int).natAbs ≤ ((a * units : Nat) - (mag r' * C : Nat) : Int).natAbs := by
  obtain ⟨U, hU, hu⟩ := units_eq
  have hI := intF_le (a := a) hC
  have hpl : -1074 ≤ placeF a C ∧ (placeF a C = -1074 ∨ placeF a C = topF a C - 52) := by unfold placeF; omega
  have htop := topF_ge (a := a) (d := C) ha
  have hcan := near_canon ha hC
  have hnc : nearC a C = Ieee.double.nearest false (intF a C) (placeF a C) := rfl
  rw [hnc] at hcan
  have hIN : intF a C = rne (a * 2 ^ (-placeF a C).toNat) (C * 2 ^ (placeF a C).toNat) := rfl
  obtain ⟨t, ht⟩ : ∃ t, topF a C = t := ⟨_, rfl⟩
  rw [ht] at hpl htop
  obtain ⟨p, hp⟩ : ∃ p, placeF a C = p := ⟨_, rfl⟩
  rw [hp] at hpl hcan hIN
  obtain ⟨I, hIv⟩ : ∃ I, intF a C = I := ⟨_, rfl⟩
  rw [hIv] at hI hcan hIN
  have hmag : mag (nearF a C) = I * 2 ^ (p + 1074).toNat := by
    rcases at_place hI hpl.1 with ⟨-, h2⟩ | ⟨-, h2⟩
    · rw [hcan]; exact h2
    · rw [hcan, h2 p (Int.le_refl _)] at hr; omega
  rw [hmag]
  obtain ⟨k, hk⟩ : ∃ k, (p + 1074).toNat = k := ⟨_, rfl⟩
  rw [hk]
  -- the common scale
  obtain ⟨c, N, D, hc1, hc2, hD, hR⟩ : ∃ c N D : Nat, a * units = c * N ∧ 2 ^ k * C = c * D ∧ 0 < D ∧ I = rne N D := by
    by_cases h0 : p < 0
    · refine ⟨2 ^ k, a * 2 ^ (-p).toNat, C * 2 ^ p.toNat, ?_, ?_, Nat.mul_pos hC (Nat.two_pow_pos _), hIN⟩
      · rw [hu, Nat.mul_left_comm, ← Nat.pow_add]
        refine congrArg (fun n => a * 2 ^ n) ?_
        clear hu
        omega
      · rw [show p.toNat = 0 by omega, Nat.pow_zero, Nat.mul_one]
    · refine ⟨2 ^ U, a * 2 ^ (-p).toNat, C * 2 ^ p.toNat, ?_, ?_, Nat.mul_pos hC (Nat.two_pow_pos _), hIN⟩
      · rw [hu, show (-p).toNat = 0 by omega, Nat.pow_zero, Nat.mul_one, Nat.mul_comm]
      · rw [Nat.mul_left_comm, ← Nat.pow_add, Nat.mul_comm]
        refine congrArg (fun n => C * 2 ^ n) ?_
        clear hu
        omega
  have key : ∀ J : Nat, ((a * units : Nat) - (I * 2 ^ k * C : Nat) : Int).natAbs ≤ ((a * units : Nat) - (J * 2 ^ k * C : Nat) : Int).natAbs := fun J => by
    have hb := rne_best N D J hD
    rw [← hR] at hb
    have e1 : ∀ M : Nat, ((a * units : Nat) - (M * 2 ^ k * C : Nat) : Int) = (c : Int) * ((N : Int) - (M * D : Nat)) := fun M => by
      rw [hc1, Nat.mul_assoc M, hc2, Int.mul_sub, Int.natCast_mul, Int.natCast_mul, Int.natCast_mul, Int.natCast_mul]
      rw [Int.mul_left_comm (M : Int)]
    rw [e1, e1, Int.natAbs_mul, Int.natAbs_mul]
    exact Nat.mul_le_mul_left _ hb
  rcases mag_mult r' k with ⟨k0, hlt⟩ | ⟨J, hJ⟩
  · refine Nat.le_trans (key 4503599627370496) ?_
    -- what is below 2^(52+k) is farther than that
    have hpt : p = t - 52 := by rcases hpl.2 with h | h <;> omega
    have hjk : ((k + 52 : Nat) : Int) = (U : Int) + t := by clear hu; omega
    have h3 : ¬ a * 2 ^ U < C * 2 ^ (k + 52) := fun h => htop ((lt2_iff U (k + 52) hjk).2 h)
    rw [← hu, Nat.pow_add] at h3
    have h4 : 4503599627370496 * 2 ^ k * C ≤ a * units := by
      have e : C * (2 ^ k * 2 ^ 52) = 4503599627370496 * 2 ^ k * C := by
        rw [show (2 : Nat) ^ 52 = 4503599627370496 by decide]
        simp only [Nat.mul_assoc, Nat.mul_comm, Nat.mul_left_comm]
      rw [e] at h3; omega
    have h5 := Nat.mul_le_mul_right C (Nat.le_of_lt hlt)
    generalize 4503599627370496 * 2 ^ k * C = X at *
    generalize mag r' * C = Y at *
    generalize a * units = Z at *
    omega
  · rw [hJ]; exact key J

theorem smag_tq (A : Int) (C : Nat) : smag (tq A C) = if A = 0 then 0 else if A < 0 then -(mag (nearF A.natAbs C) : Int) else (mag (nearF A.natAbs C) : Int) := by
  unfold tq
  by_cases h : A = 0
  · rw [if_pos h, if_pos h]; decide
  · rw [if_neg h, if_neg h]
    unfold smag
    rw [rung_word _ (nearF_lt _ _)]
    have : fneg (wordOf (decide (A < 0)) (nearF A.natAbs C)) = decide (A < 0) := by
      have := nearF_lt A.natAbs C
      unfold fneg wordOf; cases decide (A < 0) <;> simp <;> omega
    rw [this]
    by_cases h2 : A < 0 <;> simp [h2]

/-- .. with signs. -/
theorem near_signed {A : Int} {C : Nat} (hC : 0 < C) (hr : rung (tq A C) < 9218868437227405312) (b : Nat) :
    (A * (units : Int) - smag (tq A C) * (C : Int)).natAbs ≤ (A * (units : Int) - smag b * (C : Int)).natAbs := by
  rw [smag_tq]
  by_cases h0 : A = 0
  · rw [if_pos h0, h0]; simp
  have hfin : nearF A.natAbs C < 9218868437227405312 := by
    unfold tq at hr
    rw [if_neg h0, rung_word _ (nearF_lt _ _)] at hr
    exact hr
  have hpos : 0 < A.natAbs := by omega
  have k1 := near_core hpos hC hfin (rung b)
  have k0 := near_core hpos hC hfin 0
  rw [mag_zero, Nat.zero_mul] at k0
  rw [if_neg h0]
  unfold smag
  have hAU : ((A.natAbs * units : Nat) : Int) = (A.natAbs : Int) * (units : Int) := Int.natCast_mul _ _
  generalize hM : mag (nearF A.natAbs C) = M at *
  generalize mag (rung b) = R at *
  have e1 : ((M * C : Nat) : Int) = (M : Int) * (C : Int) := Int.natCast_mul _ _
  have e2 : ((R * C : Nat) : Int) = (R : Int) * (C : Int) := Int.natCast_mul _ _
  rw [hAU, e1] at k1 k0
  rw [e2] at k1
  have hu : (0 : Int) < (units : Int) := by have := units_pos; omega
  have hRC : 0 ≤ (R : Int) * (C : Int) := by omega
  have hMC : 0 ≤ (M : Int) * (C : Int) := by omega
  by_cases hn : A < 0
  · rw [if_pos hn]
    have hA2 : (A.natAbs : Int) * (units : Int) = -(A * (units : Int)) := by rw [show (A.natAbs : Int) = -A by omega, Int.neg_mul]
    have hneg := Int.mul_neg_of_neg_of_pos hn hu
    rw [hA2] at k1 k0
    cases fneg b
    · simp only [Bool.false_eq_true, if_false]
      rw [Int.neg_mul]
      generalize A * (units : Int) = X at *
      generalize (M : Int) * (C : Int) = Y at *
      generalize (R : Int) * (C : Int) = Z at *
      omega
    · simp only [if_true]
      rw [Int.neg_mul, Int.neg_mul]
      generalize A * (units : Int) = X at *
      generalize (M : Int) * (C : Int) = Y at *
      generalize (R : Int) * (C : Int) = Z at *
      omega
  · rw [if_neg hn]
    have hA2 : (A.natAbs : Int) * (units : Int) = A * (units : Int) := by rw [show (A.natAbs : Int) = A by omega]
    have hneg := Int.mul_pos (show 0 < A by omega) hu
    rw [hA2] at k1 k0
    cases fneg b
    · simp only [Bool.false_eq_true, if_false]
      generalize A * (units : Int) = X at *
      generalize (M : Int) * (C : Int) = Y at *
      generalize (R : Int) * (C : Int) = Z at *
      omega
    · simp only [if_true]
      rw [Int.neg_mul]
      generalize A * (units : Int) = X at *
      generalize (M : Int) * (C : Int) = Y at *
      generalize (R : Int) * (C : Int) = Z at *
      omega
end Go.Proofs.YtjnbonellgpjnaaGreat
