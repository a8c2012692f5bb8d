/- Fractions by a prime, as numbers: a fraction's rest times its denominator's is its numerator's; of products it is the product. -/
import Derived.Test.YtcogldhjkjiodaaPm3
set_option linter.unusedVariables false
set_option linter.unusedSimpArgs false
namespace Go.Proofs.Ytcogldhjkjiodaa
open Go.RowKit

theorem q_cross (z : Int) {d : Nat} (h : d ≠ 0) : qnum z d * (d : Int) = z * (qden z d : Int) := by
  rw [qnum_pos h, qden_pos h]
  have h1 : ((Nat.gcd z.natAbs d : Nat) : Int) ∣ z := Int.ofNat_dvd_left.2 (Nat.gcd_dvd_left _ _)
  obtain ⟨c, hc⟩ := Nat.gcd_dvd_right z.natAbs d
  have hg : Nat.gcd z.natAbs d ≠ 0 := by intro e; rw [e] at hc; simp at hc; exact h hc
  obtain ⟨k, hk⟩ := h1
  have e1 : z / ((Nat.gcd z.natAbs d : Nat) : Int) = k := Int.ediv_eq_of_eq_mul_right (by omega) hk
  have e2 : d / Nat.gcd z.natAbs d = c := Nat.div_eq_of_eq_mul_right (by omega) hc
  rw [e1, e2]
  generalize Nat.gcd z.natAbs d = G at *
  rw [hk, hc, Int.natCast_mul, ← Int.mul_assoc, Int.mul_comm k]
theorem qden_dvd (z : Int) {d : Nat} (h : d ≠ 0) : qden z d ∣ d := by
  rw [qden_pos h]
  exact Nat.div_dvd_of_dvd (Nat.gcd_dvd_right _ _)

theorem rest_unique {q : Nat} {c r : Int} (hc : 0 ≤ c ∧ c < q) (hr : 0 ≤ r ∧ r < q) (h : (q : Int) ∣ c - r) : c = r := by
  obtain ⟨k, hk⟩ := h
  have : k = 0 := by
    rcases Int.lt_trichotomy k 0 with h | h | h
    · have h1 := Int.mul_le_mul_of_nonneg_left (show k ≤ -1 by omega) (show 0 ≤ (q : Int) by omega)
      omega
    · exact h
    · have h1 := Int.mul_le_mul_of_nonneg_left (show 1 ≤ k by omega) (show 0 ≤ (q : Int) by omega)
      omega
  subst this
  omega

section
variable {q : Nat} (hq : IsP q)
include hq
theorem cancelP {u v : Int} (h : (q : Int) ∣ u * v) (hv : ¬ (q : Int) ∣ v) : (q : Int) ∣ u := by
  have h1 := Int.ofNat_dvd_left.1 h
  rw [Int.natAbs_mul] at h1
  rcases hq.euclid h1 with h2 | h2
  · exact Int.ofNat_dvd_left.2 h2
  · exact absurd (Int.ofNat_dvd_left.2 h2) hv

theorem ofV_range (N : Int) (D : Nat) : 0 ≤ ofV N D q ∧ ofV N D q < q := by
  have := hq.1
  unfold ofV
  split
  · exact mulP_range hq _ _
  · omega

/-- The rest of a fraction times that of its denominator is that of its numerator. -/
theorem ofV_spec {N : Int} {D : Nat} (h : ¬ (q : Int) ∣ (D : Int)) : (q : Int) ∣ ofV N D q * (D : Int) - N := by
  have hD : (D : Int) % (q : Int) ≠ 0 := fun e => h (Int.dvd_of_emod_eq_zero e)
  have h1 : ofV N D q = (N * invP D q) % q := by
    unfold ofV; rw [if_pos ⟨isP_of hq, hD⟩, mulP_eq hq]
  have h2 : ((D : Int) * invP D q) % q = 1 := by
    have := invP_one hq (a := (D : Int)) (by rw [addP_eq hq, Int.add_zero]; exact hD)
    rwa [mulP_eq hq] at this
  have h3 : (q : Int) ∣ N * invP D q - ofV N D q := by rw [h1]; exact Int.dvd_self_sub_emod
  have h4 : (q : Int) ∣ (D : Int) * invP D q - 1 := by
    have : (q : Int) ∣ (D : Int) * invP D q - (D : Int) * invP D q % q := Int.dvd_self_sub_emod
    rwa [h2] at this
  obtain ⟨a, ha⟩ := h3
  obtain ⟨b, hb⟩ := h4
  refine ⟨N * b - a * D, ?_⟩
  have e1 : ofV N D q = N * invP D q - q * a := by omega
  have e2 : (D : Int) * invP D q = 1 + q * b := by omega
  rw [e1, Int.sub_mul, Int.mul_assoc N, Int.mul_comm (invP D q), e2, Int.mul_add, Int.mul_one, Int.mul_sub]
  rw [Int.mul_left_comm N, Int.mul_assoc]
  omega

/-- .. so the rest times the denominator's rest is the numerator's. -/
theorem ofV_mul {N : Int} {D : Nat} (h : ¬ (q : Int) ∣ (D : Int)) : mulP (ofV N D q) ((D : Int) % q) q = N % q := by
  have hs := ofV_spec hq (N := N) h
  rw [mulP_eq hq, Int.mul_emod, Int.emod_emod_of_dvd _ (Int.dvd_refl _), ← Int.mul_emod]
  exact Int.emod_eq_emod_iff_emod_sub_eq_zero.2 (Int.emod_eq_zero_of_dvd hs)

/-- Of a product it is the product. -/
theorem ofV_prod {N1 N2 : Int} {D1 D2 : Nat} (h1 : ¬ (q : Int) ∣ (D1 : Int)) (h2 : ¬ (q : Int) ∣ (D2 : Int)) (z1 : D1 ≠ 0) (z2 : D2 ≠ 0) {N : Int} {D : Nat} (hN : qnum (N1 * N2) (D1 * D2) = N) (hD : qden (N1 * N2) (D1 * D2) = D) :
    ¬ (q : Int) ∣ (qden N D : Int) ∧ ofV (qnum N D) (qden N D) q = mulP (ofV N1 D1 q) (ofV N2 D2 q) q := by
  have hz : D1 * D2 ≠ 0 := by intro e; rcases Nat.mul_eq_zero.1 e with h | h <;> omega
  have h12 : ¬ (q : Int) ∣ ((D1 * D2 : Nat) : Int) := fun h => by
    rw [Int.natCast_mul] at h
    exact h1 (cancelP hq h h2)
  have hD0 : D ≠ 0 := by rw [← hD]; exact qden_ne _ _
  have hdd : qden N D ∣ D1 * D2 := Nat.dvd_trans (qden_dvd N hD0) (by rw [← hD]; exact qden_dvd _ hz)
  have h3 : ¬ (q : Int) ∣ (qden N D : Int) := fun h => h12 (Int.dvd_trans h (Int.natCast_dvd_natCast.2 hdd))
  refine ⟨h3, ?_⟩
  have c1 := q_cross (N1 * N2) hz
  have c2 := q_cross N hD0
  rw [hN, hD] at c1
  obtain ⟨N', hN'⟩ : ∃ x, qnum N D = x := ⟨_, rfl⟩
  obtain ⟨D', hD'⟩ : ∃ x, qden N D = x := ⟨_, rfl⟩
  rw [hN', hD'] at c2 ⊢
  rw [hD'] at h3
  have c3 : N' * ((D1 * D2 : Nat) : Int) = N1 * N2 * (D' : Int) := by
    have hDi : (D : Int) ≠ 0 := by omega
    have : (N' * ((D1 * D2 : Nat) : Int)) * (D : Int) = (N1 * N2 * (D' : Int)) * (D : Int) := by
      rw [Int.mul_right_comm, c2, Int.mul_right_comm, c1, Int.mul_right_comm]
    exact Int.eq_of_mul_eq_mul_right hDi this
  have s1 := ofV_spec hq (N := N1) h1
  have s2 := ofV_spec hq (N := N2) h2
  have s3 := ofV_spec hq (N := N') h3
  refine rest_unique (ofV_range hq _ _) (mulP_range hq _ _) ?_
  have hm : (q : Int) ∣ ofV N1 D1 q * ofV N2 D2 q - mulP (ofV N1 D1 q) (ofV N2 D2 q) q := by rw [mulP_eq hq]; exact Int.dvd_self_sub_emod
  generalize ofV N1 D1 q = a at *
  generalize ofV N2 D2 q = b at *
  generalize ofV N' D' q = c at *
  generalize mulP a b q = r at *
  rw [Int.natCast_mul] at c3 h12
  generalize (D1 : Int) = d1 at *
  generalize (D2 : Int) = d2 at *
  generalize (D' : Int) = d' at *
  -- (c - r) * d' * (d1 * d2) is a multiple
  have key : (q : Int) ∣ (c - r) * (d' * (d1 * d2)) := by
    obtain ⟨k1, e1⟩ := s1
    obtain ⟨k2, e2⟩ := s2
    obtain ⟨k3, e3⟩ := s3
    obtain ⟨k4, e4⟩ := hm
    have f1 : a * d1 = N1 + q * k1 := by omega
    have f2 : b * d2 = N2 + q * k2 := by omega
    have f3 : c * d' = N' + q * k3 := by omega
    have f4 : r = a * b - q * k4 := by omega
    refine ⟨k3 * (d1 * d2) - (N1 * k2 + k1 * N2 + q * k1 * k2) * d' + k4 * d' * (d1 * d2), ?_⟩
    have g1 : c * (d' * (d1 * d2)) = N' * (d1 * d2) + q * (k3 * (d1 * d2)) := by
      rw [← Int.mul_assoc, f3, Int.add_mul, Int.mul_assoc (q : Int)]
    have g2 : a * b * (d' * (d1 * d2)) = (N1 * N2 + q * (N1 * k2 + k1 * N2 + q * k1 * k2)) * d' := by
      have : a * b * (d' * (d1 * d2)) = (a * d1) * (b * d2) * d' := by
        simp only [Int.mul_assoc, Int.mul_comm, Int.mul_left_comm]
      rw [this, f1, f2]
      congr 1
      simp only [Int.mul_add, Int.add_mul, Int.mul_assoc, Int.mul_comm, Int.mul_left_comm]
      simp only [Int.add_assoc, Int.add_comm, Int.add_left_comm]
    rw [f4, Int.sub_mul, Int.sub_mul, g1, g2, c3]
    simp only [Int.mul_add, Int.add_mul, Int.mul_sub, Int.mul_assoc, Int.mul_comm, Int.mul_left_comm]
    omega
  have hu : ¬ (q : Int) ∣ d' * (d1 * d2) := fun h => by
    rw [Int.mul_comm] at h
    exact h12 (cancelP hq h h3)
  exact cancelP hq key hu
end
end Go.Proofs.Ytcogldhjkjiodaa
