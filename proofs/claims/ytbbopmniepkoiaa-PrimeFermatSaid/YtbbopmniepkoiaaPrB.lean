/- The laws of arithmetic by a prime, as numbers. No function of the program in it. -/
import Derived.Test.YtbbopmniepkoiaaPrA
set_option linter.unusedVariables false
set_option linter.unusedSimpArgs false
namespace Go.Proofs.Ytbbopmniepkoiaa
section
variable {q : Nat} (hq : IsP q)
include hq

theorem isP_of : isP (q : Int) = true := by rw [isP_nat]; simpa using hq
theorem addP_eq (a b : Int) : addP a b q = (a + b) % q := by
  unfold addP; rw [if_pos (isP_of hq), ← Int.add_emod]
theorem mulP_eq (a b : Int) : mulP a b q = (a * b) % q := by
  unfold mulP; rw [if_pos (isP_of hq), ← Int.mul_emod]
theorem addP_range (a b : Int) : 0 ≤ addP a b q ∧ addP a b q < q := by
  have := hq.1
  rw [addP_eq hq]; exact ⟨Int.emod_nonneg _ (by omega), Int.emod_lt_of_pos _ (by omega)⟩
theorem mulP_range (a b : Int) : 0 ≤ mulP a b q ∧ mulP a b q < q := by
  have := hq.1
  rw [mulP_eq hq]; exact ⟨Int.emod_nonneg _ (by omega), Int.emod_lt_of_pos _ (by omega)⟩
theorem addP_comm (a b : Int) : addP b a q = addP a b q := by rw [addP_eq hq, addP_eq hq, Int.add_comm]
theorem mulP_comm (a b : Int) : mulP b a q = mulP a b q := by rw [mulP_eq hq, mulP_eq hq, Int.mul_comm]
theorem addP_assoc (a b c : Int) : addP a (addP b c q) q = addP (addP a b q) c q := by
  simp only [addP_eq hq]
  rw [Int.add_emod, Int.emod_emod_of_dvd _ (Int.dvd_refl _), ← Int.add_emod, Int.add_emod ((a + b) % q), Int.emod_emod_of_dvd _ (Int.dvd_refl _), ← Int.add_emod, Int.add_assoc]
theorem mulP_assoc (a b c : Int) : mulP a (mulP b c q) q = mulP (mulP a b q) c q := by
  simp only [mulP_eq hq]
  rw [Int.mul_emod, Int.emod_emod_of_dvd _ (Int.dvd_refl _), ← Int.mul_emod, Int.mul_emod ((a * b) % q), Int.emod_emod_of_dvd _ (Int.dvd_refl _), ← Int.mul_emod, Int.mul_assoc]
theorem dist_eq (a b c : Int) : addP (mulP a c q) (mulP b c q) q = mulP (addP a b q) c q := by
  simp only [mulP_eq hq, addP_eq hq]
  rw [← Int.add_emod, Int.mul_emod ((a + b) % q), Int.emod_emod_of_dvd _ (Int.dvd_refl _), ← Int.mul_emod, Int.add_mul]

/-- A number's rest, as a natural number. -/
theorem rest_nat (a : Int) : ∃ x : Nat, a % (q : Int) = x ∧ x < q := by
  have := hq.1
  have h1 := Int.emod_nonneg a (show (q : Int) ≠ 0 by omega)
  have h2 := Int.emod_lt_of_pos a (show 0 < (q : Int) by omega)
  exact ⟨(a % (q : Int)).toNat, by omega, by omega⟩

theorem powP_eq {a : Int} {x : Nat} (ex : a % (q : Int) = x) (n : Nat) : powP a n q = (x ^ n % q : Nat) := by
  unfold powP
  rw [if_pos ⟨by omega, isP_of hq⟩, ex]; rfl

theorem powP_fermat (a : Int) : powP a q q = addP a 0 q := by
  obtain ⟨x, ex, hx⟩ := rest_nat hq a
  rw [powP_eq hq ex, fermat hq, addP_eq hq, Int.add_zero, ex, Nat.mod_eq_of_lt hx]

theorem powP_add (a : Int) (n m : Nat) : mulP (powP a n q) (powP a m q) q = powP a ((n + m : Nat) : Int) q := by
  obtain ⟨x, ex, hx⟩ := rest_nat hq a
  rw [powP_eq hq ex, powP_eq hq ex, powP_eq hq ex, mulP_nat hq, ← Nat.mul_mod, Nat.pow_add]

/-- The inverse is one. -/
theorem invP_zero {a : Int} (h : addP a 0 q = 0) : invP a q = 0 := by
  rw [addP_eq hq, Int.add_zero] at h
  unfold invP
  rw [if_neg]
  rintro ⟨-, h2⟩
  exact h2 h
theorem invP_one {a : Int} (h : ¬ addP a 0 q = 0) : mulP a (invP a q) q = 1 := by
  rw [addP_eq hq, Int.add_zero] at h
  have h2 := hq.1
  obtain ⟨x, ex, hx⟩ := rest_nat hq a
  have hx0 : x % q ≠ 0 := by rw [Nat.mod_eq_of_lt hx]; intro h3; apply h; rw [ex, h3]; rfl
  have e : invP a q = (x ^ (q - 2) % q : Nat) := by
    unfold invP
    rw [if_pos ⟨isP_of hq, h⟩, show (q : Int) - 2 = ((q - 2 : Nat) : Int) by omega, powP_eq hq ex]
  have hi := inverse_mod hq hx0
  rw [mulP_eq hq, e, Int.mul_emod, ex]
  have : ((x : Int) * (((x ^ (q - 2) % q : Nat) : Int) % (q : Int))) % (q : Int) = ((x * (x ^ (q - 2) % q % q) % q : Nat) : Int) := by norm_cast
  rw [this, Nat.mod_mod, Nat.mul_mod, Nat.mod_mod, ← Nat.mul_mod, hi]; rfl
theorem addP_one : addP 1 0 q = 1 := by
  have h2 := hq.1
  rw [addP_eq hq]; exact Int.emod_eq_of_lt (by omega) (by omega)
end
end Go.Proofs.Ytbbopmniepkoiaa
