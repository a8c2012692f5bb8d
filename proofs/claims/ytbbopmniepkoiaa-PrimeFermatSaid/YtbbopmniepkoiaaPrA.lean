/- Arithmetic by a prime, as numbers: rest, sum, product, power, inverse, half. No function of the program in it. -/
import Derived.Test.YtbbopmniepkoiaaPrN
set_option linter.unusedVariables false
set_option linter.unusedSimpArgs false
namespace Go.Proofs.Ytbbopmniepkoiaa

def addP (a b p : Int) : Int := if isP p then (a % p + b % p) % p else 0
def mulP (a b p : Int) : Int := if isP p then (a % p * (b % p)) % p else 0
def powP (a n p : Int) : Int := if 0 ≤ n ∧ isP p then (((a % p).toNat ^ n.toNat % p.toNat : Nat) : Int) else 0
def invP (a p : Int) : Int := if isP p ∧ a % p ≠ 0 then powP a (p - 2) p else 0
def halfP (a p : Int) : Int := if isP p then (if a % p > p / 2 then a % p - p else a % p) else 0

theorem pw_even (r x m p : Nat) (h : m % 2 = 0) : r * (x * x % p) ^ (m / 2) % p = r * x ^ m % p := by
  have e : x ^ m = (x * x) ^ (m / 2) := by
    rw [← Nat.pow_two, ← Nat.pow_mul]; congr 1; omega
  rw [e, Nat.mul_mod r ((x * x % p) ^ (m / 2)), ← Nat.pow_mod, ← Nat.mul_mod]
theorem pw_odd (r x m p : Nat) (h : m % 2 = 1) : (r * x % p) * (x * x % p) ^ (m / 2) % p = r * x ^ m % p := by
  have e : x ^ m = x * (x * x) ^ (m / 2) := by
    rw [← Nat.pow_two, ← Nat.pow_mul]
    obtain ⟨k, rfl⟩ : ∃ k, m = 2 * k + 1 := ⟨m / 2, by omega⟩
    rw [show (2 * k + 1) / 2 = k by omega, Nat.pow_succ, Nat.mul_comm]
  rw [e, ← Nat.mul_assoc, Nat.mul_mod (r * x % p), Nat.mod_mod, ← Nat.pow_mod, ← Nat.mul_mod]

/-- The rest that Go takes, and what it is with p added where it is below 0. -/
theorem rest_letters (a p : Int) (hp : 0 < p) (hp2 : p < 2147483648) : ∃ t r : Int, Int.tmod a p = t ∧ a % p = r ∧ -p < t ∧ t < p ∧ 0 ≤ r ∧ r < p ∧ ((t < 0 ∧ t + p = r) ∨ (¬ t < 0 ∧ t = r)) := by
  refine ⟨_, _, rfl, rfl, ?_, ?_, Int.emod_nonneg _ (by omega), Int.emod_lt_of_pos _ hp, ?_⟩
  · have h1 := Int.natAbs_tmod a p
    have := Nat.mod_lt a.natAbs (show 0 < p.natAbs by omega)
    omega
  · exact Int.tmod_lt_of_pos _ hp
  · have h1 := Int.tmod_eq_emod (a := a) (b := p)
    have h2 := Int.emod_nonneg a (show p ≠ 0 by omega)
    have h3 := Int.emod_lt_of_pos a hp
    rw [h1]
    split
    · right; omega
    · rename_i h4
      left
      have hne : a % p ≠ 0 := fun h => h4 (Or.inr (Int.dvd_of_emod_eq_zero h))
      have : (p.natAbs : Int) = p := by omega
      omega

theorem mulP_nat {a b p : Nat} (hp : IsP p) : mulP a b p = ((a * b % p : Nat) : Int) := by
  unfold mulP
  rw [isP_nat, decide_eq_true hp, if_pos rfl, ← Int.mul_emod]; norm_cast
end Go.Proofs.Ytbbopmniepkoiaa
