/- Merged: PrN PrA PrB PrF Pr1 Pr2 Pr3 Pr5. -/
import Derived.WalkKit
import Derived.Test.YtokdcgmjpnanoaaRows
import Derived.ProofKit
import Derived.OpenShut
import Derived.SizedLaws
import Derived.Lay
import Derived.LaidOnce
import Derived.Deep.LoopGhost
import Derived.Deep.Draws
/- Primes as numbers: what a prime is; that trial division by 2, 3 and the neighbours of multiples of 6 finds a divisor if there is one; the theorem of Fermat; the inverse. No function of the program in it. -/
set_option linter.unusedVariables false
set_option linter.unusedSimpArgs false
namespace Go.Proofs.Ytokdcgmjpnanoaa

/-- A prime of the document. -/
def IsP (n : Nat) : Prop := 2 ≤ n ∧ n < 2147483648 ∧ ∀ e, e < n → 2 ≤ e → ¬ e ∣ n
instance (n : Nat) : Decidable (IsP n) := inferInstanceAs (Decidable (_ ∧ _ ∧ _))
def isP (z : Int) : Bool := decide (0 ≤ z ∧ IsP z.toNat)

theorem isP_nat (n : Nat) : isP (n : Int) = decide (IsP n) := by simp [isP]
theorem isP_true {z : Int} (h : isP z = true) : ∃ n : Nat, z = n ∧ IsP n := by
  simp only [isP, decide_eq_true_eq] at h
  exact ⟨z.toNat, by omega, h.2⟩
theorem isP_lt_two {z : Int} (h : z < 2) : isP z = false := by
  cases e : isP z with
  | false => rfl
  | true => obtain ⟨n, rfl, h2, _⟩ := isP_true e; omega
theorem isP_great {z : Int} (h : 2147483648 ≤ z) : isP z = false := by
  cases e : isP z with
  | false => rfl
  | true => obtain ⟨n, rfl, h2, h3, _⟩ := isP_true e; omega

/-- The other divisor of a pair is small. -/
theorem isP_of_small {n k : Nat} (h2 : 2 ≤ n) (hn : n < 2147483648) (hk : n < k * k) (h : ∀ e, e < k → 2 ≤ e → ¬ e ∣ n) : IsP n := by
  refine ⟨h2, hn, fun e hen he2 hd => ?_⟩
  by_cases hek : e < k
  · exact h e hek he2 hd
  · obtain ⟨f, hf⟩ := hd
    have hfk : f < k := by
      rcases Nat.lt_or_ge f k with h | h
      · exact h
      · have := Nat.mul_le_mul (Nat.le_of_not_lt hek) h; omega
    have hf2 : 2 ≤ f := by
      rcases Nat.lt_or_ge f 2 with h | h
      · have : f = 0 ∨ f = 1 := by omega
        rcases this with rfl | rfl <;> omega
      · exact h
    exact h f hfk hf2 ⟨e, by rw [hf, Nat.mul_comm]⟩

theorem not_isP_of_dvd {n e : Nat} (he : 2 ≤ e) (hen : e < n) (hd : n % e = 0) : ¬ IsP n := fun h => h.2.2 e hen he (Nat.dvd_of_mod_eq_zero hd)

/-- The divisor and its neighbour in round k. -/
def wd (k : Nat) : Nat := if k = 0 then 2 else 6 * k - 1
def wx (k : Nat) : Nat := if k = 0 then 3 else 6 * k + 1
theorem wd_two (k : Nat) : 2 ≤ wd k := by unfold wd; split <;> omega
theorem wd_succ (k : Nat) : wd (k + 1) = 6 * (k + 1) - 1 := by simp [wd]
theorem wx_succ (k : Nat) : wx (k + 1) = 6 * (k + 1) + 1 := by simp [wx]
theorem wx_le (k : Nat) : 2 ≤ wx k ∧ wx k ≤ wd k + 2 := by unfold wx wd; split <;> omega
theorem wd_le_two (k : Nat) : wd k ≤ 6 * k + 2 ∧ 6 * k ≤ wd k + 1 := by unfold wd; split <;> omega

/-- No divisor below that of round k. -/
def Clear (n k : Nat) : Prop := ∀ e, e < wd k → 2 ≤ e → ¬ e ∣ n

theorem Clear.zero (n : Nat) : Clear n 0 := fun e h1 h2 => by simp [wd] at h1; omega

theorem Clear.succ {n k : Nat} (h : Clear n k) (h1 : n % wd k ≠ 0) (h2 : n % wx k ≠ 0) : Clear n (k + 1) := by
  have n1 : ¬ wd k ∣ n := fun h => h1 (Nat.mod_eq_zero_of_dvd h)
  have n2 : ¬ wx k ∣ n := fun h => h2 (Nat.mod_eq_zero_of_dvd h)
  intro e he he2 hd
  rw [wd_succ] at he
  by_cases hek : e < wd k
  · exact h e hek he2 hd
  · have two : ¬ 2 ∣ n := by
      rcases Nat.eq_zero_or_pos k with rfl | hk
      · simpa [wd] using n1
      · exact h 2 (by have := (wd_le_two k).2; omega) (by omega)
    have three : ¬ 3 ∣ n := by
      rcases Nat.eq_zero_or_pos k with rfl | hk
      · simpa [wx] using n2
      · exact h 3 (by have := (wd_le_two k).2; omega) (by omega)
    have e2 : ¬ 2 ∣ e := fun h => two (Nat.dvd_trans h hd)
    have e3 : ¬ 3 ∣ e := fun h => three (Nat.dvd_trans h hd)
    rcases Nat.eq_zero_or_pos k with hk | hk
    · subst hk
      simp only [wd, if_true] at hek n1
      have h4 : e = 2 ∨ e = 3 ∨ e = 4 := by omega
      rcases h4 with rfl | rfl | rfl
      · exact two hd
      · exact three hd
      · exact e2 (by decide)
    · have hw : wd k = 6 * k - 1 := by unfold wd; rw [if_neg (by omega)]
      have hx : wx k = 6 * k + 1 := by unfold wx; rw [if_neg (by omega)]
      have ne1 : e ≠ wd k := fun h => n1 (h ▸ hd)
      have ne2 : e ≠ wx k := fun h => n2 (h ▸ hd)
      rw [hw] at ne1 hek; rw [hx] at ne2
      omega

theorem Clear.isP {n k : Nat} (h : Clear n k) (h2 : 2 ≤ n) (hn : n < 2147483648) (hk : n < wd k * wd k) : IsP n := isP_of_small h2 hn hk h

/-- What is divided by a divisor that is tried is none. -/
theorem hit_left {n k : Nat} (hk : wd k * wd k ≤ n) (h : n % wd k = 0) : ¬ IsP n := by
  have := wd_two k
  have := Nat.mul_le_mul_right (wd k) this
  exact not_isP_of_dvd (wd_two k) (by omega) h
theorem hit_right {n k : Nat} (hk : wd k * wd k ≤ n) (h : n % wx k = 0) : ¬ IsP n := by
  have h1 := wd_two k
  have h2 := wx_le k
  refine not_isP_of_dvd h2.1 ?_ h
  rcases Nat.eq_zero_or_pos k with rfl | hk0
  · simp [wx, wd] at hk ⊢; omega
  · have h3 : 5 ≤ wd k := by have := (wd_le_two k).2; omega
    have := Nat.mul_le_mul_right (wd k) h3
    omega

/-- The divisors stay small. -/
theorem wd_small {n k : Nat} (hn : n < 2147483648) (hk : wd k * wd k ≤ n) : wd k ≤ 46340 := by
  rcases Nat.lt_or_ge 46340 (wd k) with h | h
  · have := Nat.mul_le_mul h h
    omega
  · exact h

/-! ### A prime as the next one -/
def IsAfter (n r : Int) : Prop := (r = 0 ∧ ∀ q, n < q → isP q = false) ∨ (n < r ∧ isP r = true ∧ ∀ q, n < q → q < r → isP q = false)
theorem IsAfter.unique {n r s : Int} (h : IsAfter n r) (k : IsAfter n s) : r = s := by
  rcases h with ⟨rfl, h⟩ | ⟨h1, h2, h3⟩ <;> rcases k with ⟨rfl, k⟩ | ⟨k1, k2, k3⟩
  · rfl
  · rw [h s k1] at k2; cases k2
  · rw [k r h1] at h2; cases h2
  · rcases Int.lt_trichotomy r s with h | h | h
    · rw [k3 r h1 h] at h2; cases h2
    · exact h
    · rw [h3 s k1 h] at k2; cases k2

/-! ### Euclid -/
theorem IsP.coprime {p a : Nat} (hp : IsP p) (ha : ¬ p ∣ a) : Nat.gcd p a = 1 := by
  obtain ⟨h2, _, hd⟩ := hp
  have h := Nat.gcd_dvd_left p a
  have hle := Nat.le_of_dvd (by omega) h
  rcases Nat.lt_or_ge (Nat.gcd p a) p with h1 | h1
  · rcases Nat.lt_or_ge (Nat.gcd p a) 2 with h3 | h3
    · have : Nat.gcd p a ≠ 0 := by intro e; rw [Nat.gcd_eq_zero_iff] at e; omega
      omega
    · exact absurd h (hd _ h1 h3)
  · have e : Nat.gcd p a = p := by omega
    exact absurd (e ▸ Nat.gcd_dvd_right p a) ha

theorem IsP.euclid {p a b : Nat} (hp : IsP p) (h : p ∣ a * b) : p ∣ a ∨ p ∣ b := by
  rcases Nat.decEq (a % p) 0 with h0 | h0
  · refine Or.inr ?_
    have : ¬ p ∣ a := fun h => h0 (Nat.mod_eq_zero_of_dvd h)
    exact (show Nat.Coprime p a from hp.coprime this).dvd_of_dvd_mul_left h
  · exact Or.inl (Nat.dvd_of_mod_eq_zero h0)

/-! ### Fermat -/
def ch : Nat → Nat → Nat
  | _, 0 => 1
  | 0, _ + 1 => 0
  | n + 1, k + 1 => ch n k + ch n (k + 1)
theorem ch_zero (n : Nat) : ch n 0 = 1 := by cases n <;> rfl
theorem ch_over : ∀ (n k : Nat), n < k → ch n k = 0
  | _, 0, h => by omega
  | 0, _ + 1, _ => rfl
  | n + 1, k + 1, h => by show ch n k + ch n (k + 1) = 0; rw [ch_over n k (by omega), ch_over n (k + 1) (by omega)]
theorem ch_self : ∀ n : Nat, ch n n = 1
  | 0 => rfl
  | n + 1 => by show ch n n + ch n (n + 1) = 1; rw [ch_self n, ch_over n (n + 1) (by omega)]
theorem ch_absorb : ∀ (n k : Nat), (k + 1) * ch (n + 1) (k + 1) = (n + 1) * ch n k
  | 0, 0 => rfl
  | 0, k + 1 => by rw [ch_over 1 (k + 2) (by omega), ch_over 0 (k + 1) (by omega)]; simp
  | n + 1, 0 => by
    have h := ch_absorb n 0
    show (0 + 1) * (ch (n + 1) 0 + ch (n + 1) 1) = (n + 1 + 1) * ch (n + 1) 0
    rw [ch_zero] at *
    simp only [Nat.zero_add, Nat.one_mul, Nat.mul_one] at *
    omega
  | n + 1, k + 1 => by
    have h1 := ch_absorb n k
    have h2 := ch_absorb n (k + 1)
    show (k + 1 + 1) * (ch (n + 1) (k + 1) + ch (n + 1) (k + 2)) = (n + 1 + 1) * (ch n k + ch n (k + 1))
    have e : ch (n + 1) (k + 1) = ch n k + ch n (k + 1) := rfl
    rw [Nat.mul_add, h2]
    rw [show (k + 1 + 1) * ch (n + 1) (k + 1) = (k + 1) * ch (n + 1) (k + 1) + ch (n + 1) (k + 1) by rw [Nat.succ_mul], h1, e, Nat.succ_mul (n + 1), Nat.mul_add (n + 1)]
    omega

/-- The terms below m of the power of a + 1. -/
def bin (n a : Nat) : Nat → Nat
  | 0 => 0
  | m + 1 => bin n a m + ch n m * a ^ m
theorem bin_step (n a : Nat) : ∀ m, bin (n + 1) a (m + 1) = bin n a (m + 1) + a * bin n a m
  | 0 => by simp [bin, ch_zero]
  | m + 1 => by
    have h := bin_step n a m
    show bin (n + 1) a (m + 1) + ch (n + 1) (m + 1) * a ^ (m + 1) = bin n a (m + 1) + ch n (m + 1) * a ^ (m + 1) + a * (bin n a m + ch n m * a ^ m)
    rw [h, show ch (n + 1) (m + 1) = ch n m + ch n (m + 1) from rfl, Nat.add_mul, Nat.mul_add, Nat.pow_succ]
    have : a * (ch n m * a ^ m) = ch n m * (a ^ m * a) := by rw [Nat.mul_left_comm, Nat.mul_comm a]
    omega
theorem bin_over (n a : Nat) : ∀ k, bin n a (n + 1 + k) = bin n a (n + 1)
  | 0 => rfl
  | k + 1 => by
    show bin n a (n + 1 + k) + ch n (n + 1 + k) * a ^ (n + 1 + k) = _
    rw [bin_over n a k, ch_over n (n + 1 + k) (by omega), Nat.zero_mul, Nat.add_zero]
theorem pow_bin (a : Nat) : ∀ n, (a + 1) ^ n = bin n a (n + 1)
  | 0 => by simp [bin, ch_zero]
  | n + 1 => by
    rw [Nat.pow_succ, pow_bin a n, bin_step n a (n + 1), bin_over n a 1, Nat.mul_add, Nat.mul_one, Nat.mul_comm a]
    omega

theorem bin_mid {p : Nat} (a : Nat) (hp : IsP p) : ∀ m, m + 1 ≤ p → bin p a (m + 1) % p = 1 % p
  | 0, _ => by simp [bin, ch_zero]
  | m + 1, h => by
    show (bin p a (m + 1) + ch p (m + 1) * a ^ (m + 1)) % p = 1 % p
    have hd : p ∣ ch p (m + 1) := by
      obtain ⟨q, rfl⟩ : ∃ q, p = q + 1 := ⟨p - 1, by have := hp.1; omega⟩
      have hm : (q + 1) ∣ (m + 1) * ch (q + 1) (m + 1) := ⟨ch q m, ch_absorb q m⟩
      rcases hp.euclid hm with h1 | h1
      · have := Nat.le_of_dvd (by omega) h1; omega
      · exact h1
    obtain ⟨c, hc⟩ := hd
    rw [hc, Nat.mul_assoc, Nat.add_mul_mod_self_left]
    exact bin_mid a hp m (by omega)

theorem fermat {p : Nat} (hp : IsP p) : ∀ a : Nat, a ^ p % p = a % p
  | 0 => by rw [Nat.zero_pow (by have := hp.1; omega)]
  | a + 1 => by
    have h := fermat hp a
    obtain ⟨q, rfl⟩ : ∃ q, p = q + 1 := ⟨p - 1, by have := hp.1; omega⟩
    rw [pow_bin]
    show (bin (q + 1) a (q + 1) + ch (q + 1) (q + 1) * a ^ (q + 1)) % (q + 1) = _
    rw [ch_self, Nat.one_mul, Nat.add_mod, bin_mid a hp q (by omega), h, ← Nat.add_mod, Nat.add_comm]

/-- The power p - 2 is the inverse. -/
theorem inverse_mod {p a : Nat} (hp : IsP p) (ha : a % p ≠ 0) : (a * a ^ (p - 2)) % p = 1 := by
  have h2 := hp.1
  have h := fermat hp a
  obtain ⟨q, rfl⟩ : ∃ q, p = q + 2 := ⟨p - 2, by omega⟩
  rw [Nat.add_sub_cancel] at *
  have e : a ^ (q + 2) = a * (a * a ^ q) := by rw [Nat.pow_succ, Nat.pow_succ, Nat.mul_comm (a ^ q) a, Nat.mul_comm]
  obtain ⟨x, hx⟩ : ∃ x, x = a * a ^ q := ⟨_, rfl⟩
  rw [e, ← hx] at h
  rw [← hx]
  have hx0 : x ≠ 0 := by
    intro h0
    have h0' : a * a ^ q = 0 := by rw [← hx, h0]
    rcases Nat.mul_eq_zero.1 h0' with h3 | h3
    · subst h3; simp at ha
    · have := Nat.pow_pos (n := q) (Nat.pos_of_ne_zero (fun h4 : a = 0 => ha (by rw [h4]; simp))); omega
  have hd : (q + 2) ∣ a * (x - 1) := by
    rw [Nat.mul_sub, Nat.mul_one]
    exact Nat.dvd_of_mod_eq_zero (Nat.sub_mod_eq_zero_of_mod_eq h)
  rcases hp.euclid hd with h3 | h3
  · exact absurd (Nat.mod_eq_zero_of_dvd h3) ha
  · obtain ⟨c, hc⟩ := h3
    have : x = (q + 2) * c + 1 := by omega
    rw [this, Nat.mul_add_mod, Nat.mod_eq_of_lt (by omega)]
end Go.Proofs.Ytokdcgmjpnanoaa
/- Arithmetic by a prime, as numbers: rest, sum, product, power, inverse, half. No function of the program in it. -/
set_option linter.unusedVariables false
set_option linter.unusedSimpArgs false
namespace Go.Proofs.Ytokdcgmjpnanoaa

def addP (a b p : Int) : Int := if isP p then (a % p + b % p) % p else 0
def mulP (a b p : Int) : Int := if isP p then (a % p * (b % p)) % p else 0
def powP (a n p : Int) : Int := if 0 ≤ n ∧ isP p then (((a % p).toNat ^ n.toNat % p.toNat : Nat) : Int) else 0
def invP (a p : Int) : Int := if isP p ∧ a % p ≠ 0 then powP a (p - 2) p else 0
def halfP (a p : Int) : Int := if isP p then (if a % p > p / 2 then a % p - p else a % p) else 0

theorem pw_even (r x m p : Nat) (h : m % 2 = 0) : r * (x * x % p) ^ (m / 2) % p = r * x ^ m % p := by
  have e : x ^ m = (x * x) ^ (m / 2) := by
    rw [← Nat.pow_two, ← Nat.pow_mul]; congr 1; omega
  rw [e, Nat.mul_mod r ((x * x % p) ^ (m / 2)), ← Nat.pow_mod, ← Nat.mul_mod]
theorem pw_odd (r x m p : Nat) (h : m % 2 = 1) : (r * x % p) * (x * x % p) ^ (m / 2) % p = r * x ^ m % p := by
  have e : x ^ m = x * (x * x) ^ (m / 2) := by
    rw [← Nat.pow_two, ← Nat.pow_mul]
    obtain ⟨k, rfl⟩ : ∃ k, m = 2 * k + 1 := ⟨m / 2, by omega⟩
    rw [show (2 * k + 1) / 2 = k by omega, Nat.pow_succ, Nat.mul_comm]
  rw [e, ← Nat.mul_assoc, Nat.mul_mod (r * x % p), Nat.mod_mod, ← Nat.pow_mod, ← Nat.mul_mod]

/-- The rest that Go takes, and what it is with p added where it is below 0. -/
theorem rest_letters (a p : Int) (hp : 0 < p) (hp2 : p < 2147483648) : ∃ t r : Int, Int.tmod a p = t ∧ a % p = r ∧ -p < t ∧ t < p ∧ 0 ≤ r ∧ r < p ∧ ((t < 0 ∧ t + p = r) ∨ (¬ t < 0 ∧ t = r)) := by
  refine ⟨_, _, rfl, rfl, ?_, ?_, Int.emod_nonneg _ (by omega), Int.emod_lt_of_pos _ hp, ?_⟩
  · have h1 := Int.natAbs_tmod a p
    have := Nat.mod_lt a.natAbs (show 0 < p.natAbs by omega)
    omega
  · exact Int.tmod_lt_of_pos _ hp
  · have h1 := Int.tmod_eq_emod (a := a) (b := p)
    have h2 := Int.emod_nonneg a (show p ≠ 0 by omega)
    have h3 := Int.emod_lt_of_pos a hp
    rw [h1]
    split
    · right; omega
    · rename_i h4
      left
      have hne : a % p ≠ 0 := fun h => h4 (Or.inr (Int.dvd_of_emod_eq_zero h))
      have : (p.natAbs : Int) = p := by omega
      omega

theorem mulP_nat {a b p : Nat} (hp : IsP p) : mulP a b p = ((a * b % p : Nat) : Int) := by
  unfold mulP
  rw [isP_nat, decide_eq_true hp, if_pos rfl, ← Int.mul_emod]; norm_cast
end Go.Proofs.Ytokdcgmjpnanoaa
/- The laws of arithmetic by a prime, as numbers. No function of the program in it. -/
set_option linter.unusedVariables false
set_option linter.unusedSimpArgs false
namespace Go.Proofs.Ytokdcgmjpnanoaa
section
variable {q : Nat} (hq : IsP q)
include hq

theorem isP_of : isP (q : Int) = true := by rw [isP_nat]; simpa using hq
theorem addP_eq (a b : Int) : addP a b q = (a + b) % q := by
  unfold addP; rw [if_pos (isP_of hq), ← Int.add_emod]
theorem mulP_eq (a b : Int) : mulP a b q = (a * b) % q := by
  unfold mulP; rw [if_pos (isP_of hq), ← Int.mul_emod]
theorem addP_range (a b : Int) : 0 ≤ addP a b q ∧ addP a b q < q := by
  have := hq.1
  rw [addP_eq hq]; exact ⟨Int.emod_nonneg _ (by omega), Int.emod_lt_of_pos _ (by omega)⟩
theorem mulP_range (a b : Int) : 0 ≤ mulP a b q ∧ mulP a b q < q := by
  have := hq.1
  rw [mulP_eq hq]; exact ⟨Int.emod_nonneg _ (by omega), Int.emod_lt_of_pos _ (by omega)⟩
theorem addP_comm (a b : Int) : addP b a q = addP a b q := by rw [addP_eq hq, addP_eq hq, Int.add_comm]
theorem mulP_comm (a b : Int) : mulP b a q = mulP a b q := by rw [mulP_eq hq, mulP_eq hq, Int.mul_comm]
theorem addP_assoc (a b c : Int) : addP a (addP b c q) q = addP (addP a b q) c q := by
  simp only [addP_eq hq]
  rw [Int.add_emod, Int.emod_emod_of_dvd _ (Int.dvd_refl _), ← Int.add_emod, Int.add_emod ((a + b) % q), Int.emod_emod_of_dvd _ (Int.dvd_refl _), ← Int.add_emod, Int.add_assoc]
theorem mulP_assoc (a b c : Int) : mulP a (mulP b c q) q = mulP (mulP a b q) c q := by
  simp only [mulP_eq hq]
  rw [Int.mul_emod, Int.emod_emod_of_dvd _ (Int.dvd_refl _), ← Int.mul_emod, Int.mul_emod ((a * b) % q), Int.emod_emod_of_dvd _ (Int.dvd_refl _), ← Int.mul_emod, Int.mul_assoc]
theorem dist_eq (a b c : Int) : addP (mulP a c q) (mulP b c q) q = mulP (addP a b q) c q := by
  simp only [mulP_eq hq, addP_eq hq]
  rw [← Int.add_emod, Int.mul_emod ((a + b) % q), Int.emod_emod_of_dvd _ (Int.dvd_refl _), ← Int.mul_emod, Int.add_mul]

/-- A number's rest, as a natural number. -/
theorem rest_nat (a : Int) : ∃ x : Nat, a % (q : Int) = x ∧ x < q := by
  have := hq.1
  have h1 := Int.emod_nonneg a (show (q : Int) ≠ 0 by omega)
  have h2 := Int.emod_lt_of_pos a (show 0 < (q : Int) by omega)
  exact ⟨(a % (q : Int)).toNat, by omega, by omega⟩

theorem powP_eq {a : Int} {x : Nat} (ex : a % (q : Int) = x) (n : Nat) : powP a n q = (x ^ n % q : Nat) := by
  unfold powP
  rw [if_pos ⟨by omega, isP_of hq⟩, ex]; rfl

theorem powP_fermat (a : Int) : powP a q q = addP a 0 q := by
  obtain ⟨x, ex, hx⟩ := rest_nat hq a
  rw [powP_eq hq ex, fermat hq, addP_eq hq, Int.add_zero, ex, Nat.mod_eq_of_lt hx]

theorem powP_add (a : Int) (n m : Nat) : mulP (powP a n q) (powP a m q) q = powP a ((n + m : Nat) : Int) q := by
  obtain ⟨x, ex, hx⟩ := rest_nat hq a
  rw [powP_eq hq ex, powP_eq hq ex, powP_eq hq ex, mulP_nat hq, ← Nat.mul_mod, Nat.pow_add]

/-- The inverse is one. -/
theorem invP_zero {a : Int} (h : addP a 0 q = 0) : invP a q = 0 := by
  rw [addP_eq hq, Int.add_zero] at h
  unfold invP
  rw [if_neg]
  rintro ⟨-, h2⟩
  exact h2 h
theorem invP_one {a : Int} (h : ¬ addP a 0 q = 0) : mulP a (invP a q) q = 1 := by
  rw [addP_eq hq, Int.add_zero] at h
  have h2 := hq.1
  obtain ⟨x, ex, hx⟩ := rest_nat hq a
  have hx0 : x % q ≠ 0 := by rw [Nat.mod_eq_of_lt hx]; intro h3; apply h; rw [ex, h3]; rfl
  have e : invP a q = (x ^ (q - 2) % q : Nat) := by
    unfold invP
    rw [if_pos ⟨isP_of hq, h⟩, show (q : Int) - 2 = ((q - 2 : Nat) : Int) by omega, powP_eq hq ex]
  have hi := inverse_mod hq hx0
  rw [mulP_eq hq, e, Int.mul_emod, ex]
  have : ((x : Int) * (((x ^ (q - 2) % q : Nat) : Int) % (q : Int))) % (q : Int) = ((x * (x ^ (q - 2) % q % q) % q : Nat) : Int) := by norm_cast
  rw [this, Nat.mod_mod, Nat.mul_mod, Nat.mod_mod, ← Nat.mul_mod, hi]; rfl
theorem addP_one : addP 1 0 q = 1 := by
  have h2 := hq.1
  rw [addP_eq hq]; exact Int.emod_eq_of_lt (by omega) (by omega)
end
end Go.Proofs.Ytokdcgmjpnanoaa
/- What the rows' steps share. -/
set_option linter.unusedVariables false
set_option linter.unusedSimpArgs false
namespace Go.Proofs.Ytokdcgmjpnanoaa
open Go.ChangeShapes Go.WideShapes Go.ChangeAt Go.RowKit

theorem own : ownKnob Try.prog.godebug = none := by kernel_rfl
theorem laidOut : laidOutB Try.prog = true := by kernel_rfl
end Go.Proofs.Ytokdcgmjpnanoaa
/- prime.first, prime.Is and prime.After by their contracts. -/
set_option linter.unusedVariables false
set_option linter.unusedSimpArgs false
namespace Go.Proofs.Ytokdcgmjpnanoaa
open Go.RowKit

theorem hidP {p : Prop} (h : p) : Hid p := h

/-- The least prime from a to b, or 0. -/
def FirstIs (a b r : Int) : Prop := (r = 0 ∧ ∀ q, a ≤ q → q ≤ b → isP q = false) ∨ (a ≤ r ∧ r ≤ b ∧ isP r = true ∧ ∀ q, a ≤ q → q < r → isP q = false)

theorem notP_step {a : Int} {n : Nat} (h : ∀ q : Int, a ≤ q → q < n → isP q = false) (hn : ¬ IsP n) : ∀ q : Int, a ≤ q → q < ((n + 1 : Nat) : Int) → isP q = false := by
  intro q h1 h2
  rcases Int.lt_or_le q n with h3 | h3
  · exact h q h1 h3
  · have : q = (n : Int) := by omega
    rw [this, isP_nat]; simpa using hn

set_option maxRecDepth 100000 in
set_option maxHeartbeats 4000000 in
theorem first_from {a b : Int} (w : World) (L : Nat) (hst : (a < 2 ∧ L = 2) ∨ (a = L ∧ ¬ (L : Int) < 2)) (hL2 : 2 ≤ L) (hLm : L < 9223372036854775808) (hb : b ≤ 2147483647) :
    Calls Try.prog 55 #[.int .i64 a, .int .i64 b] w fun e w' => ∃ r, e = .returned (.int .i64 r) ∧ FirstIs (L : Int) b r ∧ Below w.heap.size w w' := by
  rcases hst with ⟨h2, h3⟩ | ⟨h3, h2⟩
  all_goals
    have H3 := hidP h3
    try subst a
    try clear h3
    go_enter Try.func55, Try.ntmps55
    go_wp2
    go_step3
    go_wp2
    go_step3
    go_wp2
    go_loopg [5] (b + 1 - L).toNat (fun g v wr => ∃ n : Nat, v = .int .i64 n ∧ n < 9223372036854775808 ∧ 2 ≤ n ∧ Hid ((b + 1 - n).toNat = g) ∧ Hid (∀ q : Int, (L : Int) ≤ q → q < n → isP q = false) ∧ Hid ((L : Int) ≤ n) ∧ Hid (Below w.heap.size w wr))
    case atStart => exact ⟨L, by first | rfl | (rw [H3.out]; rfl), hLm, hL2, rfl, fun q h1 h2 => absurd h1 (by omega), Int.le_refl _, Below.refl _ _⟩
    case round =>
      obtain ⟨n, rfl, hn, hn2, hG, hN, hLn, hB⟩ := hrel
      by_cases hnb : (n : Int) ≤ b
      · have hn31 : n < 2147483648 := by omega
        have wn : IntKind.u32.wrap (n : Int) = (n : Int) := by rw [IntKind.wrap_u32]; omega
        have gdec : (b + 1 - ((n + 1 : Nat) : Int)).toNat < gk := by have := hG.out; omega
        have GD := hidP gdec
        clear gdec hG
        go_wp2
        go_loopg [7, 8, 9] n (fun g7 v7 v8 v9 wi => ∃ k D X S : Nat, v7 = .int .u32 D ∧ v8 = .int .u32 X ∧ v9 = .int .u32 S ∧ D ≤ 46346 ∧ 2 ≤ D ∧ X ≤ 46348 ∧ 2 ≤ X ∧ S ≤ 46351 ∧ 6 ≤ S ∧ Hid (D = wd k ∧ X = wx k ∧ S = 6 * k + 6) ∧ Hid (n - k = g7) ∧ Hid (Clear n k) ∧ Hid (Below w.heap.size w wi))
        case atStart => exact ⟨0, 2, 3, 6, rfl, rfl, rfl, by omega, by omega, by omega, by omega, by omega, by omega, ⟨rfl, rfl, rfl⟩, rfl, Clear.zero n, hB⟩
        case round =>
          obtain ⟨k, D, X, S, rfl, rfl, rfl, hD, hD2, hX, hX2, hS, hS6, hK, hI, hC, hBi⟩ := hrel
          obtain ⟨Q, hQ⟩ : ∃ Q, Q = D * D := ⟨_, rfl⟩
          have hQb : Q < 4294967296 := by have := Nat.mul_le_mul hD hD; omega
          have eQ : IntKind.u32.wrap ((D : Int) * (D : Int)) = (Q : Int) := by rw [IntKind.wrap_u32, ← Int.natCast_mul, ← hQ]; omega
          have HQ := hidP hQ
          clear hQ
          by_cases hle : Q ≤ n
          · obtain ⟨r1, hr1⟩ : ∃ r, r = n % D := ⟨_, rfl⟩
            obtain ⟨r2, hr2⟩ : ∃ r, r = n % X := ⟨_, rfl⟩
            have d1 : (n : Int) % (D : Int) = (r1 : Int) := by rw [hr1]; exact (Int.natCast_emod _ _).symm
            have d2 : Int.tmod (n : Int) (D : Int) = (r1 : Int) := by rw [Int.tmod_eq_emod_of_nonneg (by omega)]; exact d1
            have d3 : (n : Int) % (X : Int) = (r2 : Int) := by rw [hr2]; exact (Int.natCast_emod _ _).symm
            have d4 : Int.tmod (n : Int) (X : Int) = (r2 : Int) := by rw [Int.tmod_eq_emod_of_nonneg (by omega)]; exact d3
            have l1 : r1 < D := by rw [hr1]; exact Nat.mod_lt _ (by omega)
            have l2 : r2 < X := by rw [hr2]; exact Nat.mod_lt _ (by omega)
            have w1 : IntKind.u32.wrap (r1 : Int) = (r1 : Int) := by rw [IntKind.wrap_u32]; omega
            have w2 : IntKind.u32.wrap (r2 : Int) = (r2 : Int) := by rw [IntKind.wrap_u32]; omega
            have z1 : ¬ (D : Int) = 0 := by omega
            have z2 : ¬ (X : Int) = 0 := by omega
            have H1 := hidP hr1; have H2 := hidP hr2
            clear hr1 hr2
            by_cases h1 : r1 = 0
            · subst h1
              go_wp2
              go_roundg (b + 1 - ((n + 1 : Nat) : Int)).toNat
              case rel =>
                obtain ⟨k1, k2, k3⟩ := hK.out
                exact ⟨n + 1, by go_num, by omega, by omega, rfl, notP_step hN.out (hit_left (k := k) (by rw [← k1, ← HQ.out]; exact hle) (by rw [← k1]; exact H1.out.symm)), by have := hLn.out; show (L : Int) ≤ _; omega, hBi⟩
              case measure => exact GD.out
            · have h1' : ¬ (r1 : Int) = 0 := by omega
              by_cases h3 : r2 = 0
              · subst h3
                go_wp2
                go_roundg (b + 1 - ((n + 1 : Nat) : Int)).toNat
                case rel =>
                  obtain ⟨k1, k2, k3⟩ := hK.out
                  exact ⟨n + 1, by go_num, by omega, by omega, rfl, notP_step hN.out (hit_right (k := k) (by rw [← k1, ← HQ.out]; exact hle) (by rw [← k2]; exact H2.out.symm)), by have := hLn.out; show (L : Int) ≤ _; omega, hBi⟩
                case measure => exact GD.out
              · have h3' : ¬ (r2 : Int) = 0 := by omega
                have hs : D ≤ 46340 ∧ k < n ∧ S ≤ 46347 := by
                  obtain ⟨k1, k2, k3⟩ := hK.out
                  have a1 := wd_small (n := n) (k := k) hn31 (by rw [← k1, ← HQ.out]; exact hle)
                  have a2 := wd_le_two k
                  have a3 := Nat.mul_le_mul_right D hD2
                  have a4 := HQ.out
                  omega
                obtain ⟨hs1, hs2, hs3⟩ := hs
                have e1 : IntKind.u32.wrap ((S : Int) - 1) = ((S - 1 : Nat) : Int) := by rw [IntKind.wrap_u32]; omega
                have e2 : IntKind.u32.wrap ((S : Int) + 1) = ((S + 1 : Nat) : Int) := by rw [IntKind.wrap_u32]; omega
                have e3 : IntKind.u32.wrap ((S : Int) + 6) = ((S + 6 : Nat) : Int) := by rw [IntKind.wrap_u32]; omega
                have b1 : ((r1 : Int) == 0) = false := by simpa using h1
                have b2 : ((r2 : Int) == 0) = false := by simpa using h3
                go_wp2
                go_roundg (n - (k + 1))
                case rel =>
                  obtain ⟨k1, k2, k3⟩ := hK.out
                  exact ⟨k + 1, S - 1, S + 1, S + 6, by go_num, by go_num, by go_num, by omega, by omega, by omega, by omega, by omega, by omega, ⟨by rw [wd_succ]; omega, by rw [wx_succ]; omega, by omega⟩, rfl, hC.out.succ (by rw [← k1, ← H1.out]; exact h1) (by rw [← k2, ← H2.out]; exact h3), hBi⟩
                case measure => have := hI.out; omega
          · go_wp2
            rw [Exit.noGoto_ret]
            go_ret
            obtain ⟨k1, k2, k3⟩ := hK.out
            exact ⟨n, rfl, Or.inr ⟨hLn.out, hnb, by rw [isP_nat]; simpa using hC.out.isP hn2 hn31 (by rw [← k1, ← HQ.out]; omega), hN.out⟩, hBi.out⟩
      · go_wp2
        try rw [Exit.noGoto_ret]
        go_ret
        refine ⟨0, rfl, Or.inl ⟨rfl, fun q h1 h2 => hN.out q h1 (by omega)⟩, hB.out⟩

set_option maxRecDepth 100000 in
set_option maxHeartbeats 2000000 in
theorem prime_first (a b : Int) (ha : -9223372036854775808 ≤ a) (ha' : a < 9223372036854775808) (hb0 : -9223372036854775808 ≤ b) (hb : b ≤ 2147483647) (w : World) :
    Calls Try.prog 55 #[.int .i64 a, .int .i64 b] w fun e w' => ∃ r, e = .returned (.int .i64 r) ∧ FirstIs (max a 2) b r ∧ Below w.heap.size w w' := by
  obtain ⟨L, hL⟩ : ∃ L : Nat, (L : Int) = max a 2 := ⟨(max a 2).toNat, by omega⟩
  have hL2 : 2 ≤ L := by omega
  have hLm : L < 9223372036854775808 := by omega
  have em : max a 2 = (L : Int) := hL.symm
  rw [em]
  rcases (by omega : (a < 2 ∧ L = 2) ∨ (a = L ∧ ¬ (L : Int) < 2)) with ⟨h2, h3⟩ | ⟨h3, h2⟩
  · exact first_from w L (.inl ⟨h2, h3⟩) hL2 hLm hb
  · exact first_from w L (.inr ⟨h3, h2⟩) hL2 hLm hb
end Go.Proofs.Ytokdcgmjpnanoaa
/- prime.Is, prime.After; the document's Is and After, by their contracts. -/
set_option linter.unusedVariables false
set_option linter.unusedSimpArgs false
namespace Go.Proofs.Ytokdcgmjpnanoaa
open Go.RowKit

theorem first_is {n b r : Int} (h : FirstIs (max n 2) b r) (hb : (b = n ∧ n ≤ 2147483647) ∨ (b = 2147483647 ∧ 2147483647 < n)) : (r == 0) = !isP n := by
  rcases h with ⟨rfl, h⟩ | ⟨h1, h2, h3, h4⟩
  · cases e : isP n with
    | false => rfl
    | true =>
      obtain ⟨m, rfl, k2, k3, -⟩ := isP_true e
      rw [h m (by omega) (by omega)] at e; cases e
  · have hr : r = n := by omega
    subst hr
    obtain ⟨m, rfl, k2, k3, -⟩ := isP_true h3
    rw [h3]
    simp; omega

theorem first_after {n r : Int} (h : FirstIs (max (n + 1) 2) 2147483647 r) : IsAfter n r := by
  have key : ∀ q, n < q → ¬ (max (n + 1) 2 ≤ q ∧ q ≤ 2147483647) → isP q = false := by
    intro q h1 h2
    rcases Int.lt_or_le q 2 with h3 | h3
    · exact isP_lt_two h3
    · exact isP_great (by omega)
  rcases h with ⟨rfl, h⟩ | ⟨h1, h2, h3, h4⟩
  · refine Or.inl ⟨rfl, fun q hq => ?_⟩
    by_cases hk : max (n + 1) 2 ≤ q ∧ q ≤ 2147483647
    · exact h q hk.1 hk.2
    · exact key q hq hk
  · refine Or.inr ⟨by omega, h3, fun q hq hq2 => ?_⟩
    by_cases hk : max (n + 1) 2 ≤ q ∧ q ≤ 2147483647
    · exact h4 q hk.1 hq2
    · exact key q hq hk

theorem prime_is (n : Int) (h1 : -9223372036854775808 ≤ n) (h2 : n < 9223372036854775808) (w : World) :
    Calls Try.prog 30 #[.int .i64 n] w fun e w' => e = .returned (.bool (isP n)) ∧ Below w.heap.size w w' := by
  by_cases h : n ≤ 2147483647
  · have hc := prime_first n n h1 h2 h1 (by omega) w
    have hs := fun r (hr : FirstIs (max n 2) n r) => first_is hr (.inl ⟨rfl, h⟩)
    have HC := hidP hc; have HS := hidP hs
    clear hc hs h1
    go_enter Try.func30, Try.ntmps30
    go_wp2_with fail
    refine HC.out.mono ?_
    rintro e w1 ⟨r, rfl, hr, hb1⟩
    have hz := HS.out r hr
    have HB := hidP hb1
    clear hr hb1
    go_wp2_with fail
    go_ret
    exact ⟨by simp [bne, hz], HB.out⟩
  · have hc := prime_first n 2147483647 h1 h2 (by omega) (by omega) w
    have hs := fun r (hr : FirstIs (max n 2) 2147483647 r) => first_is hr (by omega)
    have HC := hidP hc; have HS := hidP hs
    clear hc hs h1
    go_enter Try.func30, Try.ntmps30
    go_wp2_with fail
    refine HC.out.mono ?_
    rintro e w1 ⟨r, rfl, hr, hb1⟩
    have hz := HS.out r hr
    have HB := hidP hb1
    clear hr hb1
    go_wp2_with fail
    go_ret
    exact ⟨by simp [bne, hz], HB.out⟩

set_option maxRecDepth 100000 in
set_option maxHeartbeats 1000000 in
theorem ref_isP (n : Int) (h1 : -9223372036854775808 ≤ n) (h2 : n < 9223372036854775808) (w : World) :
    Calls Try.prog 14 #[.int .i64 n] w fun e w' => e = .returned (.bool (isP n)) ∧ Below w.heap.size w w' := by
  by_cases hlo : n < 2
  · have HP := hidP (isP_lt_two hlo)
    clear h1
    go_enter Try.func14, Try.ntmps14
    go_wp2
    go_ret
    exact ⟨by rw [HP.out]; rfl, Below.refl _ _⟩
  by_cases hhi : 2147483648 ≤ n
  · have HP := hidP (isP_great hhi)
    have hge : n ≥ 2147483648 := hhi
    clear h1
    go_enter Try.func14, Try.ntmps14
    go_wp2
    go_ret
    exact ⟨by rw [HP.out]; rfl, Below.refl _ _⟩
  obtain ⟨m, rfl⟩ : ∃ m : Nat, n = m := ⟨n.toNat, by omega⟩
  have hm : m < 2147483648 := by omega
  have hm2 : 2 ≤ m := by omega
  clear h1 h2
  go_enter Try.func14, Try.ntmps14
  go_wp2
  go_loopg [3] m (fun g v wr => ∃ d : Nat, v = .int .i64 d ∧ 2 ≤ d ∧ d ≤ 46341 ∧ Hid (m - d + 2 = g) ∧ Hid (∀ e, e < d → 2 ≤ e → ¬ e ∣ m) ∧ Hid (Below w.heap.size w wr))
  case atStart => exact ⟨2, rfl, by omega, by omega, by show _ = _; omega, fun e h1 h2 => absurd h1 (by omega), Below.refl _ _⟩
  case round =>
    obtain ⟨d, rfl, hd2, hd, hG, hN, hB⟩ := hrel
    obtain ⟨Q, hQ⟩ : ∃ Q, Q = d * d := ⟨_, rfl⟩
    have hQb : Q < 4294967296 := by have := Nat.mul_le_mul hd hd; omega
    have eQ' : (d : Int) * (d : Int) = (Q : Int) := by rw [hQ]; exact (Int.natCast_mul d d).symm
    have eQ : IntKind.i64.wrap (Q : Int) = (Q : Int) := by rw [IntKind.wrap_i64]; omega
    have HQ := hidP hQ
    clear hQ
    by_cases hle : Q ≤ m
    · obtain ⟨r1, hr1⟩ : ∃ r, r = m % d := ⟨_, rfl⟩
      have d1 : (m : Int) % (d : Int) = (r1 : Int) := by rw [hr1]; exact (Int.natCast_emod _ _).symm
      have d2 : Int.tmod (m : Int) (d : Int) = (r1 : Int) := by rw [Int.tmod_eq_emod_of_nonneg (by omega)]; exact d1
      have l1 : r1 < d := by rw [hr1]; exact Nat.mod_lt _ (by omega)
      have w1 : IntKind.i64.wrap (r1 : Int) = (r1 : Int) := by rw [IntKind.wrap_i64]; omega
      have z1 : ¬ (d : Int) = 0 := by omega
      have H1 := hidP hr1
      have hd3 : d ≤ 46340 ∧ 2 * d ≤ m := by
        have h3 := HQ.out
        have h4 := Nat.mul_le_mul_right d hd2
        refine ⟨?_, by omega⟩
        rcases Nat.lt_or_ge 46340 d with h5 | h5
        · have := Nat.mul_le_mul h5 h5; omega
        · exact h5
      obtain ⟨hd4, hd5⟩ := hd3
      clear hr1
      by_cases h1 : r1 = 0
      · subst h1
        have HP := hidP (show isP (m : Int) = false by rw [isP_nat]; simpa using not_isP_of_dvd hd2 (by omega) H1.out.symm)
        go_wp2
        go_ret
        exact ⟨by rw [HP.out]; rfl, by first | exact hB.out | exact hB.out.drew⟩
      · have h1' : ¬ (r1 : Int) = 0 := by omega
        have HM := hidP hm
        clear hm hhi
        go_wp2
        go_roundg (m - (d + 1) + 2)
        case rel => exact ⟨d + 1, by go_num, by omega, by omega, rfl, fun e h3 h4 => by
          rcases Nat.lt_or_ge e d with h5 | h5
          · exact hN.out e h5 h4
          · have : e = d := by omega
            subst this
            intro h6
            exact h1 (by rw [H1.out]; exact Nat.mod_eq_zero_of_dvd h6), by first | exact hB | exact hB.out.drew⟩
        case measure => have := hG.out; omega
    · have HP := hidP (show isP (m : Int) = true by rw [isP_nat]; simpa using isP_of_small hm2 hm (by rw [← HQ.out]; omega) hN.out)
      go_wp2
      go_ret
      exact ⟨by rw [HP.out]; rfl, by first | exact hB.out | exact hB.out.drew⟩

theorem isAfter_low {n r : Int} (hn : n < 1) (h : IsAfter 1 r) : IsAfter n r := by
  rcases h with ⟨rfl, h⟩ | ⟨h1, h2, h3⟩
  · exact .inl ⟨rfl, fun q hq => by
      rcases Int.lt_or_le 1 q with h4 | h4
      · exact h q h4
      · exact isP_lt_two (by omega)⟩
  · exact .inr ⟨by omega, h2, fun q hq hq2 => by
      rcases Int.lt_or_le 1 q with h4 | h4
      · exact h3 q h4 hq2
      · exact isP_lt_two (by omega)⟩

theorem isAfter_max {n : Int} (h : 2147483647 ≤ n) : IsAfter n 0 := .inl ⟨rfl, fun q hq => isP_great (by omega)⟩

end Go.Proofs.Ytokdcgmjpnanoaa
/- prime.residue, the document's Rest, prime.product, prime.power, prime.inverse by their contracts. -/
set_option linter.unusedVariables false
set_option linter.unusedSimpArgs false
namespace Go.Proofs.Ytokdcgmjpnanoaa
open Go.RowKit

theorem ref_rest (a p : Int) (hp : 0 < p) (hp2 : p < 2147483648) (w : World) :
    Calls Try.prog 83 #[.int .i64 a, .int .i64 p] w fun e w' => e = .returned (.int .i64 (a % p)) ∧ Below w.heap.size w w' := by
  obtain ⟨t, r, ht, hr, t1, t2, r1, r2, h⟩ := rest_letters a p hp hp2
  have wt : IntKind.i64.wrap t = t := by rw [IntKind.wrap_i64]; omega
  have hp0 : ¬ p = 0 := by omega
  have HR := hidP hr
  rw [hr]
  clear hr
  rcases h with ⟨h0, hs⟩ | ⟨h0, hs⟩
  · have ws : IntKind.i64.wrap (t + p) = r := by rw [IntKind.wrap_i64]; omega
    clear hs
    go_enter Try.func83, Try.ntmps83
    go_wp2
    go_ret
    exact ⟨by first | rfl | (simp [ws]), by first | exact Below.refl _ _ | exact (Below.refl _ _).drew⟩
  · subst hs
    have h1 : ¬ t < 0 := h0
    go_enter Try.func83, Try.ntmps83
    go_wp2
    go_ret
    exact ⟨rfl, by first | exact Below.refl _ _ | exact (Below.refl _ _).drew⟩

theorem prod_fits {a b : Nat} (ha : a < 2147483648) (hb : b < 2147483648) : a * b < 4611686018427387904 := by
  have := Nat.mul_le_mul (show a ≤ 2147483647 by omega) (show b ≤ 2147483647 by omega)
  omega

end Go.Proofs.Ytokdcgmjpnanoaa
/- The document's Add, Mul, Half, Pow, Inv of layer 5 by their contracts. -/
set_option linter.unusedVariables false
set_option linter.unusedSimpArgs false
namespace Go.Proofs.Ytokdcgmjpnanoaa
open Go.RowKit

set_option maxRecDepth 100000 in
set_option maxHeartbeats 1000000 in
theorem ref5_pow (a n p : Int) (h1 : -9223372036854775808 ≤ p) (h2 : p < 9223372036854775808) (hn : n < 9223372036854775808) (w : World) :
    Calls Try.prog 84 #[.int .i64 a, .int .i64 n, .int .i64 p] w fun e w' => e = .returned (.int .i64 (powP a n p)) ∧ Below w.heap.size w w' := by
  have HI : Hid (∀ w, Calls Try.prog 14 #[.int .i64 p] w fun e w' => e = .returned (.bool (isP p)) ∧ Below w.heap.size w w') := fun w => ref_isP p h1 h2 w
  clear h1 h2
  cases hp : isP p with
  | false =>
    have HZ : Hid (powP a n p = 0) := by show _ = _; simp [powP, hp]
    rw [hp] at HI
    clear hp
    go_enter Try.func84, Try.ntmps84
    go_wp2_with fail
    refine (HI.out _).mono ?_
    rintro e w1 ⟨rfl, hb1⟩
    have HB := hidP hb1
    clear hb1
    go_wp2_with fail
    go_ret
    exact ⟨by rw [HZ.out]; rfl, HB.out⟩
  | true =>
    rw [hp] at HI
    by_cases h0 : n < 0
    · have HZ : Hid (powP a n p = 0) := by show _ = _; unfold powP; rw [if_neg (fun h => by omega)]
      clear hn hp
      go_enter Try.func84, Try.ntmps84
      go_wp2_with fail
      refine (HI.out _).mono ?_
      rintro e w1 ⟨rfl, hb1⟩
      have HB := hidP hb1
      clear hb1
      go_wp2_with fail
      go_ret
      exact ⟨by rw [HZ.out]; rfl, HB.out⟩
    obtain ⟨m, rfl⟩ : ∃ m : Nat, n = m := ⟨n.toNat, by omega⟩
    have hm : m < 9223372036854775808 := by omega
    have h0' : ¬ (m : Int) < 0 := by omega
    clear hn h0
    obtain ⟨q, rfl, hq⟩ := isP_true hp
    have hq2 := hq.1
    have hq3 := hq.2.1
    have HQ := hidP hq
    clear hq
    obtain ⟨x, ex, lx⟩ : ∃ x : Nat, a % (q : Int) = x ∧ x < q := ⟨(a % (q : Int)).toNat, by have := Int.emod_nonneg a (show (q : Int) ≠ 0 by omega); omega, by have := Int.emod_nonneg a (show (q : Int) ≠ 0 by omega); have := Int.emod_lt_of_pos a (show 0 < (q : Int) by omega); omega⟩
    have HR : Hid (∀ (z : Int) w, Calls Try.prog 83 #[.int .i64 z, .int .i64 q] w fun e w' => e = .returned (.int .i64 (z % (q : Int))) ∧ Below w.heap.size w w') := fun z w => ref_rest z q (by omega) (by omega) w
    have HP : Hid (∀ (x y : Nat) w, x < 2147483648 → y < 2147483648 → Calls Try.prog 83 #[.int .i64 (x * y : Nat), .int .i64 q] w fun e w' => e = .returned (.int .i64 (x * y % q : Nat)) ∧ Below w.heap.size w w') := fun x y w hx hy => by
      have h := HR.out ((x * y : Nat) : Int) w
      have e3 : ((x * y : Nat) : Int) % (q : Int) = ((x * y) % q : Nat) := by norm_cast
      rwa [e3] at h
    have HZ : Hid (powP a m q = (1 * x ^ m % q : Nat)) := by show _ = _; unfold powP; rw [if_pos ⟨by omega, hp⟩, ex, Nat.one_mul]; rfl
    have C1 := hidP fun w => HR.out 1 w
    have e1 : (1 : Int) % (q : Int) = ((1 : Nat) : Int) := by rw [Int.emod_eq_of_lt (by omega) (by omega)]; rfl
    have C2 := hidP fun w => HR.out a w
    rw [ex] at C2
    rw [e1] at C1
    obtain ⟨E, hE⟩ : ∃ E, 1 * x ^ m % q = E := ⟨_, rfl⟩
    rw [hE] at HZ
    have HE := hidP hE
    clear ex hp HR hE e1
    go_enter Try.func84, Try.ntmps84
    go_wp2_with fail
    refine (HI.out _).mono ?_
    rintro e w0 ⟨rfl, hb0⟩
    have B0 := hidP hb0
    clear hb0
    go_wp2_with fail
    refine (C1.out _).mono ?_
    rintro e w1 ⟨rfl, hb1⟩
    have B1 := hidP (B0.out.trans (hb1.mono B0.out.size))
    clear hb1
    go_wp2_with fail
    refine (C2.out _).mono ?_
    rintro e w2 ⟨rfl, hb2⟩
    have B2 := hidP (B1.out.trans (hb2.mono B1.out.size))
    clear hb2
    go_wp2
    go_loopg [1, 7, 8] m (fun g v1 v7 v8 wr => ∃ k r z : Nat, v1 = .int .i64 k ∧ v7 = .int .i64 r ∧ v8 = .int .i64 z ∧ z < q ∧ r < q ∧ k < 9223372036854775808 ∧ Hid (k = g) ∧ Hid (r * z ^ k % q = E) ∧ Hid (Below w.heap.size w wr))
    case atStart => exact ⟨m, 1, x, rfl, rfl, rfl, lx, by omega, hm, rfl, HE, B2⟩
    case round =>
      obtain ⟨k, r, z, rfl, rfl, rfl, hz, hr, hk, hG, hI, hB⟩ := hrel
      rcases Nat.eq_zero_or_pos k with h0 | h0
      · subst h0
        have hfin : r = E := by have := hI.out; rw [Nat.pow_zero, Nat.mul_one, Nat.mod_eq_of_lt hr] at this; exact this
        have HF := hidP hfin
        clear hfin hI
        go_wp2
        go_ret
        exact ⟨by rw [HZ.out, HF.out]; rfl, hB.out⟩
      · have hpos : (k : Int) > 0 := by omega
        obtain ⟨h, hh⟩ : ∃ h, h = k / 2 := ⟨_, rfl⟩
        have q2 : (k : Int) / 2 = (h : Int) := by omega
        have q3 : Int.tdiv (k : Int) 2 = (h : Int) := by rw [Int.tdiv_eq_ediv_of_nonneg (by omega)]; exact q2
        have hhm : h < k := by omega
        have q4 : IntKind.i64.wrap (h : Int) = (h : Int) := by rw [IntKind.wrap_i64]; omega
        have C5 := hidP fun w => HP.out z z w (by omega) (by omega)
        have hf5 := prod_fits (show z < 2147483648 by omega) (show z < 2147483648 by omega)
        have f5 : (z : Int) * (z : Int) = ((z * z : Nat) : Int) := (Int.natCast_mul z z).symm
        obtain ⟨s, hs⟩ : ∃ s, s = z * z % q := ⟨_, rfl⟩
        have hs2 : s < q := by rw [hs]; exact Nat.mod_lt _ (by omega)
        rw [← hs] at C5
        have HG := hidP hs; have HH := hidP hh
        obtain ⟨S, hS⟩ : ∃ S, z * z = S := ⟨_, rfl⟩
        rw [hS] at C5 f5 hf5
        have g5 : IntKind.i64.wrap (S : Int) = (S : Int) := by rw [IntKind.wrap_i64]; omega
        clear hs hh hS
        rcases Nat.mod_two_eq_zero_or_one k with h2 | h2
        · have o1 : Int.tmod (k : Int) 2 = 0 := by rw [Int.tmod_eq_emod_of_nonneg (by omega)]; omega
          have o2 : (k : Int) % 2 = 0 := by omega
          have H2 := hidP h2
          clear h2
          go_wp2_with fail
          refine (C5.out _).mono ?_
          rintro e w1 ⟨rfl, hb1⟩
          have HB1 := hidP (hB.out.trans (hb1.mono hB.out.size))
          clear hb1
          go_wp2
          go_roundg h
          case rel => exact ⟨h, r, s, rfl, rfl, rfl, hs2, hr, by omega, rfl, by show _ = _; rw [HG.out, HH.out, pw_even _ _ _ _ H2.out]; exact hI.out, HB1⟩
          case measure => have := hG.out; omega
        · have o1 : Int.tmod (k : Int) 2 = 1 := by rw [Int.tmod_eq_emod_of_nonneg (by omega)]; omega
          have o2 : (k : Int) % 2 = 1 := by omega
          have H2 := hidP h2
          have C4 := hidP fun w => HP.out r z w (by omega) (by omega)
          have hf4 := prod_fits (show r < 2147483648 by omega) (show z < 2147483648 by omega)
          have f4 : (r : Int) * (z : Int) = ((r * z : Nat) : Int) := (Int.natCast_mul r z).symm
          obtain ⟨u, hu⟩ : ∃ u, u = r * z % q := ⟨_, rfl⟩
          have hu2 : u < q := by rw [hu]; exact Nat.mod_lt _ (by omega)
          rw [← hu] at C4
          have HU := hidP hu
          obtain ⟨T, hT⟩ : ∃ T, r * z = T := ⟨_, rfl⟩
          rw [hT] at C4 f4 hf4
          have g4 : IntKind.i64.wrap (T : Int) = (T : Int) := by rw [IntKind.wrap_i64]; omega
          clear hu h2 hT
          go_wp2_with fail
          refine (C4.out _).mono ?_
          rintro e w1 ⟨rfl, hb1⟩
          have HB1 := hidP (hB.out.trans (hb1.mono hB.out.size))
          clear hb1
          go_wp2_with fail
          refine (C5.out _).mono ?_
          rintro e w2 ⟨rfl, hb2⟩
          have HB2 := hidP (HB1.out.trans (hb2.mono HB1.out.size))
          clear hb2
          go_wp2
          go_roundg h
          case rel => exact ⟨h, u, s, rfl, rfl, rfl, hs2, hu2, by omega, rfl, by show _ = _; rw [HG.out, HH.out, HU.out, pw_odd _ _ _ _ H2.out]; exact hI.out, HB2⟩
          case measure => have := hG.out; omega

theorem ref5_inv (a p : Int) (h1 : -9223372036854775808 ≤ p) (h2 : p < 9223372036854775808) (w : World) :
    Calls Try.prog 45 #[.int .i64 a, .int .i64 p] w fun e w' => e = .returned (.int .i64 (invP a p)) ∧ Below w.heap.size w w' := by
  have HI : Hid (∀ w, Calls Try.prog 14 #[.int .i64 p] w fun e w' => e = .returned (.bool (isP p)) ∧ Below w.heap.size w w') := fun w => ref_isP p h1 h2 w
  cases hp : isP p with
  | false =>
    have HZ : Hid (invP a p = 0) := by show _ = _; simp [invP, hp]
    rw [hp] at HI
    clear hp h1 h2
    go_enter Try.func45, Try.ntmps45
    go_wp2_with fail
    refine (HI.out _).mono ?_
    rintro e w1 ⟨rfl, hb1⟩
    have HB := hidP hb1
    clear hb1
    go_wp2_with fail
    go_ret
    exact ⟨by rw [HZ.out]; rfl, HB.out⟩
  | true =>
    rw [hp] at HI
    have C2 := hidP fun w => ref5_pow a (p - 2) p h1 h2 (by omega) w
    clear h1 h2
    obtain ⟨q, rfl, hq⟩ := isP_true hp
    have hq2 := hq.1
    have hq3 := hq.2.1
    have HQ := hidP hq
    clear hq
    have HR : Hid (∀ (z : Int) w, Calls Try.prog 83 #[.int .i64 z, .int .i64 q] w fun e w' => e = .returned (.int .i64 (z % (q : Int))) ∧ Below w.heap.size w w') := fun z w => ref_rest z q (by omega) (by omega) w
    have C1 := hidP fun w => HR.out a w
    have hw : IntKind.i64.wrap ((q : Int) - 2) = (q : Int) - 2 := by rw [IntKind.wrap_i64]; omega
    by_cases h0 : a % (q : Int) = 0
    · have HZ : Hid (invP a q = 0) := by show _ = _; unfold invP; rw [if_neg (fun h => h.2 h0)]
      rw [h0] at C1
      clear h0 hp HR C2 hw
      go_enter Try.func45, Try.ntmps45
      go_wp2_with fail
      refine (HI.out _).mono ?_
      rintro e w0 ⟨rfl, hb0⟩
      have B0 := hidP hb0
      clear hb0
      go_wp2_with fail
      refine (C1.out _).mono ?_
      rintro e w1 ⟨rfl, hb1⟩
      have B1 := hidP (B0.out.trans (hb1.mono B0.out.size))
      clear hb1
      go_wp2_with fail
      go_ret
      exact ⟨by rw [HZ.out]; rfl, B1.out⟩
    · have HZ : Hid (invP a q = powP a ((q : Int) - 2) q) := by show _ = _; unfold invP; rw [if_pos ⟨hp, h0⟩]
      obtain ⟨E, hE⟩ : ∃ E, powP a ((q : Int) - 2) q = E := ⟨_, rfl⟩
      obtain ⟨R, hR⟩ : ∃ R, a % (q : Int) = R := ⟨_, rfl⟩
      rw [hE] at HZ C2
      rw [hR] at C1 h0
      have b0 : (R == 0) = false := by simpa using h0
      clear hp HR hE hR
      go_enter Try.func45, Try.ntmps45
      go_wp2_with fail
      refine (HI.out _).mono ?_
      rintro e w0 ⟨rfl, hb0⟩
      have B0 := hidP hb0
      clear hb0
      go_wp2_with fail
      refine (C1.out _).mono ?_
      rintro e w1 ⟨rfl, hb1⟩
      have B1 := hidP (B0.out.trans (hb1.mono B0.out.size))
      clear hb1
      go_wp2_with fail
      refine (C2.out _).mono ?_
      rintro e w2 ⟨rfl, hb2⟩
      have B2 := hidP (B1.out.trans (hb2.mono B1.out.size))
      clear hb2
      go_wp2_with fail
      go_ret
      exact ⟨by rw [HZ.out]; rfl, B2.out⟩
end Go.Proofs.Ytokdcgmjpnanoaa
