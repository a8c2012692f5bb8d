/- Primes as numbers: what a prime is; that trial division by 2, 3 and the neighbours of multiples of 6 finds a divisor if there is one; the theorem of Fermat; the inverse. No function of the program in it. -/
import Derived.WalkKit
set_option linter.unusedVariables false
set_option linter.unusedSimpArgs false
namespace Go.Proofs.Ytbbopmniepkoiaa

/-- A prime of the document. -/
def IsP (n : Nat) : Prop := 2 ≤ n ∧ n < 2147483648 ∧ ∀ e, e < n → 2 ≤ e → ¬ e ∣ n
instance (n : Nat) : Decidable (IsP n) := inferInstanceAs (Decidable (_ ∧ _ ∧ _))
def isP (z : Int) : Bool := decide (0 ≤ z ∧ IsP z.toNat)

theorem isP_nat (n : Nat) : isP (n : Int) = decide (IsP n) := by simp [isP]
theorem isP_true {z : Int} (h : isP z = true) : ∃ n : Nat, z = n ∧ IsP n := by
  simp only [isP, decide_eq_true_eq] at h
  exact ⟨z.toNat, by omega, h.2⟩
theorem isP_lt_two {z : Int} (h : z < 2) : isP z = false := by
  cases e : isP z with
  | false => rfl
  | true => obtain ⟨n, rfl, h2, _⟩ := isP_true e; omega
theorem isP_great {z : Int} (h : 2147483648 ≤ z) : isP z = false := by
  cases e : isP z with
  | false => rfl
  | true => obtain ⟨n, rfl, h2, h3, _⟩ := isP_true e; omega

/-- The other divisor of a pair is small. -/
theorem isP_of_small {n k : Nat} (h2 : 2 ≤ n) (hn : n < 2147483648) (hk : n < k * k) (h : ∀ e, e < k → 2 ≤ e → ¬ e ∣ n) : IsP n := by
  refine ⟨h2, hn, fun e hen he2 hd => ?_⟩
  by_cases hek : e < k
  · exact h e hek he2 hd
  · obtain ⟨f, hf⟩ := hd
    have hfk : f < k := by
      rcases Nat.lt_or_ge f k with h | h
      · exact h
      · have := Nat.mul_le_mul (Nat.le_of_not_lt hek) h; omega
    have hf2 : 2 ≤ f := by
      rcases Nat.lt_or_ge f 2 with h | h
      · have : f = 0 ∨ f = 1 := by omega
        rcases this with rfl | rfl <;> omega
      · exact h
    exact h f hfk hf2 ⟨e, by rw [hf, Nat.mul_comm]⟩

theorem not_isP_of_dvd {n e : Nat} (he : 2 ≤ e) (hen : e < n) (hd : n % e = 0) : ¬ IsP n := fun h => h.2.2 e hen he (Nat.dvd_of_mod_eq_zero hd)

/-- The divisor and its neighbour in round k. -/
def wd (k : Nat) : Nat := if k = 0 then 2 else 6 * k - 1
def wx (k : Nat) : Nat := if k = 0 then 3 else 6 * k + 1
theorem wd_two (k : Nat) : 2 ≤ wd k := by unfold wd; split <;> omega
theorem wd_succ (k : Nat) : wd (k + 1) = 6 * (k + 1) - 1 := by simp [wd]
theorem wx_succ (k : Nat) : wx (k + 1) = 6 * (k + 1) + 1 := by simp [wx]
theorem wx_le (k : Nat) : 2 ≤ wx k ∧ wx k ≤ wd k + 2 := by unfold wx wd; split <;> omega
theorem wd_le_two (k : Nat) : wd k ≤ 6 * k + 2 ∧ 6 * k ≤ wd k + 1 := by unfold wd; split <;> omega

/-- No divisor below that of round k. -/
def Clear (n k : Nat) : Prop := ∀ e, e < wd k → 2 ≤ e → ¬ e ∣ n

theorem Clear.zero (n : Nat) : Clear n 0 := fun e h1 h2 => by simp [wd] at h1; omega

theorem Clear.succ {n k : Nat} (h : Clear n k) (h1 : n % wd k ≠ 0) (h2 : n % wx k ≠ 0) : Clear n (k + 1) := by
  have n1 : ¬ wd k ∣ n := fun h => h1 (Nat.mod_eq_zero_of_dvd h)
  have n2 : ¬ wx k ∣ n := fun h => h2 (Nat.mod_eq_zero_of_dvd h)
  intro e he he2 hd
  rw [wd_succ] at he
  by_cases hek : e < wd k
  · exact h e hek he2 hd
  · have two : ¬ 2 ∣ n := by
      rcases Nat.eq_zero_or_pos k with rfl | hk
      · simpa [wd] using n1
      · exact h 2 (by have := (wd_le_two k).2; omega) (by omega)
    have three : ¬ 3 ∣ n := by
      rcases Nat.eq_zero_or_pos k with rfl | hk
      · simpa [wx] using n2
      · exact h 3 (by have := (wd_le_two k).2; omega) (by omega)
    have e2 : ¬ 2 ∣ e := fun h => two (Nat.dvd_trans h hd)
    have e3 : ¬ 3 ∣ e := fun h => three (Nat.dvd_trans h hd)
    rcases Nat.eq_zero_or_pos k with hk | hk
    · subst hk
      simp only [wd, if_true] at hek n1
      have h4 : e = 2 ∨ e = 3 ∨ e = 4 := by omega
      rcases h4 with rfl | rfl | rfl
      · exact two hd
      · exact three hd
      · exact e2 (by decide)
    · have hw : wd k = 6 * k - 1 := by unfold wd; rw [if_neg (by omega)]
      have hx : wx k = 6 * k + 1 := by unfold wx; rw [if_neg (by omega)]
      have ne1 : e ≠ wd k := fun h => n1 (h ▸ hd)
      have ne2 : e ≠ wx k := fun h => n2 (h ▸ hd)
      rw [hw] at ne1 hek; rw [hx] at ne2
      omega

theorem Clear.isP {n k : Nat} (h : Clear n k) (h2 : 2 ≤ n) (hn : n < 2147483648) (hk : n < wd k * wd k) : IsP n := isP_of_small h2 hn hk h

/-- What is divided by a divisor that is tried is none. -/
theorem hit_left {n k : Nat} (hk : wd k * wd k ≤ n) (h : n % wd k = 0) : ¬ IsP n := by
  have := wd_two k
  have := Nat.mul_le_mul_right (wd k) this
  exact not_isP_of_dvd (wd_two k) (by omega) h
theorem hit_right {n k : Nat} (hk : wd k * wd k ≤ n) (h : n % wx k = 0) : ¬ IsP n := by
  have h1 := wd_two k
  have h2 := wx_le k
  refine not_isP_of_dvd h2.1 ?_ h
  rcases Nat.eq_zero_or_pos k with rfl | hk0
  · simp [wx, wd] at hk ⊢; omega
  · have h3 : 5 ≤ wd k := by have := (wd_le_two k).2; omega
    have := Nat.mul_le_mul_right (wd k) h3
    omega

/-- The divisors stay small. -/
theorem wd_small {n k : Nat} (hn : n < 2147483648) (hk : wd k * wd k ≤ n) : wd k ≤ 46340 := by
  rcases Nat.lt_or_ge 46340 (wd k) with h | h
  · have := Nat.mul_le_mul h h
    omega
  · exact h

/-! ### A prime as the next one -/
def IsAfter (n r : Int) : Prop := (r = 0 ∧ ∀ q, n < q → isP q = false) ∨ (n < r ∧ isP r = true ∧ ∀ q, n < q → q < r → isP q = false)
theorem IsAfter.unique {n r s : Int} (h : IsAfter n r) (k : IsAfter n s) : r = s := by
  rcases h with ⟨rfl, h⟩ | ⟨h1, h2, h3⟩ <;> rcases k with ⟨rfl, k⟩ | ⟨k1, k2, k3⟩
  · rfl
  · rw [h s k1] at k2; cases k2
  · rw [k r h1] at h2; cases h2
  · rcases Int.lt_trichotomy r s with h | h | h
    · rw [k3 r h1 h] at h2; cases h2
    · exact h
    · rw [h3 s k1 h] at k2; cases k2

/-! ### Euclid -/
theorem IsP.coprime {p a : Nat} (hp : IsP p) (ha : ¬ p ∣ a) : Nat.gcd p a = 1 := by
  obtain ⟨h2, _, hd⟩ := hp
  have h := Nat.gcd_dvd_left p a
  have hle := Nat.le_of_dvd (by omega) h
  rcases Nat.lt_or_ge (Nat.gcd p a) p with h1 | h1
  · rcases Nat.lt_or_ge (Nat.gcd p a) 2 with h3 | h3
    · have : Nat.gcd p a ≠ 0 := by intro e; rw [Nat.gcd_eq_zero_iff] at e; omega
      omega
    · exact absurd h (hd _ h1 h3)
  · have e : Nat.gcd p a = p := by omega
    exact absurd (e ▸ Nat.gcd_dvd_right p a) ha

theorem IsP.euclid {p a b : Nat} (hp : IsP p) (h : p ∣ a * b) : p ∣ a ∨ p ∣ b := by
  rcases Nat.decEq (a % p) 0 with h0 | h0
  · refine Or.inr ?_
    have : ¬ p ∣ a := fun h => h0 (Nat.mod_eq_zero_of_dvd h)
    exact (show Nat.Coprime p a from hp.coprime this).dvd_of_dvd_mul_left h
  · exact Or.inl (Nat.dvd_of_mod_eq_zero h0)

/-! ### Fermat -/
def ch : Nat → Nat → Nat
  | _, 0 => 1
  | 0, _ + 1 => 0
  | n + 1, k + 1 => ch n k + ch n (k + 1)
theorem ch_zero (n : Nat) : ch n 0 = 1 := by cases n <;> rfl
theorem ch_over : ∀ (n k : Nat), n < k → ch n k = 0
  | _, 0, h => by omega
  | 0, _ + 1, _ => rfl
  | n + 1, k + 1, h => by show ch n k + ch n (k + 1) = 0; rw [ch_over n k (by omega), ch_over n (k + 1) (by omega)]
theorem ch_self : ∀ n : Nat, ch n n = 1
  | 0 => rfl
  | n + 1 => by show ch n n + ch n (n + 1) = 1; rw [ch_self n, ch_over n (n + 1) (by omega)]
theorem ch_absorb : ∀ (n k : Nat), (k + 1) * ch (n + 1) (k + 1) = (n + 1) * ch n k
  | 0, 0 => rfl
  | 0, k + 1 => by rw [ch_over 1 (k + 2) (by omega), ch_over 0 (k + 1) (by omega)]; simp
  | n + 1, 0 => by
    have h := ch_absorb n 0
    show (0 + 1) * (ch (n + 1) 0 + ch (n + 1) 1) = (n + 1 + 1) * ch (n + 1) 0
    rw [ch_zero] at *
    simp only [Nat.zero_add, Nat.one_mul, Nat.mul_one] at *
    omega
  | n + 1, k + 1 => by
    have h1 := ch_absorb n k
    have h2 := ch_absorb n (k + 1)
    show (k + 1 + 1) * (ch (n + 1) (k + 1) + ch (n + 1) (k + 2)) = (n + 1 + 1) * (ch n k + ch n (k + 1))
    have e : ch (n + 1) (k + 1) = ch n k + ch n (k + 1) := rfl
    rw [Nat.mul_add, h2]
    rw [show (k + 1 + 1) * ch (n + 1) (k + 1) = (k + 1) * ch (n + 1) (k + 1) + ch (n + 1) (k + 1) by rw [Nat.succ_mul], h1, e, Nat.succ_mul (n + 1), Nat.mul_add (n + 1)]
    omega

/-- The terms below m of the power of a + 1. -/
def bin (n a : Nat) : Nat → Nat
  | 0 => 0
  | m + 1 => bin n a m + ch n m * a ^ m
theorem bin_step (n a : Nat) : ∀ m, bin (n + 1) a (m + 1) = bin n a (m + 1) + a * bin n a m
  | 0 => by simp [bin, ch_zero]
  | m + 1 => by
    have h := bin_step n a m
    show bin (n + 1) a (m + 1) + ch (n + 1) (m + 1) * a ^ (m + 1) = bin n a (m + 1) + ch n (m + 1) * a ^ (m + 1) + a * (bin n a m + ch n m * a ^ m)
    rw [h, show ch (n + 1) (m + 1) = ch n m + ch n (m + 1) from rfl, Nat.add_mul, Nat.mul_add, Nat.pow_succ]
    have : a * (ch n m * a ^ m) = ch n m * (a ^ m * a) := by rw [Nat.mul_left_comm, Nat.mul_comm a]
    omega
theorem bin_over (n a : Nat) : ∀ k, bin n a (n + 1 + k) = bin n a (n + 1)
  | 0 => rfl
  | k + 1 => by
    show bin n a (n + 1 + k) + ch n (n + 1 + k) * a ^ (n + 1 + k) = _
    rw [bin_over n a k, ch_over n (n + 1 + k) (by omega), Nat.zero_mul, Nat.add_zero]
theorem pow_bin (a : Nat) : ∀ n, (a + 1) ^ n = bin n a (n + 1)
  | 0 => by simp [bin, ch_zero]
  | n + 1 => by
    rw [Nat.pow_succ, pow_bin a n, bin_step n a (n + 1), bin_over n a 1, Nat.mul_add, Nat.mul_one, Nat.mul_comm a]
    omega

theorem bin_mid {p : Nat} (a : Nat) (hp : IsP p) : ∀ m, m + 1 ≤ p → bin p a (m + 1) % p = 1 % p
  | 0, _ => by simp [bin, ch_zero]
  | m + 1, h => by
    show (bin p a (m + 1) + ch p (m + 1) * a ^ (m + 1)) % p = 1 % p
    have hd : p ∣ ch p (m + 1) := by
      obtain ⟨q, rfl⟩ : ∃ q, p = q + 1 := ⟨p - 1, by have := hp.1; omega⟩
      have hm : (q + 1) ∣ (m + 1) * ch (q + 1) (m + 1) := ⟨ch q m, ch_absorb q m⟩
      rcases hp.euclid hm with h1 | h1
      · have := Nat.le_of_dvd (by omega) h1; omega
      · exact h1
    obtain ⟨c, hc⟩ := hd
    rw [hc, Nat.mul_assoc, Nat.add_mul_mod_self_left]
    exact bin_mid a hp m (by omega)

theorem fermat {p : Nat} (hp : IsP p) : ∀ a : Nat, a ^ p % p = a % p
  | 0 => by rw [Nat.zero_pow (by have := hp.1; omega)]
  | a + 1 => by
    have h := fermat hp a
    obtain ⟨q, rfl⟩ : ∃ q, p = q + 1 := ⟨p - 1, by have := hp.1; omega⟩
    rw [pow_bin]
    show (bin (q + 1) a (q + 1) + ch (q + 1) (q + 1) * a ^ (q + 1)) % (q + 1) = _
    rw [ch_self, Nat.one_mul, Nat.add_mod, bin_mid a hp q (by omega), h, ← Nat.add_mod, Nat.add_comm]

/-- The power p - 2 is the inverse. -/
theorem inverse_mod {p a : Nat} (hp : IsP p) (ha : a % p ≠ 0) : (a * a ^ (p - 2)) % p = 1 := by
  have h2 := hp.1
  have h := fermat hp a
  obtain ⟨q, rfl⟩ : ∃ q, p = q + 2 := ⟨p - 2, by omega⟩
  rw [Nat.add_sub_cancel] at *
  have e : a ^ (q + 2) = a * (a * a ^ q) := by rw [Nat.pow_succ, Nat.pow_succ, Nat.mul_comm (a ^ q) a, Nat.mul_comm]
  obtain ⟨x, hx⟩ : ∃ x, x = a * a ^ q := ⟨_, rfl⟩
  rw [e, ← hx] at h
  rw [← hx]
  have hx0 : x ≠ 0 := by
    intro h0
    have h0' : a * a ^ q = 0 := by rw [← hx, h0]
    rcases Nat.mul_eq_zero.1 h0' with h3 | h3
    · subst h3; simp at ha
    · have := Nat.pow_pos (n := q) (Nat.pos_of_ne_zero (fun h4 : a = 0 => ha (by rw [h4]; simp))); omega
  have hd : (q + 2) ∣ a * (x - 1) := by
    rw [Nat.mul_sub, Nat.mul_one]
    exact Nat.dvd_of_mod_eq_zero (Nat.sub_mod_eq_zero_of_mod_eq h)
  rcases hp.euclid hd with h3 | h3
  · exact absurd (Nat.mod_eq_zero_of_dvd h3) ha
  · obtain ⟨c, hc⟩ := h3
    have : x = (q + 2) * c + 1 := by omega
    rw [this, Nat.mul_add_mod, Nat.mod_eq_of_lt (by omega)]
end Go.Proofs.Ytbbopmniepkoiaa
