/- The middle of two floats, rounded once. No function of the program in it. -/
import Derived.Test.YtjnbonellgpjnaaGreatDr
import Derived.Test.YtjnbonellgpjnaaGreatKT
set_option linter.unusedVariables false
set_option linter.unusedSimpArgs false
namespace Go.Proofs.YtjnbonellgpjnaaGreat
open Go.RowKit

theorem rne_rnd (n g : Nat) : rne n g = rnd n g := by
  unfold rne rnd
  by_cases h1 : g < 2 * (n % g)
  · rw [if_pos (.inl h1), decide_eq_true h1]; simp
  · rw [decide_eq_false h1]
    by_cases h2 : g = 2 * (n % g)
    · have e : (g == 2 * (n % g)) = true := by simpa using h2
      rw [e]
      by_cases h3 : n / g % 2 = 1
      · rw [if_pos (.inr ⟨h2.symm, h3⟩)]; simp [h3]
      · rw [if_neg (by rintro (h | ⟨-, h⟩); exact h1 h; exact h3 h)]
        have : (n / g % 2 == 1) = false := by simpa using h3
        rw [this]; simp
    · have e : (g == 2 * (n % g)) = false := by simpa using h2
      rw [e, if_neg (by rintro (h | ⟨h, -⟩); exact h1 h; exact h2 h.symm)]
      simp

theorem log_of {k e : Nat} (h1 : 2 ^ e ≤ k) (h2 : k < 2 ^ (e + 1)) : k.log2 = e := by
  have : 0 < 2 ^ e := Nat.two_pow_pos e
  exact (Nat.log2_eq_iff (by omega)).2 ⟨h1, h2⟩

theorem kept_self (k : Nat) (l : Int) : kept k l l = k := by
  unfold kept
  rw [show (l - l).toNat = 0 by omega, Nat.pow_zero, Nat.mul_one]
  have := rnd_mul k 1 (by decide)
  rwa [Nat.mul_one] at this

/-- What is rounded is rounded already. -/
theorem rungAt_idem {m : Nat} (hm : m ≠ 0) (p : Int) : rungAt (kept m p (max (p + m.log2 - 52) (-1074))) (max (p + m.log2 - 52) (-1074)) = rungAt m p := by
  rw [rungAt_kept hm]
  have hhi := kept_hi hm (p := p) (last := max (p + m.log2 - 52) (-1074)) (by omega)
  have hlo : max (p + m.log2 - 52) (-1074) = -1074 ∨ 4503599627370496 ≤ kept m p (max (p + m.log2 - 52) (-1074)) := by
    by_cases h : p + m.log2 - 52 ≤ -1074
    · left; omega
    · right; exact kept_lo hm (by omega)
  have hl : -1074 ≤ max (p + (m.log2 : Int) - 52) (-1074) := by omega
  generalize max (p + (m.log2 : Int) - 52) (-1074) = l at *
  generalize kept m p l = k at *
  by_cases k0 : k = 0
  · subst k0
    rw [show rungAt 0 l = 0 from if_pos rfl]
    have : l = -1074 := by omega
    subst this
    simp
  rw [rungAt_kept k0]
  by_cases k1 : k = 9007199254740992
  · subst k1
    rw [show (9007199254740992 : Nat).log2 = 53 by decide +kernel]
    have e : max (l + ((53 : Nat) : Int) - 52) (-1074) = l + 1 := by omega
    rw [e]
    have h1 := kept_pow (k := 53) (p := l) (last := l + 1) (e := 52) (by omega)
    rw [show (2 : Nat) ^ 53 = 9007199254740992 by decide, show (2 : Nat) ^ 52 = 4503599627370496 by decide] at h1
    rw [h1]
    have e2 : (l + 1 + 1074).toNat = (l + 1074).toNat + 1 := by omega
    rw [e2]
    generalize (l + 1074).toNat = E
    exact congrArg (fun n => min n 9218868437227405312) (by omega)
  · by_cases k2 : 4503599627370496 ≤ k
    · have e0 : k.log2 = 52 := log_of (by show 4503599627370496 ≤ k; exact k2) (by show k < 9007199254740992; omega)
      rw [e0, show max (l + ((52 : Nat) : Int) - 52) (-1074) = l by omega, kept_self]
    · have e0 : k.log2 < 52 := (Nat.log2_lt k0).2 (by show k < 4503599627370496; omega)
      have e1 : l = -1074 := by omega
      subst e1
      rw [show max ((-1074 : Int) + (k.log2 : Int) - 52) (-1074) = -1074 by omega, kept_self]

/-- The float nearest to m * 2^-K. -/
theorem nearF_pow {m : Nat} (hm : 0 < m) (K : Nat) : nearF m (2 ^ K) = rungAt m (-(K : Int)) := by
  have hK := Nat.two_pow_pos K
  have hl := (Nat.log2_eq_iff (n := m) (k := m.log2) (by omega)).1 rfl
  have htop : topF m (2 ^ K) = (m.log2 : Int) - K := by
    refine topF_unique hm hK ?_ ?_
    · rw [lt2_iff K m.log2 (by omega)]
      have := Nat.mul_le_mul_left (2 ^ K) hl.1
      rw [Nat.mul_comm (2 ^ K) m] at this
      omega
    · rw [lt2_iff K (m.log2 + 1) (by omega)]
      have := Nat.mul_lt_mul_of_pos_left hl.2 hK
      rw [Nat.mul_comm (2 ^ K) m] at this
      omega
  rw [near_canon hm hK, nearC_rung, ← rungAt_idem (by omega) (-(K : Int))]
  have hp : placeF m (2 ^ K) = max (-(K : Int) + m.log2 - 52) (-1074) := by unfold placeF; rw [htop]; omega
  have hi : intF m (2 ^ K) = kept m (-(K : Int)) (max (-(K : Int) + m.log2 - 52) (-1074)) := by
    unfold intF kept
    rw [hp, rne_rnd]
    generalize max (-(K : Int) + m.log2 - 52) (-1074) = l at *
    by_cases h0 : 0 ≤ l
    · rw [show (-l).toNat = 0 by omega, show (-(K : Int) - l).toNat = 0 by omega, Nat.pow_zero, Nat.mul_one, ← Nat.pow_add, show K + l.toNat = (l - -(K : Int)).toNat by omega]
    · rw [show l.toNat = 0 by omega, Nat.pow_zero, Nat.mul_one]
      by_cases h1 : -(K : Int) ≤ l
      · rw [show (-(K : Int) - l).toNat = 0 by omega, Nat.pow_zero, Nat.mul_one, ← rne_rnd, ← rne_rnd]
        have e : K = (l - -(K : Int)).toNat + (-l).toNat := by omega
        have e2 : (2 : Nat) ^ K = 2 ^ (l - -(K : Int)).toNat * 2 ^ (-l).toNat := by rw [← Nat.pow_add, ← e]
        rw [e2]
        exact rne_scale (Nat.two_pow_pos _)
      · rw [show (l - -(K : Int)).toNat = 0 by omega, Nat.pow_zero, ← rne_rnd, ← rne_rnd]
        have e : (-l).toNat = (-(K : Int) - l).toNat + K := by omega
        have e2 : m * 2 ^ (-l).toNat = m * 2 ^ (-(K : Int) - l).toNat * 2 ^ K := by rw [Nat.mul_assoc, ← Nat.pow_add, ← e]
        rw [e2]
        have := rne_scale (a := m * 2 ^ (-(K : Int) - l).toNat) (d := 1) hK
        rwa [Nat.one_mul] at this
  rw [hi, hp]
theorem nearF_at {a d m K : Nat} (ha : 0 < a) (hd : 0 < d) (hm : 0 < m) (h : a * 2 ^ K = m * d) : nearF a d = rungAt m (-(K : Int)) := by
  rw [nearF_ratio ha hd hm (Nat.two_pow_pos K) h, nearF_pow hm]

theorem two_rungs {r s E k : Nat} (h1 : r = min ((E + 1) * 4503599627370496 + k) 9218868437227405312) (h2 : s = min (E * 4503599627370496 + k) 9218868437227405312) (hr : r < 9218868437227405312) (hk : 4503599627370496 ≤ k) : s = r - 4503599627370496 ∧ 9007199254740992 ≤ r ∧ r - 4503599627370496 < 9218868437227405312 := by
  rw [Nat.succ_mul] at h1
  generalize E * 4503599627370496 = X at *
  omega
/-- Half of a rounded number is the half, rounded. -/
theorem half_rung {M : Nat} (hr : rungAt M (-1074) < 9218868437227405312) : rungAt (mag (rungAt M (-1074))) (-1075) = rungAt M (-1075) := by
  by_cases m0 : M = 0
  · subst m0; rw [show rungAt 0 (-1074) = 0 from if_pos rfl, mag_zero]
  by_cases hs : M < 9007199254740992
  · have hl : M.log2 < 53 := (Nat.log2_lt m0).2 (by show M < 9007199254740992; exact hs)
    have e : max ((-1074 : Int) + (M.log2 : Int) - 52) (-1074) = -1074 := by omega
    have h1 : rungAt M (-1074) = M := by
      rw [rungAt_kept m0, e, kept_self]
      omega
    have h2 : mag M = M := by
      unfold mag
      split
      · rfl
      · rename_i h5
        have h6 := Nat.div_add_mod M 4503599627370496
        have h7 := Nat.mod_lt M (show 0 < 4503599627370496 by decide)
        have h8 : M / 4503599627370496 = 1 := by omega
        rw [h8] at h6 ⊢
        rw [Nat.pow_zero, Nat.mul_one]
        omega
    rw [h1, h2]
  · have hl : 53 ≤ M.log2 := (Nat.le_log2 m0).2 (by show 9007199254740992 ≤ M; omega)
    have e1 : max ((-1074 : Int) + (M.log2 : Int) - 52) (-1074) = -1074 + (M.log2 : Int) - 52 := by omega
    have e2 : max ((-1075 : Int) + (M.log2 : Int) - 52) (-1074) = -1074 + (M.log2 : Int) - 52 - 1 := by omega
    have h1 := rungAt_kept m0 (-1074)
    have h2 := rungAt_kept m0 (-1075)
    rw [e1] at h1
    rw [e2] at h2
    have hk : kept M (-1075) (-1074 + (M.log2 : Int) - 52 - 1) = kept M (-1074) (-1074 + (M.log2 : Int) - 52) := by
      unfold kept
      rw [show ((-1075 : Int) - (-1074 + (M.log2 : Int) - 52 - 1)).toNat = ((-1074 : Int) - (-1074 + (M.log2 : Int) - 52)).toNat by omega, show ((-1074 : Int) + (M.log2 : Int) - 52 - 1 - -1075).toNat = ((-1074 : Int) + (M.log2 : Int) - 52 - -1074).toNat by omega]
    rw [hk] at h2
    have hlo := kept_lo m0 (p := -1074) (last := -1074 + (M.log2 : Int) - 52) rfl
    generalize kept M (-1074) (-1074 + (M.log2 : Int) - 52) = k at *
    have e3 : ((-1074 : Int) + (M.log2 : Int) - 52 + 1074).toNat = ((-1074 : Int) + (M.log2 : Int) - 52 - 1 + 1074).toNat + 1 := by omega
    rw [e3] at h1
    generalize ((-1074 : Int) + (M.log2 : Int) - 52 - 1 + 1074).toNat = E at *
    generalize rungAt M (-1074) = r at *
    generalize rungAt M (-1075) = s at *
    obtain ⟨hr', h5, h6⟩ := two_rungs h1 h2 hr hlo
    clear h1 h2 hr hlo hk e1 e2 e3 hl hs m0
    have hm := mag_step (r := r - 4503599627370496) (by omega)
    rw [Nat.sub_add_cancel (by omega)] at hm
    rw [hr', hm]
    have := rungAt_two (m := mag (r - 4503599627370496)) (-1074)
    rw [show (-1074 : Int) - 1 = -1075 by decide] at this
    rw [this]
    exact rungAt_mag h6

/-- A sum, rounded once, with its sign. -/
theorem add_signed {a b : Nat} (ha : rung a < 9218868437227405312) (hb : rung b < 9218868437227405312) : Ieee.double.add a b = some (Ieee.double.word (if smag a + smag b = 0 then fneg a && fneg b else decide (smag a + smag b < 0)) (rungAt (smag a + smag b).natAbs (-1074))) := by
  rw [← nearest_rung]
  obtain ⟨m, i, e1, e2⟩ := read_fin ha
  obtain ⟨n, j, e3, e4⟩ := read_fin hb
  obtain ⟨k, hk⟩ : ∃ k : Nat, min i j = k := ⟨_, rfl⟩
  have hbase : min ((i : Int) - 1074) ((j : Int) - 1074) = (k : Int) - 1074 := by omega
  have hs : ∀ (s : Bool) (x q : Nat), k ≤ q → Ieee.signed s x (((q : Int) - 1074) - ((k : Int) - 1074)).toNat * ((2 ^ k : Nat) : Int) = if s then -((x * 2 ^ q : Nat) : Int) else ((x * 2 ^ q : Nat) : Int) := by
    intro s x q hq
    rw [← signed_scale, show (((q : Int) - 1074) - ((k : Int) - 1074)).toNat + k = q by omega, signed_shift]
  have h1 := hs (fneg a) m i (by omega)
  have h2 := hs (fneg b) n j (by omega)
  rw [e2] at h1
  rw [e4] at h2
  have hA : smag a = Ieee.signed (fneg a) m (((i : Int) - 1074) - ((k : Int) - 1074)).toNat * ((2 ^ k : Nat) : Int) := h1.symm
  have hB : smag b = Ieee.signed (fneg b) n (((j : Int) - 1074) - ((k : Int) - 1074)).toNat * ((2 ^ k : Nat) : Int) := h2.symm
  unfold Ieee.Format.add
  rw [e1, e3]
  unfold Ieee.Datum.sum
  dsimp only
  rw [hbase]
  generalize Ieee.signed (fneg a) m (((i : Int) - 1074) - ((k : Int) - 1074)).toNat = x at *
  generalize Ieee.signed (fneg b) n (((j : Int) - 1074) - ((k : Int) - 1074)).toNat = y at *
  have hp : 0 < 2 ^ k := Nat.two_pow_pos k
  have hsum : smag a + smag b = (x + y) * ((2 ^ k : Nat) : Int) := by rw [hA, hB, Int.add_mul]
  have hpi : (0 : Int) < ((2 ^ k : Nat) : Int) := by omega
  have hz : (x + y = 0) = (smag a + smag b = 0) := by
    rw [hsum]
    refine propext ⟨fun h => by rw [h, Int.zero_mul], fun h => ?_⟩
    rcases Int.mul_eq_zero.1 h with h | h
    · exact h
    · omega
  have hn : decide (x + y < 0) = decide (smag a + smag b < 0) := by
    rw [hsum]
    generalize ((2 ^ k : Nat) : Int) = P at *
    by_cases hlt : x + y < 0
    · rw [decide_eq_true hlt, decide_eq_true (Int.mul_neg_of_neg_of_pos hlt hpi)]
    · rw [decide_eq_false hlt, decide_eq_false]
      have := Int.mul_nonneg (by omega : 0 ≤ x + y) (by omega : 0 ≤ P)
      omega
  have h3 := nearest_scale (if x + y = 0 then fneg a && fneg b else decide (x + y < 0)) (x + y).natAbs ((k : Int) - 1074) k
  rw [show ((k : Int) - 1074 - (k : Int)) = -1074 by omega] at h3
  refine congrArg some ?_
  simp only [← hz, ← hn]
  rw [hsum, Int.natAbs_mul, Int.natAbs_natCast, h3]
  rfl
end Go.Proofs.YtjnbonellgpjnaaGreat
