/- Rounding keeps order. Sums and halves of floats, rounded; the middle of two. The middle of two floats, as numbers. approx.Mid by its contract. -/
import Derived.Test.YtjnbonellgpjnaaGreatKN
import Derived.Test.YtjnbonellgpjnaaGreatKS
import Derived.Test.YtjnbonellgpjnaaGreatKP
set_option linter.unusedVariables false
set_option linter.unusedSimpArgs false
namespace Go.Proofs.YtjnbonellgpjnaaGreat
open Ieee

/-- n/g, to the nearest, half to even. -/
def rnd (n g : Nat) : Nat := n / g + (decide (g < 2 * (n % g)) || (g == 2 * (n % g) && n / g % 2 == 1)).toNat
theorem cut_rnd (neg : Bool) (n drop : Nat) : Toward.even.cut neg n drop = rnd n (2 ^ drop) := by
  unfold Toward.cut rnd
  dsimp only
  rw [Nat.shiftLeft_eq, Nat.one_mul]
  by_cases h : drop ≤ n.log2 + 2
  · rw [Nat.min_eq_left h]
  · rw [Nat.min_eq_right (by omega)]
    have h0 : 2 * n < 2 ^ (n.log2 + 2) := by
      have := Nat.lt_log2_self (n := n)
      rw [show n.log2 + 2 = (n.log2 + 1) + 1 by omega, Nat.pow_succ]
      omega
    have h2 : 2 ^ (n.log2 + 2) ≤ 2 ^ drop := Nat.pow_le_pow_right (by decide) (by omega)
    generalize 2 ^ (n.log2 + 2) = p at *
    generalize 2 ^ drop = q at *
    rw [Nat.div_eq_of_lt (show n < p by omega), Nat.div_eq_of_lt (show n < q by omega), Nat.mod_eq_of_lt (show n < p by omega), Nat.mod_eq_of_lt (show n < q by omega)]
    rw [decide_eq_false (show ¬ p < 2 * n by omega), decide_eq_false (show ¬ q < 2 * n by omega), beq_eq_false_iff_ne.2 (show p ≠ 2 * n by omega), beq_eq_false_iff_ne.2 (show q ≠ 2 * n by omega)]
theorem rnd_near (n g : Nat) : n / g ≤ rnd n g ∧ rnd n g ≤ n / g + 1 := by
  unfold rnd
  cases (decide (g < 2 * (n % g)) || (g == 2 * (n % g) && n / g % 2 == 1)) <;> simp
theorem rnd_mono {n m g : Nat} (hg : 0 < g) (h : n ≤ m) : rnd n g ≤ rnd m g := by
  have hq := Nat.div_le_div_right (c := g) h
  rcases Nat.lt_or_eq_of_le hq with hlt | heq
  · have h1 := (rnd_near n g).2
    have h2 := (rnd_near m g).1
    omega
  · have e1 := Nat.div_add_mod n g
    have e2 := Nat.div_add_mod m g
    rw [heq] at e1
    have hr : n % g ≤ m % g := by omega
    unfold rnd
    rw [heq]
    generalize m / g = k at *
    generalize n % g = r at *
    generalize m % g = s at *
    clear e1 e2 hq heq h
    by_cases a : g < 2 * r
    · have b : g < 2 * s := by omega
      rw [decide_eq_true a, decide_eq_true b]; simp
    · rw [decide_eq_false a]
      by_cases c : g = 2 * r
      · by_cases b : g < 2 * s
        · rw [decide_eq_true b]
          simp only [Bool.true_or, Bool.false_or, Bool.toNat_true]
          cases (g == 2 * r && k % 2 == 1) <;> simp
        · have e : r = s := by omega
          subst e
          rw [decide_eq_false b]
          exact Nat.le_refl _
      · rw [beq_eq_false_iff_ne.2 c]; simp
/-- The rung of the rounded word, told by its last place. -/
def rungAt (m : Nat) (p : Int) : Nat := if m = 0 then 0 else min (((max (p + m.log2 - 52) (-1074)) + 1074).toNat * 4503599627370496 + Toward.even.cut false (m <<< (p - max (p + m.log2 - 52) (-1074)).toNat) (max (p + m.log2 - 52) (-1074) - p).toNat) 9218868437227405312
theorem nearest_rung (s : Bool) (m : Nat) (p : Int) : double.nearest s m p = double.word s (rungAt m p) := by
  unfold Format.nearest rungAt
  by_cases h : m = 0
  · rw [if_pos h, if_pos h]
  · rw [if_neg h, if_neg h, frac_d, least_d, binade_d, infRung_d]
    dsimp only
    rw [cut_rnd, cut_rnd]
    rfl
theorem rung_le (m : Nat) (p : Int) : rungAt m p ≤ 9218868437227405312 := by
  unfold rungAt
  split
  · exact Nat.zero_le _
  · exact Nat.min_le_right _ _

/-- What is kept of a number: from 2^52 to 2^53, or less at the lowest place. -/
def kept (m : Nat) (p last : Int) : Nat := rnd (m * 2 ^ (p - last).toNat) (2 ^ (last - p).toNat)
theorem kept_mono {m n : Nat} {p last : Int} (h : m ≤ n) : kept m p last ≤ kept n p last :=
  rnd_mono (Nat.two_pow_pos _) (Nat.mul_le_mul_right _ h)
theorem rnd_mul (q g : Nat) (hg : 0 < g) : rnd (q * g) g = q := by
  unfold rnd
  rw [Nat.mul_div_cancel _ hg, Nat.mul_mod_left, Nat.mul_zero, decide_eq_false (by omega), beq_eq_false_iff_ne.2 (by omega)]
  simp
/-- 2^k, kept. -/
theorem kept_pow {k : Nat} {p last : Int} {e : Nat} (h : (k : Int) + p = last + e) : kept (2 ^ k) p last = 2 ^ e := by
  unfold kept
  have e1 : 2 ^ k * 2 ^ (p - last).toNat = 2 ^ e * 2 ^ (last - p).toNat := by
    rw [← Nat.pow_add, ← Nat.pow_add]
    refine congrArg (fun n => 2 ^ n) ?_
    omega
  rw [e1]
  exact rnd_mul _ _ (Nat.two_pow_pos _)
theorem rungAt_kept {m : Nat} (h : m ≠ 0) (p : Int) : rungAt m p = min (((max (p + m.log2 - 52) (-1074)) + 1074).toNat * 4503599627370496 + kept m p (max (p + m.log2 - 52) (-1074))) 9218868437227405312 := by
  unfold rungAt kept
  rw [if_neg h, cut_rnd, Nat.shiftLeft_eq]
theorem kept_hi {m : Nat} (h : m ≠ 0) {p last : Int} (hl : p + m.log2 - 52 ≤ last) : kept m p last ≤ 9007199254740992 := by
  -- m < 2^(log2 m + 1) ≤ 2^(last + 53 - p)
  obtain ⟨k, hk1, hk2⟩ : ∃ k : Nat, m ≤ 2 ^ k ∧ ((k : Int) + p = last + (53 : Nat)) := by
    refine ⟨(last + 53 - p).toNat, ?_, by omega⟩
    exact Nat.le_of_lt (Nat.lt_of_lt_of_le (Nat.lt_log2_self (n := m)) (Nat.pow_le_pow_right (by decide) (by omega)))
  have h1 := kept_mono (p := p) (last := last) hk1
  rw [kept_pow hk2] at h1
  exact h1
theorem kept_lo {m : Nat} (h : m ≠ 0) {p last : Int} (hl : p + m.log2 - 52 = last) : 4503599627370496 ≤ kept m p last := by
  have h0 : 2 ^ m.log2 ≤ m := (Nat.le_log2 h).1 (Nat.le_refl _)
  have h1 := kept_mono (p := p) (last := last) h0
  rw [kept_pow (e := 52) (by omega)] at h1
  exact h1

theorem step_le {x y k l : Nat} (h1 : k ≤ 9007199254740992) (h2 : 4503599627370496 ≤ l) (h4 : x + 4503599627370496 ≤ y) : x + k ≤ y + l := by omega
/-- ROUNDING KEEPS ORDER. -/
theorem rungAt_mono {m n : Nat} (h : m ≤ n) (p : Int) : rungAt m p ≤ rungAt n p := by
  by_cases hm : m = 0
  · subst hm; unfold rungAt; rw [if_pos rfl]; exact Nat.zero_le _
  · have hn : n ≠ 0 := by omega
    rw [rungAt_kept hm, rungAt_kept hn]
    have hlog : m.log2 ≤ n.log2 := (Nat.le_log2 hn).2 (Nat.le_trans ((Nat.le_log2 hm).1 (Nat.le_refl _)) h)
    obtain ⟨a, ha⟩ : ∃ a, max (p + (m.log2 : Int) - 52) (-1074) = a := ⟨_, rfl⟩
    obtain ⟨b, hb⟩ : ∃ b, max (p + (n.log2 : Int) - 52) (-1074) = b := ⟨_, rfl⟩
    rw [ha, hb]
    have key : (a + 1074).toNat * 4503599627370496 + kept m p a ≤ (b + 1074).toNat * 4503599627370496 + kept n p b := by
      rcases Int.lt_or_le a b with hlt | hle
      · have h1 := kept_hi hm (p := p) (last := a) (by omega)
        have h2 := kept_lo hn (p := p) (last := b) (by omega)
        have h3 : (a + 1074).toNat + 1 ≤ (b + 1074).toNat := by omega
        have h4 := Nat.mul_le_mul_right 4503599627370496 h3
        rw [Nat.succ_mul] at h4
        exact step_le h1 h2 h4
      · have e : a = b := by omega
        subst e
        exact Nat.add_le_add_left (kept_mono h) _
    exact Nat.le_min.2 ⟨Nat.le_trans (Nat.min_le_left _ _) key, Nat.min_le_right _ _⟩
end Go.Proofs.YtjnbonellgpjnaaGreat

set_option linter.unusedVariables false
set_option linter.unusedSimpArgs false
namespace Go.Proofs.YtjnbonellgpjnaaGreat
open Go.RowKit

/-- Half of a float of either sign, rounded. -/
theorem div_two_s {b : Nat} (h : rung b < 9218868437227405312) : Ieee.double.div b 4611686018427387904 = some (Ieee.double.nearest (fneg b) (mag (rung b)) (-1075)) := by
  obtain ⟨m, i, e1, e2⟩ := read_fin (b := b) h
  unfold Ieee.Format.div
  rw [e1, two_read]
  by_cases hm : m = 0
  · subst hm
    rw [Nat.zero_mul] at e2
    rw [← e2]
    unfold Ieee.Datum.quotient
    dsimp only
    rw [if_neg (by decide)]
    simp [Ieee.Format.write, Ieee.Format.nearest]
  · have hl : m.log2 ≤ 1000 ∨ True := .inr trivial
    unfold Ieee.Datum.quotient
    dsimp only
    rw [if_neg (by decide)]
    have hlog : (4503599627370496 : Nat).log2 = 52 := by decide
    have hfb : Ieee.double.fractionBits + 2 = 54 := by decide
    rw [hlog, hfb]
    obtain ⟨k, hk⟩ : ∃ k, 54 + 52 - m.log2 = k := ⟨_, rfl⟩
    rw [hk]
    by_cases hb : m.log2 ≤ 52
    · have e3 : m <<< k = m * 2 ^ (k - 52) * 4503599627370496 := by
        rw [Nat.shiftLeft_eq, Nat.mul_assoc, show (4503599627370496 : Nat) = 2 ^ 52 from rfl, ← Nat.pow_add]
        refine congrArg (fun n => m * 2 ^ n) ?_
        omega
      rw [e3, Nat.mul_div_cancel _ (by decide), Nat.mul_mod_left]
      have e4 : (2 * (m * 2 ^ (k - 52)) + ((0 : Nat) != 0).toNat) = m * 2 ^ (k - 51) := by
        rw [show k - 51 = (k - 52) + 1 by omega, Nat.pow_succ]
        simp
        rw [Nat.mul_comm 2, Nat.mul_assoc]
      rw [e4]
      refine congrArg some ?_
      have h1 := nearest_scale (fneg b) m ((i : Int) - 1075) (k - 51)
      have h2 := nearest_scale (fneg b) m ((i : Int) - 1075) i
      rw [e2, show (i : Int) - 1075 - (i : Int) = -1075 by omega] at h2
      rw [show ((i : Int) - 1074 - -51 - (k : Int) - 1) = (i : Int) - 1075 - ((k - 51 : Nat) : Int) by omega]
      rw [show (fneg b ^^ false) = fneg b by cases fneg b <;> rfl]
      exact h1.trans h2.symm
    · exfalso
      -- a word's whole number has 53 digits at most
      have hlt : m < 9007199254740992 := by
        have e5 := e1
        unfold Ieee.Format.read at e5
        rw [signWeight_d, binade_d, infRung_d, least_d] at e5
        dsimp only at e5
        split at e5
        · simp only [Ieee.Datum.number.injEq] at e5; omega
        · split at e5
          · simp only [Ieee.Datum.number.injEq] at e5
            have := Nat.mod_lt (b % 9223372036854775808) (show 0 < 4503599627370496 by decide)
            omega
          · split at e5 <;> cases e5
      have : m.log2 < 53 := (Nat.log2_lt hm).2 hlt
      omega

/-- A sum of finite floats, rounded once. -/
theorem add_fin {a b : Nat} (ha : rung a < 9218868437227405312) (hb : rung b < 9218868437227405312) : ∃ sg, Ieee.double.add a b = some (Ieee.double.nearest sg (smag a + smag b).natAbs (-1074)) ∧ (smag a + smag b ≠ 0 → sg = decide (smag a + smag b < 0)) := by
  obtain ⟨m, i, e1, e2⟩ := read_fin ha
  obtain ⟨n, j, e3, e4⟩ := read_fin hb
  obtain ⟨k, hk⟩ : ∃ k : Nat, min i j = k := ⟨_, rfl⟩
  have hbase : min ((i : Int) - 1074) ((j : Int) - 1074) = (k : Int) - 1074 := by omega
  have hs : ∀ (s : Bool) (x q : Nat), k ≤ q → Ieee.signed s x (((q : Int) - 1074) - ((k : Int) - 1074)).toNat * ((2 ^ k : Nat) : Int) = if s then -((x * 2 ^ q : Nat) : Int) else ((x * 2 ^ q : Nat) : Int) := by
    intro s x q hq
    rw [← signed_scale, show (((q : Int) - 1074) - ((k : Int) - 1074)).toNat + k = q by omega, signed_shift]
  have h1 := hs (fneg a) m i (by omega)
  have h2 := hs (fneg b) n j (by omega)
  rw [e2] at h1
  rw [e4] at h2
  have hA : smag a = Ieee.signed (fneg a) m (((i : Int) - 1074) - ((k : Int) - 1074)).toNat * ((2 ^ k : Nat) : Int) := h1.symm
  have hB : smag b = Ieee.signed (fneg b) n (((j : Int) - 1074) - ((k : Int) - 1074)).toNat * ((2 ^ k : Nat) : Int) := h2.symm
  unfold Ieee.Format.add
  rw [e1, e3]
  unfold Ieee.Datum.sum
  dsimp only
  rw [hbase]
  generalize Ieee.signed (fneg a) m (((i : Int) - 1074) - ((k : Int) - 1074)).toNat = x at *
  generalize Ieee.signed (fneg b) n (((j : Int) - 1074) - ((k : Int) - 1074)).toNat = y at *
  have hp : 0 < 2 ^ k := Nat.two_pow_pos k
  have hsum : smag a + smag b = (x + y) * ((2 ^ k : Nat) : Int) := by rw [hA, hB, Int.add_mul]
  refine ⟨(if x + y = 0 then fneg a && fneg b else decide (x + y < 0)), ?_, fun hne => ?_⟩
  · refine congrArg some ?_
    have h3 := nearest_scale (if x + y = 0 then fneg a && fneg b else decide (x + y < 0)) (x + y).natAbs ((k : Int) - 1074) k
    rw [show ((k : Int) - 1074 - (k : Int)) = -1074 by omega] at h3
    rw [hsum, Int.natAbs_mul, Int.natAbs_natCast, h3]
    rfl
  · rw [hsum] at hne ⊢
    have hxy : x + y ≠ 0 := by intro e; rw [e, Int.zero_mul] at hne; exact hne rfl
    rw [if_neg hxy]
    have hpi : (0 : Int) < ((2 ^ k : Nat) : Int) := by omega
    generalize ((2 ^ k : Nat) : Int) = P at *
    by_cases hlt : x + y < 0
    · rw [decide_eq_true hlt, decide_eq_true (Int.mul_neg_of_neg_of_pos hlt hpi)]
    · rw [decide_eq_false hlt, decide_eq_false]
      have := Int.mul_nonneg (by omega : 0 ≤ x + y) (by omega : 0 ≤ P)
      omega

/-- The signed rung of a rounded number. -/
def rdS (v : Int) (p : Int) : Int := if v < 0 then -(rungAt v.natAbs p : Int) else (rungAt v.natAbs p : Int)
theorem rungAt_zero (p : Int) : rungAt 0 p = 0 := by unfold rungAt; rw [if_pos rfl]
theorem rung_word_le (s : Bool) {r : Nat} (h : r ≤ 9218868437227405312) : rung (Ieee.double.word s r) = r ∧ fneg (Ieee.double.word s r) = s := by
  have e : Ieee.double.word s r = wordOf s r := word_eq s r
  have h2 : r < 9223372036854775808 := Nat.lt_of_le_of_lt h (by decide)
  rw [e]
  exact ⟨rung_word s h2, fneg_word s h2⟩
theorem srung_nearest (sg : Bool) (v : Int) (p : Int) (h : v ≠ 0 → sg = decide (v < 0)) : srung (Ieee.double.nearest sg v.natAbs p) = rdS v p := by
  rw [nearest_rung]
  have h1 := rung_word_le sg (rung_le v.natAbs p)
  unfold srung rdS
  rw [h1.1, h1.2]
  by_cases hv : v = 0
  · subst hv
    rw [show (0 : Int).natAbs = 0 from rfl, rungAt_zero]
    cases sg <;> simp
  · rw [h hv]
    by_cases hn : v < 0
    · rw [decide_eq_true hn, if_pos rfl, if_pos hn]
    · rw [decide_eq_false hn, if_neg (by decide), if_neg hn]
theorem rdS_mono {u v : Int} (h : u ≤ v) (p : Int) : rdS u p ≤ rdS v p := by
  unfold rdS
  by_cases hv : v < 0
  · rw [if_pos hv, if_pos (by omega)]
    have := rungAt_mono (show v.natAbs ≤ u.natAbs by omega) p
    omega
  · by_cases hu : u < 0
    · rw [if_pos hu, if_neg hv]; omega
    · rw [if_neg hu, if_neg hv]
      have := rungAt_mono (show u.natAbs ≤ v.natAbs by omega) p
      omega
/-- A float is its own rounding. -/
theorem rungAt_mag {r : Nat} (h : r < 9218868437227405312) : rungAt (mag r) (-1074) = r := by
  have h1 := nearest_mag false h
  rw [nearest_rung, word_eq, word_eq] at h1
  simp only [Bool.false_eq_true, if_false] at h1
  exact h1
theorem rungAt_two {m : Nat} (p : Int) : rungAt (m * 2) (p - 1) = rungAt m p := by
  have h1 := nearest_scale false m p 1
  rw [Nat.pow_one, nearest_rung, nearest_rung, word_eq, word_eq] at h1
  simp only [Bool.false_eq_true, if_false] at h1
  exact h1
theorem rdS_self {b : Nat} (h : rung b < 9218868437227405312) : rdS (smag b) (-1074) = srung b := by
  have h0 := rungAt_mag h
  unfold rdS smag srung
  cases fneg b
  · simp only [Bool.false_eq_true, if_false]
    rw [if_neg (by omega), Int.natAbs_natCast, h0]
  · simp only [if_true]
    by_cases hz : mag (rung b) = 0
    · rw [hz] at h0 ⊢
      rw [rungAt_zero] at h0
      rw [← h0]
      simp [rungAt_zero]
    · rw [if_pos (by omega), Int.natAbs_neg, Int.natAbs_natCast, h0]
theorem rdS_two (v : Int) (p : Int) : rdS (v * 2) (p - 1) = rdS v p := by
  unfold rdS
  have e : (v * 2).natAbs = v.natAbs * 2 := by omega
  rw [e, rungAt_two]
  by_cases hv : v < 0
  · rw [if_pos hv, if_pos (by omega)]
  · rw [if_neg hv, if_neg (by omega)]
end Go.Proofs.YtjnbonellgpjnaaGreat

set_option linter.unusedVariables false
set_option linter.unusedSimpArgs false
namespace Go.Proofs.YtjnbonellgpjnaaGreat
open Go.RowKit

theorem smag_le {a b : Nat} : smag a ≤ smag b ↔ srung a ≤ srung b := by
  have h := srung_cmp a b
  rcases Int.lt_trichotomy (srung a) (srung b) with g | g | g
  · rw [Int.compare_eq_lt.2 g] at h
    have := Int.compare_eq_lt.1 h
    omega
  · rw [g] at h
    have h2 : compare (smag a) (smag b) = .eq := h.trans (by simp)
    have := Int.compare_eq_eq.1 h2
    omega
  · rw [Int.compare_eq_gt.2 g] at h
    have := Int.compare_eq_gt.1 h
    omega
def infR : Nat := 9218868437227405312
theorem mag_top {r : Nat} (h : r < 9218868437227405312) : mag r < mag infR := mag_lt h
theorem rungAt_top {m : Nat} (h : mag infR ≤ m) : rungAt m (-1074) = 9218868437227405312 := by
  have h1 := rungAt_mono h (-1074)
  have h2 : rungAt (mag infR) (-1074) = 9218868437227405312 := by decide +kernel
  have h3 := rung_le m (-1074)
  omega
theorem abs_smag (b : Nat) : (smag b).natAbs = mag (rung b) := smag_abs b
/-- Twice a float's number bounds what is rounded. -/
theorem two_bound {c s : Nat} {S : Int} (hc : rung c < 9218868437227405312) (hs : rung s < 9218868437227405312) (hr : srung s = rdS S (-1074)) :
    (S ≤ smag c * 2 → smag s ≤ smag c * 2) ∧ (smag c * 2 ≤ S → smag c * 2 ≤ smag s) := by
  by_cases hbig : rung c < 9214364837600034816
  · -- twice it is a float
    have hd : fdbl (rung c) < 9218868437227405312 := by unfold fdbl; split <;> omega
    have hd2 : fdbl (rung c) < 9223372036854775808 := Nat.lt_trans hd (by decide)
    obtain ⟨t, ht⟩ : ∃ t, wordOf (fneg c) (fdbl (rung c)) = t := ⟨_, rfl⟩
    have h1 : rung t = fdbl (rung c) := by rw [← ht]; exact rung_word _ hd2
    have h2 : fneg t = fneg c := by rw [← ht]; exact fneg_word _ hd2
    have h3 : smag t = smag c * 2 := by
      unfold smag
      rw [h1, h2, mag_fdbl]
      cases fneg c <;> simp <;> omega
    have h4 := rdS_self (b := t) (by rw [h1]; exact hd)
    rw [h3] at h4
    constructor
    · intro h
      have h5 := rdS_mono h (-1074)
      rw [← hr, h4] at h5
      rw [← h3]
      exact smag_le.2 h5
    · intro h
      have h5 := rdS_mono h (-1074)
      rw [← hr, h4] at h5
      rw [← h3]
      exact smag_le.2 h5
  · have hm : mag infR ≤ mag (rung c) * 2 := by
      have h1 := mag_le (show 9214364837600034816 ≤ rung c by omega)
      have h2 : mag infR = mag 9214364837600034816 * 2 := mag_step (r := 9214364837600034816) (by decide)
      omega
    have hst := mag_top hs
    have ha := abs_smag s
    have hac := abs_smag c
    have hfin : ¬ mag infR ≤ S.natAbs := by
      intro g
      have h1 := rungAt_top g
      have h2 : (srung s).natAbs = rung s := by unfold srung; cases fneg s <;> simp
      rw [hr] at h2
      unfold rdS at h2
      rw [h1] at h2
      split at h2 <;> omega
    generalize mag infR = M at *
    generalize mag (rung s) = x at *
    generalize mag (rung c) = y at *
    constructor
    · intro h; omega
    · intro h; omega

/-- The middle, where the sum is finite. -/
theorem mid_fin {a b s : Nat} (ha : rung a < 9218868437227405312) (hb : rung b < 9218868437227405312) (hs : rung s < 9218868437227405312) (hr : srung s = rdS (smag a + smag b) (-1074)) {h : Nat} (hh : srung h = rdS (smag s) (-1075)) (hab : srung a ≤ srung b) : srung a ≤ srung h ∧ srung h ≤ srung b := by
  have hAB := smag_le.2 hab
  have b1 := (two_bound ha hs hr).2 (by omega)
  have b2 := (two_bound hb hs hr).1 (by omega)
  have e1 := rdS_two (smag a) (-1074)
  have e2 := rdS_two (smag b) (-1074)
  rw [rdS_self ha] at e1
  rw [rdS_self hb] at e2
  have m1 := rdS_mono b1 (-1075)
  have m2 := rdS_mono b2 (-1075)
  rw [hh]
  constructor
  · rw [← e1]; exact m1
  · rw [← e2]; exact m2
/-- Where the sum is beyond, both are great. -/
theorem over_great {a b : Nat} (ha : rung a < 9218868437227405312) (hb : rung b < 9218868437227405312) (hr : rungAt (smag a + smag b).natAbs (-1074) = 9218868437227405312) : 9007199254740992 ≤ rung a := by
  rcases Nat.lt_or_ge (rung a) 9007199254740992 with g | g
  · exfalso
    have h1 := mag_lt g
    have h2 := mag_le (show rung b ≤ 9218868437227405311 by omega)
    have h3 : (smag a + smag b).natAbs ≤ mag 9218868437227405311 + mag 9007199254740992 := by
      have e1 := abs_smag a
      have e2 := abs_smag b
      generalize mag 9218868437227405311 = p at *
      generalize mag 9007199254740992 = q at *
      omega
    have h4 := rungAt_mono h3 (-1074)
    have h5 : rungAt (mag 9218868437227405311 + mag 9007199254740992) (-1074) = 9218868437227405311 := by decide +kernel
    rw [hr, h5] at h4
    omega
  · exact g
/-- Half of a great float is one. -/
theorem half_great {a : Nat} (ha : rung a < 9218868437227405312) (hg : 9007199254740992 ≤ rung a) : ∃ x, Ieee.double.div a 4611686018427387904 = some x ∧ rung x < 9218868437227405312 ∧ smag x * 2 = smag a := by
  have hm := mag_step (r := rung a - 4503599627370496) (by omega)
  rw [Nat.sub_add_cancel (by omega)] at hm
  have hl : rung a - 4503599627370496 < 9218868437227405312 := by omega
  have h1 := nearest_scale (fneg a) (mag (rung a - 4503599627370496)) (-1074) 1
  rw [Nat.pow_one, ← hm, show ((-1074 : Int) - ((1 : Nat) : Int)) = -1075 by decide, nearest_mag _ hl] at h1
  have h2 := rung_word_le (fneg a) (Nat.le_of_lt hl)
  refine ⟨_, (div_two_s ha).trans (congrArg some h1), by rw [h2.1]; exact hl, ?_⟩
  unfold smag
  rw [h2.1, h2.2, hm]
  cases fneg a <;> simp <;> omega
theorem mid_over {a b x y h : Nat} (ha : rung a < 9218868437227405312) (hb : rung b < 9218868437227405312) (hx : smag x * 2 = smag a) (hy : smag y * 2 = smag b) (hh : srung h = rdS (smag x + smag y) (-1074)) (hab : srung a ≤ srung b) : srung a ≤ srung h ∧ srung h ≤ srung b := by
  have hAB := smag_le.2 hab
  rw [hh, ← rdS_self ha, ← rdS_self hb]
  exact ⟨rdS_mono (by omega) _, rdS_mono (by omega) _⟩
end Go.Proofs.YtjnbonellgpjnaaGreat

set_option linter.unusedVariables false
set_option linter.unusedSimpArgs false
namespace Go.Proofs.YtjnbonellgpjnaaGreat
open Go.RowKit

set_option maxRecDepth 100000 in
theorem math_NaN (w : World) : Calls Tryz.prog 36 #[] w fun e w' => e = .returned (.float .f64 9221120237041090561) ∧ w = w' := by
  have h1 : (callFunc 61 #[.int .u64 9221120237041090561]).run Tryz.prog w = .ok (.value (.float .f64 9221120237041090561)) w := run_frombits 9221120237041090561 w
  go_enter Tryz.func36, Tryz.ntmps36
  go_wp2_with fail
  go_ret
  exact ⟨rfl, rfl⟩

/-- Mid answers m, whatever the world. -/
def MidIs (a b m : Nat) : Prop := ∀ w, Calls Tryz.prog 15 #[.float .f64 a, .float .f64 b] w fun e w' => e = .returned (.float .f64 m) ∧ Below w.heap.size w w'
set_option maxRecDepth 100000 in
theorem mid_none {a b : Nat} (h : Ieee.double.add a b = none) : MidIs a b 9221120237041090561 := by
  intro w
  obtain ⟨r, hr, hn, -⟩ := run_nan_add 30 w h
  have HN := hid (math_isNaN r w.drew)
  rw [hn] at HN
  have HT := hid (math_NaN w.drew)
  clear hn h
  go_enter Tryz.func15, Tryz.ntmps15
  go_wp2_with fail
  refine HN.out.mono ?_
  rintro e w' ⟨rfl, rfl⟩
  go_wp2_with fail
  refine HT.out.mono ?_
  rintro e w' ⟨rfl, rfl⟩
  go_wp2_with fail
  go_ret
  exact ⟨rfl, (Below.refl _ _).drew⟩
set_option maxRecDepth 100000 in
theorem mid_some {a b s m : Nat} (h : Ieee.double.add a b = some s) (hs : s < 18446744073709551616) (hn : isNan s = false) (hi : isInf s = false) (hd : Ieee.double.div s 4611686018427387904 = some m) : MidIs a b m := by
  intro w
  have hr := run_add 30 w h
  have hq := run_quo 30 w hd
  have HN := hid (math_isNaN s w)
  rw [hn] at HN
  have HI := hid (math_isInf0 hs w)
  rw [hi] at HI
  clear hn hi h hd hs
  go_enter Tryz.func15, Tryz.ntmps15
  go_wp2_with fail
  refine HN.out.mono ?_
  rintro e w' ⟨rfl, rfl⟩
  go_wp2_with fail
  refine HI.out.mono ?_
  rintro e w' ⟨rfl, rfl⟩
  go_wp2_with fail
  go_ret
  exact ⟨rfl, Below.refl _ _⟩
set_option maxRecDepth 100000 in
theorem mid_inf {a b s x y m : Nat} (h : Ieee.double.add a b = some s) (hs : s < 18446744073709551616) (hn : isNan s = false) (hi : isInf s = true) (hx : Ieee.double.div a 4611686018427387904 = some x) (hy : Ieee.double.div b 4611686018427387904 = some y) (hm : Ieee.double.add x y = some m) : MidIs a b m := by
  intro w
  have hr := run_add 30 w h
  have hq1 := run_quo 30 w hx
  have hq2 := run_quo 30 w hy
  have hq3 := run_add 30 w hm
  have HN := hid (math_isNaN s w)
  rw [hn] at HN
  have HI := hid (math_isInf0 hs w)
  rw [hi] at HI
  clear hn hi h hx hy hm hs
  go_enter Tryz.func15, Tryz.ntmps15
  go_wp2_with fail
  refine HN.out.mono ?_
  rintro e w' ⟨rfl, rfl⟩
  go_wp2_with fail
  refine HI.out.mono ?_
  rintro e w' ⟨rfl, rfl⟩
  go_wp2_with fail
  go_ret
  exact ⟨rfl, Below.refl _ _⟩

/-! ### Which case -/
theorem sum_comm (x y : Ieee.Datum) : x.sum y = y.sum x := by
  cases x <;> cases y <;> simp [Ieee.Datum.sum]
  · rename_i s m i t n j
    rw [Int.min_comm i j]
    have e : Ieee.signed s m (i - min j i).toNat + Ieee.signed t n (j - min j i).toNat = Ieee.signed t n (j - min j i).toNat + Ieee.signed s m (i - min j i).toNat := Int.add_comm _ _
    rw [e]
    refine ⟨?_, rfl, rfl⟩
    rw [Bool.and_comm]
  · rename_i s t
    by_cases h : s = t
    · subst h; rfl
    · rw [if_neg h, if_neg (fun e => h e.symm)]
theorem add_comm_f (a b : Nat) : Ieee.double.add a b = Ieee.double.add b a := by
  unfold Ieee.Format.add; rw [sum_comm]
theorem nearest_word (s : Bool) (m : Nat) (p : Int) : ∃ r, Ieee.double.nearest s m p = Ieee.double.word s r ∧ r ≤ 9218868437227405312 := ⟨_, nearest_rung s m p, rung_le m p⟩
theorem word_bound (s : Bool) {r : Nat} (h : r ≤ 9218868437227405312) : Ieee.double.word s r < 18446744073709551616 ∧ isNan (Ieee.double.word s r) = false := by
  have h1 := rung_word_le s h
  refine ⟨?_, ?_⟩
  · rw [word_eq]; split <;> omega
  · unfold isNan; rw [h1.1]; exact decide_eq_false (by omega)

/-- Two finite floats have a middle that stands between them. -/
theorem mid_between {a b : Nat} (ha : rung a < 9218868437227405312) (hb : rung b < 9218868437227405312) (hab : srung a ≤ srung b) : ∃ m, m < 18446744073709551616 ∧ isNan m = false ∧ MidIs a b m ∧ MidIs b a m ∧ srung a ≤ srung m ∧ srung m ≤ srung b := by
  obtain ⟨sg, hadd, hsg⟩ := add_fin ha hb
  have hsr := srung_nearest sg (smag a + smag b) (-1074) hsg
  obtain ⟨r, hr, hrl⟩ := nearest_word sg (smag a + smag b).natAbs (-1074)
  have hrung : r = rungAt (smag a + smag b).natAbs (-1074) := by
    have h1 := nearest_rung sg (smag a + smag b).natAbs (-1074)
    rw [hr] at h1
    have h2 := (rung_word_le sg hrl).1
    rw [h1] at h2
    exact h2.symm.trans (rung_word_le sg (rung_le _ _)).1
  rw [hr] at hadd hsr
  have hw := word_bound sg hrl
  have hrw := rung_word_le sg hrl
  obtain ⟨s, hse⟩ : ∃ s, Ieee.double.word sg r = s := ⟨_, rfl⟩
  rw [hse] at hadd hsr hw hrw
  rcases Nat.lt_or_ge r 9218868437227405312 with hfin | hinf
  · -- the sum is finite
    have hs : rung s < 9218868437227405312 := by rw [hrw.1]; exact hfin
    have hi : isInf s = false := by unfold isInf; rw [hrw.1]; exact decide_eq_false (by omega)
    have hd := div_two_s hs
    have hh : srung (Ieee.double.nearest (fneg s) (mag (rung s)) (-1075)) = rdS (smag s) (-1075) := by
      have := srung_nearest (fneg s) (smag s) (-1075) (fun hne => by
        unfold smag at hne ⊢
        cases hf : fneg s
        · rw [hf] at hne; simp at hne ⊢
        · rw [hf] at hne; simp at hne ⊢; omega)
      rw [abs_smag] at this
      exact this
    obtain ⟨q, hq, hql⟩ := nearest_word (fneg s) (mag (rung s)) (-1075)
    have hb2 := word_bound (fneg s) hql
    rw [← hq] at hb2
    have hm := mid_fin ha hb hs hsr hh hab
    exact ⟨_, hb2.1, hb2.2, mid_some hadd hw.1 hw.2 hi hd, mid_some ((add_comm_f b a).trans hadd) hw.1 hw.2 hi hd, hm.1, hm.2⟩
  · have hi : isInf s = true := by unfold isInf; rw [hrw.1]; exact decide_eq_true (by omega)
    have hro : rungAt (smag a + smag b).natAbs (-1074) = 9218868437227405312 := by omega
    have hga := over_great ha hb hro
    have hgb := over_great hb ha (by rw [Int.add_comm]; exact hro)
    obtain ⟨x, hx, hxl, hxe⟩ := half_great ha hga
    obtain ⟨y, hy, hyl, hye⟩ := half_great hb hgb
    obtain ⟨sg2, hadd2, hsg2⟩ := add_fin hxl hyl
    have hsr2 := srung_nearest sg2 (smag x + smag y) (-1074) hsg2
    obtain ⟨q, hq, hql⟩ := nearest_word sg2 (smag x + smag y).natAbs (-1074)
    have hb2 := word_bound sg2 hql
    rw [← hq] at hb2
    have hm := mid_over ha hb hxe hye hsr2 hab
    exact ⟨_, hb2.1, hb2.2, mid_inf hadd hw.1 hw.2 hi hx hy hadd2, mid_inf ((add_comm_f b a).trans hadd) hw.1 hw.2 hi hy hx ((add_comm_f y x).trans hadd2), hm.1, hm.2⟩
end Go.Proofs.YtjnbonellgpjnaaGreat
