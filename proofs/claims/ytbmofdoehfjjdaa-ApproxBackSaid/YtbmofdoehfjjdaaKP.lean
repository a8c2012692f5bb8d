/- Floats less themselves. The float nearest to a fraction that is a float: that float. How long a float's fraction is; a float less itself. -/
import Derived.Test.YtbmofdoehfjjdaaKO
set_option linter.unusedVariables false
set_option linter.unusedSimpArgs false
namespace Go.Proofs.Ytbmofdoehfjjdaa
open Go.RowKit

theorem sub_self {b : Nat} (h : rung b < 9218868437227405312) : Ieee.double.sub b b = some 0 := by
  obtain ⟨m, i, e1, e2⟩ := read_fin h
  unfold Ieee.Format.sub
  rw [e1]
  show some (Ieee.double.write _) = some 0
  have : (Ieee.signed (fneg b) m (((i : Int) - 1074) - min ((i : Int) - 1074) ((i : Int) - 1074)).toNat + Ieee.signed (!fneg b) m (((i : Int) - 1074) - min ((i : Int) - 1074) ((i : Int) - 1074)).toNat) = 0 := by
    rw [signed_shift, signed_shift]
    cases fneg b <;> simp <;> omega
  refine congrArg some ?_
  rw [this]
  simp
  unfold Ieee.Format.write
  rfl
theorem sub_none {b : Nat} (h : isInf b = true) : Ieee.double.sub b b = none := by
  unfold Ieee.Format.sub
  rw [read_inf h]
  show (Option.map _ (if fneg b = !fneg b then _ else none)) = none
  rw [if_neg (by cases fneg b <;> decide)]
  rfl
theorem run_sub {x y r : Nat} (t : TypeId) (w : World) (h : Ieee.double.sub x y = some r) : (binOp .sub t (.float .f64 x) (.float .f64 y)).run Try.prog w = .ok (.float .f64 r) w :=
  run_float_arith w .sub t .f64 x y r h
theorem run_quo {x y r : Nat} (t : TypeId) (w : World) (h : Ieee.double.div x y = some r) : (binOp .quo t (.float .f64 x) (.float .f64 y)).run Try.prog w = .ok (.float .f64 r) w :=
  run_float_arith w .quo t .f64 x y r h
theorem run_add {x y r : Nat} (t : TypeId) (w : World) (h : Ieee.double.add x y = some r) : (binOp .add t (.float .f64 x) (.float .f64 y)).run Try.prog w = .ok (.float .f64 r) w :=
  run_float_arith w .add t .f64 x y r h
/-- An operation that has no answer gives some NaN. -/
theorem nan_bits (q : Nat) : isNan ((q % 2) * 2 ^ 63 + 0x7ff0000000000000 + 1 + (q / 2) % (2 ^ 52 - 1)) = true ∧ (q % 2) * 2 ^ 63 + 0x7ff0000000000000 + 1 + (q / 2) % (2 ^ 52 - 1) < 18446744073709551616 := by
  have h1 : q % 2 < 2 := Nat.mod_lt _ (by decide)
  have h2 : (q / 2) % (2 ^ 52 - 1) < 4503599627370495 := Nat.mod_lt _ (by decide)
  generalize q % 2 = a at *
  generalize (q / 2) % (2 ^ 52 - 1) = c at *
  have h3 : a = 0 ∨ a = 1 := by omega
  refine ⟨?_, ?_⟩
  · unfold isNan rung
    rcases h3 with rfl | rfl
    · exact decide_eq_true (by omega)
    · exact decide_eq_true (by omega)
  · rcases h3 with rfl | rfl <;> omega
theorem run_nan_sub {x y : Nat} (t : TypeId) (w : World) (h : Ieee.double.sub x y = none) : ∃ r, (binOp .sub t (.float .f64 x) (.float .f64 y)).run Try.prog w = .ok (.float .f64 r) w.drew ∧ isNan r = true ∧ r < 18446744073709551616 := by
  refine ⟨(Question.nanBits .f64 x y).cut (w.tape w.drawn (.nanBits .f64 x y)), ?_, (nan_bits _).1, (nan_bits _).2⟩
  have h' : FloatKind.f64.format.sub x y = none := h
  simp [binOp, Op.floatArith, h', Question.forced]
theorem run_nan_add {x y : Nat} (t : TypeId) (w : World) (h : Ieee.double.add x y = none) : ∃ r, (binOp .add t (.float .f64 x) (.float .f64 y)).run Try.prog w = .ok (.float .f64 r) w.drew ∧ isNan r = true ∧ r < 18446744073709551616 := by
  refine ⟨(Question.nanBits .f64 x y).cut (w.tape w.drawn (.nanBits .f64 x y)), ?_, (nan_bits _).1, (nan_bits _).2⟩
  have h' : FloatKind.f64.format.add x y = none := h
  simp [binOp, Op.floatArith, h', Question.forced]

theorem ne_nan {r : Nat} (h : isNan r = true) : (FloatKind.f64.format.order r 0 != some .eq) = true := by
  refine (order_ne r 0).trans ?_
  unfold fnum; rw [h]; rfl
theorem zero_words {b : Nat} (hb : b < 18446744073709551616) (h : isZ0 b = true) : b = if fneg b then 9223372036854775808 else 0 := by
  have h2 := of_decide_eq_true h
  have := word_self hb
  rw [h2] at this
  rw [← this]
  rw [fneg_word _ (by decide)]
  rfl

end Go.Proofs.Ytbmofdoehfjjdaa

set_option linter.unusedVariables false
set_option linter.unusedSimpArgs false
namespace Go.Proofs.Ytbmofdoehfjjdaa

theorem bits_low {a : Nat} (h : 0 < a) : 2 ^ bitsN a ≤ 2 * a := two_pow_bits h
/-- The power of two told is in the fraction. -/
theorem topN_ge {a d : Nat} (h : 0 < a) : ¬ lt2 a d (topN a d - 1) := by
  intro hl
  have h1 := lt_bitsN d
  have h2 := two_pow_bits h
  have h3 := (lt2_iff (bitsN d + 1) (bitsN a) (by unfold topN; omega)).1 hl
  rw [Nat.pow_succ] at h3
  have h4 : d * 2 ^ bitsN a ≤ a * (2 ^ bitsN d * 2) := by
    calc d * 2 ^ bitsN a ≤ d * (2 * a) := Nat.mul_le_mul_left _ h2
      _ = a * (d * 2) := by ac_rfl
      _ ≤ a * (2 ^ bitsN d * 2) := Nat.mul_le_mul_left _ (by omega)
  omega
theorem topF_ge {a d : Nat} (h : 0 < a) : ¬ lt2 a d (topF a d) := by
  by_cases hc : lt2 a d (topN a d)
  · rw [topF_of_lt hc]; exact topN_ge h
  · rw [topF_of_not hc]; exact hc
/-- It is the only one. -/
theorem topF_unique {a d : Nat} {t : Int} (h0 : 0 < a) (hd : 0 < d) (h1 : ¬ lt2 a d t) (h2 : lt2 a d (t + 1)) : topF a d = t := by
  have g1 := topF_ge (d := d) h0
  have g2 := topF_lt (a := a) hd
  rcases Int.lt_trichotomy (topF a d) t with h | h | h
  · exact absurd (lt2_mono g2 (by omega)) h1
  · exact h
  · exact absurd (lt2_mono h2 (by omega)) g1
theorem topN_near (a d : Nat) : topF a d ≤ topN a d ∧ topN a d ≤ topF a d + 1 := by
  by_cases hc : lt2 a d (topN a d)
  · rw [topF_of_lt hc]; omega
  · rw [topF_of_not hc]; omega

/-- a/d is N * 2^j: then below a power of two just if N is. -/
theorem lt2_of {a d N : Nat} {j : Int} (hd : 0 < d) (K : Nat) (hK : 0 ≤ (K : Int) + j) (h : a * 2 ^ K = N * 2 ^ (K + j).toNat * d) (e : Nat) (he : 0 ≤ (K : Int) + j + e) : lt2 a d (j + e) ↔ N < 2 ^ e := by
  rw [lt2_iff K ((K + j).toNat + e) (by omega), h, Nat.mul_comm d, Nat.pow_add]
  have hp : 0 < 2 ^ ((K : Int) + j).toNat := Nat.two_pow_pos _
  generalize 2 ^ ((K : Int) + j).toNat = p at *
  constructor
  · intro h1
    have h2 := Nat.lt_of_mul_lt_mul_right h1
    rw [Nat.mul_comm N] at h2
    exact Nat.lt_of_mul_lt_mul_left h2
  · intro h1
    refine Nat.mul_lt_mul_of_pos_right ?_ hd
    rw [Nat.mul_comm N]
    exact Nat.mul_lt_mul_of_pos_left h1 hp

theorem rne_exact {q d : Nat} (hd : 0 < d) : rne (q * d) d = q := by
  unfold rne
  rw [Nat.mul_div_cancel _ hd, Nat.mul_mod_left, if_neg (by omega)]
  rfl
theorem rne_of {a d q : Nat} (hd : 0 < d) (h : a = q * d) : rne a d = q := by rw [h]; exact rne_exact hd

/-- Where the place is j, and N whole numbers of it: N. -/
theorem intF_exact {a d N : Nat} {j : Int} (hd : 0 < d) (K : Nat) (hK : 0 ≤ (K : Int) + j) (h : a * 2 ^ K = N * 2 ^ (K + j).toNat * d) (hp : placeF a d = j) : intF a d = N := by
  unfold intF
  rw [hp]
  refine rne_of (Nat.mul_pos hd (Nat.two_pow_pos _)) ?_
  have hk : 0 < 2 ^ K := Nat.two_pow_pos K
  refine Nat.eq_of_mul_eq_mul_right hk ?_
  rw [Nat.mul_right_comm, h]
  have e : 2 ^ ((K : Int) + j).toNat * 2 ^ (-j).toNat = 2 ^ j.toNat * 2 ^ K := by
    rw [← Nat.pow_add, ← Nat.pow_add]
    refine congrArg (fun n => 2 ^ n) ?_
    omega
  generalize 2 ^ ((K : Int) + j).toNat = p at *
  generalize 2 ^ (-j).toNat = q at *
  generalize 2 ^ j.toNat = r at *
  generalize 2 ^ K = s at *
  calc N * p * d * q = N * d * (p * q) := by ac_rfl
    _ = N * d * (r * s) := by rw [e]
    _ = N * (d * r) * s := by ac_rfl

theorem near_exact {a d r : Nat} (hd : 0 < d) (hr0 : 0 < r) (hr : r < 9218868437227405312) (h : a * units = mag r * d) : nearF a d = r := by
  obtain ⟨K, hK, hu⟩ := units_eq
  rw [hu] at h
  have hm : 0 < mag r := by have := mag_lt hr0; rw [mag_zero] at this; exact this
  have ha : 0 < a := by
    rcases Nat.eq_zero_or_pos a with h0 | h0
    · rw [h0, Nat.zero_mul] at h
      have := Nat.mul_pos hm hd
      omega
    · exact h0
  by_cases h1 : r < 4503599627370496
  · -- a subnormal number: its own whole number
    have hmr : mag r = r := if_pos h1
    rw [hmr] at h
    have h' : a * 2 ^ K = r * 2 ^ ((K : Int) + (-1074)).toNat * d := by
      rw [show ((K : Int) + (-1074)).toNat = 0 by omega, Nat.pow_zero, Nat.mul_one]; exact h
    have hlt : lt2 a d (-1074 + (52 : Nat)) := (lt2_of hd K (by omega) h' 52 (by omega)).2 h1
    have hge : ¬ lt2 a d (-1074 + (0 : Nat)) := fun g => by
      have := (lt2_of hd K (by omega) h' 0 (by omega)).1 g
      rw [Nat.pow_zero] at this; omega
    have t1 : topF a d < -1074 + (52 : Nat) := by
      rcases Int.lt_or_le (topF a d) (-1074 + (52 : Nat)) with g | g
      · exact g
      · exact absurd (lt2_mono hlt g) (topF_ge ha)
    have t2 : -1074 ≤ topF a d := by
      rcases Int.lt_or_le (topF a d) (-1074) with g | g
      · exact absurd (lt2_mono (topF_lt hd) (by omega)) hge
      · exact g
    have hpl : placeF a d = -1074 := by unfold placeF; omega
    have hi := intF_exact hd K (by omega) h' hpl
    have hn := topN_near a d
    unfold nearF
    rw [if_neg (by omega), if_neg (by omega), hi, hpl]
    have := nearest_mag false hr
    rw [hmr] at this
    rw [this]; rfl
  · have hmr : mag r = (4503599627370496 + r % 4503599627370496) * 2 ^ (r / 4503599627370496 - 1) := if_neg h1
    have hF : r % 4503599627370496 < 4503599627370496 := Nat.mod_lt _ (by decide)
    have hE : r / 4503599627370496 - 1 ≤ 2045 := by omega
    obtain ⟨E, hEe⟩ : ∃ E, r / 4503599627370496 - 1 = E := ⟨_, rfl⟩
    obtain ⟨F, hFe⟩ : ∃ F, r % 4503599627370496 = F := ⟨_, rfl⟩
    rw [hEe, hFe] at hmr
    rw [hmr] at h
    have hrw : r = (E + 1) * 4503599627370496 + F := by omega
    have h' : a * 2 ^ K = (4503599627370496 + F) * 2 ^ ((K : Int) + ((E : Int) - 1074)).toNat * d := by
      rw [show ((K : Int) + ((E : Int) - 1074)).toNat = E by omega]; exact h
    have hlt : lt2 a d ((E : Int) - 1074 + (53 : Nat)) := (lt2_of hd K (by omega) h' 53 (by omega)).2 (by show 4503599627370496 + F < 9007199254740992; omega)
    have hge : ¬ lt2 a d ((E : Int) - 1074 + (52 : Nat)) := fun g => by
      have := (lt2_of hd K (by omega) h' 52 (by omega)).1 g
      have : 4503599627370496 + F < 4503599627370496 := this
      omega
    have ht : topF a d = (E : Int) - 1074 + (52 : Nat) := topF_unique ha hd hge (by rw [show (E : Int) - 1074 + (52 : Nat) + 1 = (E : Int) - 1074 + (53 : Nat) by omega]; exact hlt)
    have hpl : placeF a d = (E : Int) - 1074 := by unfold placeF; omega
    have hi := intF_exact hd K (by omega) h' hpl
    have hn := topN_near a d
    unfold nearF
    rw [if_neg (by omega), if_neg (by omega), hi, hpl, nearest_norm false (by omega) (by omega) (by omega), word_eq]
    simp only [Bool.false_eq_true, if_false]
    rw [show ((E : Int) - 1074 + 1075).toNat = E + 1 by omega, hrw]

/-- A float comes back. -/
theorem q_cross (z : Int) {d : Nat} (hd : 0 < d) : qnum z d * (d : Int) = z * (qden z d : Int) ∧ 0 < qden z d := by
  have hg : 0 < Nat.gcd z.natAbs d := Nat.gcd_pos_of_pos_right _ hd
  rw [qnum_pos (by omega), qden_pos (by omega)]
  obtain ⟨k, hk⟩ := Nat.gcd_dvd_right z.natAbs d
  have h1 : ((Nat.gcd z.natAbs d : Nat) : Int) ∣ z := Int.ofNat_dvd_left.2 (Nat.gcd_dvd_left _ _)
  obtain ⟨y, hy⟩ := h1
  generalize Nat.gcd z.natAbs d = g at *
  have e1 : z / (g : Int) = y := by rw [hy]; exact Int.mul_ediv_cancel_left y (by omega)
  have e2 : d / g = k := by rw [hk]; exact Nat.mul_div_cancel_left k hg
  rw [e1, e2]
  refine ⟨?_, ?_⟩
  · rw [hk, hy, Int.natCast_mul]
    generalize (g : Int) = G
    generalize (k : Int) = L
    ac_rfl
  · rcases Nat.eq_zero_or_pos k with h | h
    · rw [h, Nat.mul_zero] at hk; omega
    · exact h
theorem back {b : Nat} (hb : b < 18446744073709551616) (h : rung b < 9218868437227405312) (h0 : 0 < rung b) : toF (zneg (fnumer b)) (val (zlim (fnumer b))) (val (limbs (fdenom b))) = b := by
  have hc := q_cross (smag b) units_pos
  have hm : 0 < mag (rung b) := by have := mag_lt h0; rw [mag_zero] at this; exact this
  change fnumer b * (units : Int) = smag b * (fdenom b : Int) ∧ 0 < fdenom b at hc
  rw [val_zlim, val_limbs]
  have hnat : (fnumer b).natAbs * units = mag (rung b) * fdenom b := by
    have := congrArg Int.natAbs hc.1
    rw [Int.natAbs_mul, Int.natAbs_mul, Int.natAbs_natCast, Int.natAbs_natCast] at this
    rw [this]
    unfold smag
    cases fneg b <;> simp
  have hsg : zneg (fnumer b) = fneg b := by
    have hu : (0 : Int) < units := by have := units_pos; omega
    have hd : (0 : Int) < fdenom b := by have := hc.2; omega
    have h1 := hc.1
    unfold smag at h1
    unfold zneg
    cases hs : fneg b
    · rw [hs] at h1
      simp only [Bool.false_eq_true, if_false] at h1
      refine decide_eq_false ?_
      intro hn
      have h2 : fnumer b * (units : Int) < 0 := Int.mul_neg_of_neg_of_pos hn hu
      have h3 : (0 : Int) ≤ (mag (rung b) : Int) * (fdenom b : Int) := Int.mul_nonneg (by omega) (by omega)
      omega
    · rw [hs] at h1
      simp only [if_true] at h1
      refine decide_eq_true ?_
      rcases Int.lt_or_le (fnumer b) 0 with g | g
      · exact g
      · have h2 : 0 ≤ fnumer b * (units : Int) := Int.mul_nonneg g (by omega)
        have h3 : (0 : Int) < (mag (rung b) : Int) * (fdenom b : Int) := Int.mul_pos (by omega) hd
        rw [Int.neg_mul] at h1
        omega
  have hne : ¬ (fdenom b = 0 ∨ (fnumer b).natAbs = 0) := by
    rintro (g | g)
    · have := hc.2; omega
    · rw [g, Nat.zero_mul] at hnat
      have := Nat.mul_pos hm hc.2
      omega
  unfold toF
  rw [if_neg hne, near_exact hc.2 h0 h hnat, hsg]
  exact word_self hb
end Go.Proofs.Ytbmofdoehfjjdaa

set_option linter.unusedVariables false
set_option linter.unusedSimpArgs false
namespace Go.Proofs.Ytbmofdoehfjjdaa
open Go.RowKit

theorem mag_bound {r m : Nat} (h : r < 9218868437227405312) (hm : 66 ≤ m) : mag r < 4294967296 ^ m := by
  obtain ⟨n, hn⟩ : ∃ n : Nat, n = 2045 := ⟨_, rfl⟩
  have h1 : mag r < 9007199254740992 * 2 ^ n := by
    unfold mag
    split
    · have : 0 < 2 ^ n := Nat.two_pow_pos _
      generalize 2 ^ n = p at *
      calc r < 9007199254740992 := by omega
        _ = 9007199254740992 * 1 := by omega
        _ ≤ 9007199254740992 * p := Nat.mul_le_mul_left _ this
    · have h2 : (4503599627370496 + r % 4503599627370496) < 9007199254740992 := by omega
      have h3 : (2 : Nat) ^ (r / 4503599627370496 - 1) ≤ 2 ^ n := Nat.pow_le_pow_right (by decide) (by omega)
      exact Nat.mul_lt_mul_of_lt_of_le h2 h3 (Nat.two_pow_pos _)
  refine Nat.lt_of_lt_of_le h1 ?_
  rw [pow_limbs', show (9007199254740992 : Nat) = 2 ^ 53 from rfl, ← Nat.pow_add]
  exact Nat.pow_le_pow_right (by decide) (by omega)
theorem smag_abs (b : Nat) : (smag b).natAbs = mag (rung b) := by unfold smag; cases fneg b <;> simp
theorem qnum_le (z : Int) (d : Nat) : (qnum z d).natAbs ≤ z.natAbs := by
  unfold qnum
  split
  · simp
  · have h1 : ((Nat.gcd z.natAbs d : Nat) : Int) ∣ z := Int.ofNat_dvd_left.2 (Nat.gcd_dvd_left _ _)
    rw [Int.natAbs_ediv_of_dvd h1]
    exact Nat.div_le_self _ _
theorem qden_le (z : Int) {d : Nat} (h : 0 < d) : qden z d ≤ d := by
  unfold qden
  rw [if_neg (by omega)]
  exact Nat.div_le_self _ _
theorem from_len {b : Nat} (h : rung b < 9218868437227405312) : (zlim (fnumer b)).length ≤ 66 ∧ (limbs (fdenom b)).length ≤ 34 := by
  constructor
  · refine limbs_length_le ?_
    refine Nat.lt_of_le_of_lt (qnum_le _ _) ?_
    rw [smag_abs]
    exact mag_bound h (Nat.le_refl _)
  · refine limbs_length_le ?_
    refine Nat.lt_of_le_of_lt (qden_le _ units_pos) ?_
    obtain ⟨K, hK, hu⟩ := units_eq
    have h34 : K < 32 * 34 := by omega
    generalize 34 = m at *
    rw [hu, pow_limbs']
    exact Nat.pow_lt_pow_right (by decide) h34
theorem from_zero_parts {b : Nat} (h : rung b = 0) : fnumer b = 0 ∧ fdenom b = 1 := by
  have e : smag b = 0 := by unfold smag; rw [h, mag_zero]; simp
  unfold fnumer fdenom
  rw [e]
  constructor
  · unfold qnum; split <;> simp
  · unfold qden
    rw [if_neg (by have := units_pos; omega)]
    simp
    exact Nat.div_self units_pos
end Go.Proofs.Ytbmofdoehfjjdaa
