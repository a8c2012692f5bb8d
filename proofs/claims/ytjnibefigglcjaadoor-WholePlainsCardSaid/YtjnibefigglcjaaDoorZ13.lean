/- A whole number's text, read: the numbers. -/
import Derived.Test.YtjnibefigglcjaaDoorZ12
set_option linter.unusedVariables false
set_option linter.unusedSimpArgs false
namespace Go.Proofs.YtjnibefigglcjaaDoor
open Go.RowKit

theorem minusB_cons (l : List UInt8) : minusB ⟨(45 :: l).toArray⟩ = true := by
  unfold minusB let8
  simp [ByteArray.size]
theorem restS_cons (l : List UInt8) : restS ⟨(45 :: l).toArray⟩ = ⟨l.toArray⟩ := by
  unfold restS
  rw [minusB_cons, if_pos rfl]
  apply ByteArray.ext
  rw [ByteArray.data_extract]
  apply Array.ext'
  rw [Array.toList_extract]
  simp [ByteArray.size]
theorem minusB_dec (x : Nat) : minusB ⟨(dec x).toArray⟩ = false := by
  unfold minusB
  have h := (textOf_numeral x).2.2 0 (textOf_numeral x).1
  simp only [decide_eq_false_iff_not]
  rintro ⟨_, h2⟩
  unfold textOf at h
  omega
theorem restS_dec (x : Nat) : restS ⟨(dec x).toArray⟩ = ⟨(dec x).toArray⟩ := by
  unfold restS
  rw [minusB_dec]; rfl

/-- What is told of a whole number is read as it. -/
theorem parse_text (z : Int) (hl : (dec z.natAbs).length ≤ 10000) : errZ (textZ z) = 0 ∧ valZ (textZ z) = z := by
  have hN := textOf_numeral z.natAbs
  have hsz : (textOf z.natAbs).size ≤ 10000 := by rw [textOf_size]; exact hl
  have hk := errT_ok hN hsz
  have hnum := textOf_num z.natAbs
  unfold textOf at hk hnum
  by_cases hz : z < 0
  · have ht : textZ z = ⟨(45 :: dec z.natAbs).toArray⟩ := by unfold textZ; rw [if_pos hz]
    have hv : val (lstT ⟨(dec z.natAbs).toArray⟩) = z.natAbs := by rw [hk.2, val_limbs, hnum]
    have he : errZ (textZ z) = 0 := by
      unfold errZ
      rw [ht, restS_cons, hk.1, if_neg (by decide), if_neg]
      rintro ⟨_, h⟩
      rw [hv] at h
      omega
    refine ⟨he, ?_⟩
    unfold valZ
    rw [he, if_pos rfl, ht, minusB_cons, if_pos rfl, restS_cons, hv]
    omega
  · have ht : textZ z = ⟨(dec z.natAbs).toArray⟩ := by unfold textZ; rw [if_neg hz]
    have hv : val (lstT ⟨(dec z.natAbs).toArray⟩) = z.natAbs := by rw [hk.2, val_limbs, hnum]
    have he : errZ (textZ z) = 0 := by
      unfold errZ
      rw [ht, restS_dec, hk.1, if_neg (by decide), if_neg]
      rintro ⟨h, _⟩
      rw [minusB_dec] at h
      cases h
    refine ⟨he, ?_⟩
    unfold valZ
    rw [he, if_pos rfl, ht, minusB_dec, if_neg (by decide), restS_dec, hv]
    omega

/-- What is read of a text is told as it. -/
theorem text_parse (s : ByteArray) (h : errZ s = 0) : textZ (valZ s) = s := by
  have he := h
  unfold errZ at h
  have hd : errT (restS s) = 0 := by
    by_cases h0 : errT (restS s) = 0
    · exact h0
    · rw [if_pos h0] at h; exact absurd h h0
  rw [if_neg (by rw [hd]; decide)] at h
  have hnz : ¬ (minusB s = true ∧ val (lstT (restS s)) = 0) := fun hh => by rw [if_pos hh] at h; cases h
  have hN : Numeral (restS s) := by
    by_cases hn : Numeral (restS s)
    · exact hn
    · rw [(errT_text hn).1] at hd; cases hd
  have hl : lstT (restS s) = limbs (numP (restS s) (restS s).size) := by unfold lstT; rw [hd]; rfl
  have hdec := numeral_text hN
  have hv : val (lstT (restS s)) = numP (restS s) (restS s).size := by rw [hl, val_limbs]
  have hval : valZ s = if minusB s = true then -(val (lstT (restS s)) : Int) else (val (lstT (restS s)) : Int) := by unfold valZ; rw [he, if_pos rfl]
  cases hb : minusB s
  · rw [hb, if_neg (by decide)] at hval
    have hr : restS s = s := by unfold restS; rw [hb]; rfl
    rw [hval]
    unfold textZ
    rw [if_neg (by omega), Int.natAbs_natCast, hv, hdec, hr]
  · rw [hb, if_pos rfl] at hval
    have hp : 0 < val (lstT (restS s)) := by
      rcases Nat.eq_zero_or_pos (val (lstT (restS s))) with h0 | h0
      · exact absurd ⟨hb, h0⟩ hnz
      · exact h0
    rw [hval]
    unfold textZ
    rw [if_pos (by omega), Int.natAbs_neg, Int.natAbs_natCast, hv, hdec]
    have hr : restS s = s.extract 1 s.size := by unfold restS; rw [hb]; rfl
    rw [hr]
    unfold minusB let8 at hb
    have hb2 : 0 < s.size ∧ (s.data.toList.getD 0 0).toNat = 45 := by simpa using hb
    obtain ⟨h1, h2⟩ := hb2
    apply ByteArray.ext
    apply Array.ext'
    rw [ByteArray.data_extract, Array.toList_extract]
    have hlen : s.data.toList.length = s.size := by cases s; rfl
    generalize s.data.toList = l at *
    match l, hlen with
    | [], hlen => simp at hlen; omega
    | c :: r, hlen =>
      have hc : c = 45 := UInt8.toNat_inj.1 (by simpa using h2)
      subst hc
      simp at hlen
      rw [← hlen]
      simp

theorem valZ_err (s : ByteArray) (h : errZ s ≠ 0) : valZ s = 0 := by unfold valZ; rw [if_neg h]
theorem lstT_size (t : ByteArray) : (lstT t).length ≤ t.size := by
  unfold lstT
  split
  · next h =>
    have hN : Numeral t := by
      by_cases hn : Numeral t
      · exact hn
      · rw [(errT_text hn).1] at h; cases h
    exact limbs_length_le (Nat.lt_of_lt_of_le (numP_lt t t.size hN.2.2) (Nat.pow_le_pow_left (by decide) _))
  · simp
theorem valZ_len (s : ByteArray) : (zlim (valZ s)).length ≤ s.size := by
  have h1 := lstT_size (restS s)
  have h2 := rest_size s
  have h3 := lstT_plain (restS s)
  unfold valZ zlim
  by_cases he : errZ s = 0
  · rw [if_pos he]
    have : (if minusB s = true then -(val (lstT (restS s)) : Int) else (val (lstT (restS s)) : Int)).natAbs = val (lstT (restS s)) := by
      split <;> simp
    rw [this, ← h3]
    omega
  · rw [if_neg he]; simp [limbs_zero]
theorem textZ_size (z : Int) (h : (dec z.natAbs).length ≤ 10000) : (textZ z).size ≤ 10001 := by
  unfold textZ
  split
  · show (45 :: dec z.natAbs).toArray.size ≤ 10001
    simp; omega
  · show (dec z.natAbs).toArray.size ≤ 10001
    simp; omega
theorem small_all (i : Int) (h : -9223372036854775807 ≤ i) (h2 : i < 9223372036854775808) : smallI (zneg i) (zlim i) = i ∧ smallB (zlim i) = true := by
  have hv := val_zlim i
  refine ⟨?_, ?_⟩
  · unfold smallI; rw [if_pos (by rw [hv]; omega), zval_plain]
  · unfold smallB; simp only [decide_eq_true_eq]; rw [hv]; omega
theorem small_least : smallI (zneg (-9223372036854775808)) (zlim (-9223372036854775808)) = 0 ∧ smallB (zlim (-9223372036854775808)) = false := by
  have hv := val_zlim (-9223372036854775808)
  refine ⟨?_, ?_⟩
  · unfold smallI; rw [if_neg (by rw [hv]; decide)]
  · unfold smallB; simp only [decide_eq_false_iff_not]; rw [hv]; decide
end Go.Proofs.YtjnibefigglcjaaDoor
