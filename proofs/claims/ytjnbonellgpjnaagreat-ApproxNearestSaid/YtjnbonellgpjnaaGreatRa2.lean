/- Floats keep the order of fractions. -/
import Derived.Test.YtjnbonellgpjnaaGreatRa1
import Derived.Test.YtjnbonellgpjnaaGreatKT
set_option linter.unusedVariables false
set_option linter.unusedSimpArgs false
namespace Go.Proofs.YtjnbonellgpjnaaGreat

theorem rungAt_scale (m : Nat) (p : Int) (j : Nat) : rungAt (m * 2 ^ j) (p - j) = rungAt m p := by
  have h1 := nearest_scale false m p j
  rw [nearest_rung, nearest_rung, word_eq, word_eq] at h1
  simp only [Bool.false_eq_true, if_false] at h1
  exact h1
theorem nearC_rung (a d : Nat) : nearC a d = rungAt (intF a d) (placeF a d) := by
  unfold nearC
  rw [nearest_rung, word_eq]; simp
theorem rne_mono {a b d : Nat} (hd : 0 < d) (h : a ≤ b) : rne a d ≤ rne b d := by
  have hq := Nat.div_le_div_right (c := d) h
  unfold rne
  rcases Nat.lt_or_eq_of_le hq with hlt | heq
  · split <;> split <;> omega
  · have e1 := Nat.div_add_mod a d
    have e2 := Nat.div_add_mod b d
    rw [heq] at e1 ⊢
    have hr : a % d ≤ b % d := by omega
    generalize b / d = k at *
    generalize a % d = r at *
    generalize b % d = s at *
    clear e1 e2 hq heq
    split
    · rename_i h1
      rw [if_pos (by omega)]
      exact Nat.le_refl _
    · omega
theorem topF_mono {a b d : Nat} (ha : 0 < a) (hd : 0 < d) (h : a ≤ b) : topF a d ≤ topF b d := by
  rcases Int.lt_or_le (topF b d) (topF a d) with g | g
  · exfalso
    have h1 := lt2_mono (topF_lt (a := b) hd) (show topF b d + 1 ≤ topF a d by omega)
    have h2 := topF_ge (d := d) ha
    refine h2 ?_
    unfold lt2 at h1 ⊢
    exact Nat.lt_of_le_of_lt (Nat.mul_le_mul_right _ h) h1
  · exact g
theorem nearC_mono {a b d : Nat} (ha : 0 < a) (hd : 0 < d) (h : a ≤ b) : nearC a d ≤ nearC b d := by
  rw [nearC_rung, nearC_rung]
  have ht := topF_mono ha hd h
  have hpl : placeF a d ≤ placeF b d := by unfold placeF; omega
  rcases Int.lt_or_eq_of_le hpl with hlt | heq
  · have hp : placeF b d = topF b d - 52 := by unfold placeF at hlt ⊢; omega
    have h1 := intF_le (a := a) hd
    have h2 := intF_ge (Nat.lt_of_lt_of_le ha h) hd hp
    have m1 := rungAt_mono h1 (placeF a d)
    have m2 := rungAt_mono h2 (placeF b d)
    have e1 : rungAt 9007199254740992 (placeF a d) = rungAt 4503599627370496 (placeF a d + 1) := by
      have := rungAt_scale 4503599627370496 (placeF a d + 1) 1
      rw [show placeF a d + 1 - ((1 : Nat) : Int) = placeF a d by omega] at this
      exact this
    obtain ⟨j, hj⟩ : ∃ j : Nat, (j : Int) = placeF b d - (placeF a d + 1) := ⟨(placeF b d - (placeF a d + 1)).toNat, by omega⟩
    have e2 := rungAt_scale 4503599627370496 (placeF b d) j
    rw [show placeF b d - (j : Int) = placeF a d + 1 by omega] at e2
    have h3 : 4503599627370496 ≤ 4503599627370496 * 2 ^ j := by
      have := Nat.mul_le_mul_left 4503599627370496 (Nat.two_pow_pos j)
      exact this
    have m3 := rungAt_mono h3 (placeF a d + 1)
    rw [e2] at m3
    rw [e1] at m1
    exact Nat.le_trans m1 (Nat.le_trans m3 m2)
  · have hi : intF a d ≤ intF b d := by
      unfold intF
      rw [heq]
      exact rne_mono (Nat.mul_pos hd (Nat.two_pow_pos _)) (Nat.mul_le_mul_right _ h)
    rw [heq]
    exact rungAt_mono hi _
/-- FLOATS KEEP THE ORDER OF FRACTIONS. -/
theorem nearF_mono {a d b c : Nat} (ha : 0 < a) (hd : 0 < d) (hb : 0 < b) (hc : 0 < c) (h : a * c ≤ b * d) : nearF a d ≤ nearF b c := by
  rw [← nearF_scale ha hd hc, ← nearF_scale hb hc hd, Nat.mul_comm c d, near_canon (Nat.mul_pos ha hc) (Nat.mul_pos hd hc), near_canon (Nat.mul_pos hb hd) (Nat.mul_pos hd hc)]
  exact nearC_mono (Nat.mul_pos ha hc) (Nat.mul_pos hd hc) h
end Go.Proofs.YtjnbonellgpjnaaGreat
