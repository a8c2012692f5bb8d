/- The float nearest to a fraction hangs on the fraction alone. -/
import Derived.Test.YtjnbonellgpjnaaGreatKS
set_option linter.unusedVariables false
set_option linter.unusedSimpArgs false
namespace Go.Proofs.YtjnbonellgpjnaaGreat

theorem lt2_scale {a d k : Nat} (hk : 0 < k) (t : Int) : lt2 (a * k) (d * k) t ↔ lt2 a d t := by
  unfold lt2
  rw [Nat.mul_right_comm, Nat.mul_right_comm d]
  exact Nat.mul_lt_mul_right hk
theorem topF_scale {a d k : Nat} (ha : 0 < a) (hd : 0 < d) (hk : 0 < k) : topF (a * k) (d * k) = topF a d :=
  topF_unique (Nat.mul_pos ha hk) (Nat.mul_pos hd hk) (fun h => topF_ge ha ((lt2_scale hk _).1 h)) ((lt2_scale hk _).2 (topF_lt hd))
theorem rne_scale {a d k : Nat} (hk : 0 < k) : rne (a * k) (d * k) = rne a d := by
  unfold rne
  rw [Nat.mul_div_mul_right _ _ hk, Nat.mul_mod_mul_right]
  have e1 : d * k < 2 * (a % d * k) ↔ d < 2 * (a % d) := by rw [← Nat.mul_assoc]; exact Nat.mul_lt_mul_right hk
  have e2 : 2 * (a % d * k) = d * k ↔ 2 * (a % d) = d := by
    rw [← Nat.mul_assoc]
    exact ⟨fun h => Nat.eq_of_mul_eq_mul_right hk h, fun h => congrArg (· * k) h⟩
  simp only [e1, e2]
theorem placeF_scale {a d k : Nat} (ha : 0 < a) (hd : 0 < d) (hk : 0 < k) : placeF (a * k) (d * k) = placeF a d := by
  unfold placeF; rw [topF_scale ha hd hk]
theorem intF_scale {a d k : Nat} (ha : 0 < a) (hd : 0 < d) (hk : 0 < k) : intF (a * k) (d * k) = intF a d := by
  unfold intF
  rw [placeF_scale ha hd hk, Nat.mul_right_comm, Nat.mul_right_comm d, rne_scale hk]

/-- Told without a look at lengths. -/
noncomputable def nearC (a d : Nat) : Nat := Ieee.double.nearest false (intF a d) (placeF a d)
theorem nearC_scale {a d k : Nat} (ha : 0 < a) (hd : 0 < d) (hk : 0 < k) : nearC (a * k) (d * k) = nearC a d := by
  unfold nearC; rw [intF_scale ha hd hk, placeF_scale ha hd hk]
theorem intF_ge {a d : Nat} (ha : 0 < a) (hd : 0 < d) (hp : placeF a d = topF a d - 52) : 4503599627370496 ≤ intF a d := by
  have h1 := topF_ge (d := d) ha
  unfold intF rne
  have h2 : d * 2 ^ (placeF a d).toNat * 4503599627370496 ≤ a * 2 ^ (-placeF a d).toNat := by
    generalize placeF a d = p at *
    have h3 := mt (lt2_iff (a := a) (d := d) (t := topF a d) (-p).toNat (p.toNat + 52) (by omega)).2 h1
    rw [Nat.pow_add, ← Nat.mul_assoc] at h3
    exact Nat.not_lt.1 h3
  have h4 : 4503599627370496 ≤ a * 2 ^ (-placeF a d).toNat / (d * 2 ^ (placeF a d).toNat) :=
    (Nat.le_div_iff_mul_le (Nat.mul_pos hd (Nat.two_pow_pos _))).2 (by rw [Nat.mul_comm]; exact h2)
  omega
theorem near_canon {a d : Nat} (ha : 0 < a) (hd : 0 < d) : nearF a d = nearC a d := by
  have hn := topN_near a d
  unfold nearF
  by_cases g1 : 1024 < topN a d
  · rw [if_pos g1]
    have hp : placeF a d = topF a d - 52 := by unfold placeF; omega
    have h1 := intF_ge ha hd hp
    have h2 := intF_le (a := a) hd
    have h3 : 972 ≤ placeF a d := by omega
    unfold nearC
    by_cases e : intF a d = 9007199254740992
    · rw [e]
      have h4 := nearest_scale false 4503599627370496 (placeF a d + 1) 1
      rw [show placeF a d + 1 - ((1 : Nat) : Int) = placeF a d by omega] at h4
      have h5 := nearest_over false (F := 0) (by decide) (p := placeF a d + 1) (by omega)
      exact (h4.trans h5).symm
    · obtain ⟨F, hF⟩ : ∃ F, intF a d = 4503599627370496 + F := ⟨intF a d - 4503599627370496, by omega⟩
      rw [hF]
      have h5 := nearest_over false (F := F) (by omega) h3
      exact h5.symm
  · rw [if_neg g1]
    by_cases g2 : topN a d < -1075
    · rw [if_pos g2]
      have hp : placeF a d = -1074 := by unfold placeF; omega
      have hl := lt2_mono (topF_lt (a := a) hd) (s := -1075) (by omega)
      have h1 : a * 2 ^ (-placeF a d).toNat * 2 < d := by
        have h2 := (lt2_iff (a := a) (d := d) (t := -1075) ((-placeF a d).toNat + 1) 0 (by omega)).1 hl
        rw [Nat.pow_succ, ← Nat.mul_assoc, Nat.pow_zero, Nat.mul_one] at h2
        exact h2
      have hi : intF a d = 0 := by
        unfold intF rne
        rw [show (placeF a d).toNat = 0 by omega, Nat.pow_zero, Nat.mul_one]
        generalize a * 2 ^ (-placeF a d).toNat = x at *
        rw [Nat.div_eq_of_lt (by omega), Nat.mod_eq_of_lt (show x < d by omega), if_neg (by omega)]
      unfold nearC
      rw [hi]; rfl
    · rw [if_neg g2]; rfl
/-- EQUAL FRACTIONS, ONE FLOAT. -/
theorem nearF_scale {a d k : Nat} (ha : 0 < a) (hd : 0 < d) (hk : 0 < k) : nearF (a * k) (d * k) = nearF a d := by
  rw [near_canon (Nat.mul_pos ha hk) (Nat.mul_pos hd hk), near_canon ha hd, nearC_scale ha hd hk]
theorem nearF_ratio {a d b c : Nat} (ha : 0 < a) (hd : 0 < d) (hb : 0 < b) (hc : 0 < c) (h : a * c = b * d) : nearF a d = nearF b c := by
  rw [← nearF_scale ha hd hc, ← nearF_scale hb hc hd, h, Nat.mul_comm d c]
end Go.Proofs.YtjnbonellgpjnaaGreat
