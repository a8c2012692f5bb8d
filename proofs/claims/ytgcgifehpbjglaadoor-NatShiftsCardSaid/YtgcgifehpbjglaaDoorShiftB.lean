/- Shifts, a binary digit at a time: the numbers. -/
import Derived.Test.YtgcgifehpbjglaaDoorShift5
set_option linter.unusedVariables false
set_option linter.unusedSimpArgs false
namespace Go.Proofs.YtgcgifehpbjglaaDoor

/-- A binary digit of a number is one of a limb's. -/
theorem bit_limb {l : List Nat} (hok : Ok l) (q h : Nat) (hh : h < 32) : l.getD q 0 / 2 ^ h % 2 = val l / 2 ^ (32 * q + h) % 2 := by
  rw [← pow_limb, ← Nat.div_div_eq_div_mul, ← val_drop_div hok]
  rcases Nat.lt_or_ge q l.length with h1 | h1
  · rw [val_drop l q h1]
    have e : (4294967296 : Nat) = 2 ^ h * (2 * 2 ^ (31 - h)) := by
      have : 2 ^ h * (2 * 2 ^ (31 - h)) = 2 ^ 32 := by
        rw [Nat.mul_left_comm, ← Nat.pow_add, show h + (31 - h) = 31 by omega]
      rw [this]
    rw [e, Nat.mul_assoc, Nat.add_mul_div_left _ _ (Nat.two_pow_pos h), Nat.mul_assoc]
    omega
  · rw [List.drop_eq_nil_iff.2 h1, List.getD_eq_getElem?_getD, List.getElem?_eq_none h1, val_nil, Nat.zero_div]
    simp

theorem lt_bitsN (x : Nat) : x < 2 ^ bitsN x := by
  unfold bitsN
  by_cases h : x = 0
  · rw [if_pos h, h]; decide
  · rw [if_neg h]; exact Nat.lt_log2_self
theorem shiftZ_lt (V k : Nat) (n : Int) (h : (bitsN V : Int) + n ≤ k) : shiftZ V n < 2 ^ k := by
  have hV := lt_bitsN V
  unfold shiftZ
  by_cases h0 : 0 ≤ n
  · rw [if_pos h0]
    obtain ⟨m, rfl⟩ := Int.eq_ofNat_of_zero_le h0
    rw [Int.toNat_natCast]
    refine Nat.lt_of_lt_of_le ((Nat.mul_lt_mul_right (Nat.two_pow_pos m)).2 hV) ?_
    rw [← Nat.pow_add]
    exact Nat.pow_le_pow_right (by decide) (by omega)
  · rw [if_neg h0]
    obtain ⟨d, hd⟩ := Int.eq_ofNat_of_zero_le (a := -n) (by omega)
    rw [hd, Int.toNat_natCast]
    apply Nat.div_lt_of_lt_mul
    rw [← Nat.pow_add]
    exact Nat.lt_of_lt_of_le hV (Nat.pow_le_pow_right (by decide) (by omega))
theorem shiftZ_bit (V k j : Nat) (n : Int) (h : (k : Int) - n = (j : Int)) : shiftZ V n / 2 ^ k % 2 = V / 2 ^ j % 2 := by
  unfold shiftZ
  by_cases h0 : 0 ≤ n
  · rw [if_pos h0]
    obtain ⟨m, rfl⟩ := Int.eq_ofNat_of_zero_le h0
    rw [Int.toNat_natCast, show k = j + m by omega, Nat.pow_add, Nat.mul_div_mul_right _ _ (Nat.two_pow_pos m)]
  · rw [if_neg h0]
    obtain ⟨d, hd⟩ := Int.eq_ofNat_of_zero_le (a := -n) (by omega)
    rw [hd, Int.toNat_natCast, Nat.div_div_eq_div_mul, ← Nat.pow_add, show d + k = j by omega]
theorem shiftZ_bit0 (V k : Nat) (n : Int) (h : (k : Int) < n) : shiftZ V n / 2 ^ k % 2 = 0 := by
  unfold shiftZ
  rw [if_pos (by omega)]
  obtain ⟨m, rfl⟩ := Int.eq_ofNat_of_zero_le (a := n) (by omega)
  rw [Int.toNat_natCast, show m = (m - k - 1) + 1 + k by omega, Nat.pow_add, ← Nat.mul_assoc, Nat.mul_div_cancel _ (Nat.two_pow_pos k), Nat.pow_succ, ← Nat.mul_assoc]
  omega

/-- What the reference's shift has told behind k binary digits. -/
structure BitsTo (X k c : Nat) (t : List Nat) : Prop where
  ok : Ok t
  len : t.length = c
  sum : val t = X % 2 ^ k
theorem BitsTo.start (X : Nat) : BitsTo X 0 0 [] := ⟨Ok.nil, rfl, by rw [val_nil, Nat.pow_zero, Nat.mod_one]⟩
theorem BitsTo.more {X k c : Nat} {t : List Nat} (h : BitsTo X k c t) : BitsTo X k (c + 1) (t ++ [0]) :=
  ⟨h.ok.append (Ok.cons (by decide) Ok.nil), by rw [List.length_append, h.len]; rfl, by rw [val_append, h.sum, val_cons, val_nil]; simp⟩
theorem BitsTo.zero {X k c : Nat} {t : List Nat} (h : BitsTo X k c t) (hb : X / 2 ^ k % 2 = 0) : BitsTo X (k + 1) c t :=
  ⟨h.ok, h.len, by rw [h.sum, Nat.mod_pow_succ, hb, Nat.mul_zero, Nat.add_zero]⟩
theorem BitsTo.digit {X k q s c : Nat} {t : List Nat} (h : BitsTo X k c t) (hq : q < c) (hk : k = 32 * q + s) : t.getD q 0 < 2 ^ s := by
  have hv : val t < 2 ^ k := by rw [h.sum]; exact Nat.mod_lt _ (Nat.two_pow_pos k)
  rw [hk, ← pow_limb] at hv
  have hd := val_drop t q (by rw [h.len]; exact hq)
  have h1 : val (t.drop q) < 2 ^ s := by
    rw [val_drop_div h.ok]
    exact Nat.div_lt_of_lt_mul hv
  omega
theorem BitsTo.step {X k q s c b x : Nat} {t : List Nat} (h : BitsTo X k c t) (hq : q < c) (hk : k = 32 * q + s) (hc : c = q + 1) (hs : s < 32) (hb : X / 2 ^ k % 2 = b) (hx : x = t.getD q 0 + b * 2 ^ s) : BitsTo X (k + 1) c (t.set q x) := by
  have hdig := h.digit hq hk
  have hb1 : b ≤ 1 := by omega
  have hbs : b * 2 ^ s ≤ 1 * 2 ^ s := Nat.mul_le_mul_right _ hb1
  have hp : 2 ^ s * 2 ≤ 4294967296 := by
    rw [← Nat.pow_succ]
    exact (Nat.pow_le_pow_right (by decide) (by omega) : 2 ^ (s + 1) ≤ 2 ^ 32)
  refine ⟨h.ok.set _ _ (by omega), by rw [List.length_set]; exact h.len, ?_⟩
  rw [Nat.mod_pow_succ, hb, ← h.sum]
  have hz : ∀ j, q + 1 ≤ j → t.getD j 0 = 0 := fun j hj => by
    rw [List.getD_eq_getElem?_getD, List.getElem?_eq_none (by rw [h.len]; omega)]; rfl
  have hz' : ∀ j, q + 1 ≤ j → (t.set q x).getD j 0 = 0 := fun j hj => by rw [getD_set_ne _ _ _ _ (by omega)]; exact hz j hj
  rw [val_of_zeros hz', val_of_zeros hz]
  simp only [valF]
  rw [getD_set_eq _ _ _ (by rw [h.len]; exact hq), valF_congr _ (fun i => t.getD i 0) q (fun j hj => getD_set_ne _ _ _ _ (by omega)), hx, Nat.mul_add, hk, ← pow_limb]
  rw [Nat.mul_comm b, Nat.mul_assoc]
  omega
end Go.Proofs.YtgcgifehpbjglaaDoor
