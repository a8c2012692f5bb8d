/- A number's text and the number that it says: plain mathematics. -/
import Derived.Test.YtfjanomjmlcgaaaDoorParse3
import Derived.Test.YtfjanomjmlcgaaaDoorDec
set_option linter.unusedVariables false
set_option linter.unusedSimpArgs false
namespace Go.Proofs.YtfjanomjmlcgaaaDoor

/-- The number that letters say, the lowest first. -/
def numR : List UInt8 → Nat
  | [] => 0
  | c :: l => (c.toNat - 48) + 10 * numR l
theorem numR_snoc (l : List UInt8) (c : UInt8) : numR (l ++ [c]) = numR l + 10 ^ l.length * (c.toNat - 48) := by
  induction l with
  | nil => simp [numR]
  | cons a l ih =>
    simp only [List.cons_append, numR, List.length_cons]
    rw [ih, Nat.pow_succ, Nat.mul_add, Nat.mul_comm (10 ^ l.length) 10, Nat.mul_assoc]
    omega
theorem numP_take (t : ByteArray) (i : Nat) (h : i ≤ t.size) : numP t i = numR (t.data.toList.take i).reverse := by
  have hl : t.data.toList.length = t.size := by cases t; rfl
  induction i with
  | zero => rfl
  | succ i ih =>
    have hg : t.data.toList.take (i + 1) = t.data.toList.take i ++ [t.data.toList.getD i 0] := by
      rw [List.take_succ_eq_append_getElem (by omega), List.getD_eq_getElem?_getD, List.getElem?_eq_getElem (by omega)]
      rfl
    rw [hg, List.reverse_append]
    simp only [numP, List.reverse_cons, List.reverse_nil, List.nil_append, List.cons_append, numR]
    rw [ih (by omega)]
    unfold let8
    omega
theorem numP_all (t : ByteArray) : numP t t.size = numR t.data.toList.reverse := by
  have hl : t.data.toList.length = t.size := by cases t; rfl
  rw [numP_take t t.size (Nat.le_refl _), List.take_of_length_le (by omega)]
theorem numR_decR (x : Nat) : numR (decR x) = x := by
  induction x using Nat.strongRecOn with
  | _ x ih =>
    rcases Nat.eq_zero_or_pos x with h | h
    · rw [h]; rfl
    · rw [decR_pos h]
      simp only [numR]
      rw [ih (x / 10) (by omega), digB_toNat]
      omega
theorem numR_dec (x : Nat) : numR (dec x).reverse = x := by
  unfold dec
  by_cases h : x = 0
  · rw [if_pos h, h]; rfl
  · rw [if_neg h, List.reverse_reverse]; exact numR_decR x

/-- Letters that are digits, the lowest first, the highest no nought, are their number's. -/
theorem decR_numR (l : List UInt8) (hd : ∀ c ∈ l, 48 ≤ c.toNat ∧ c.toNat ≤ 57) (hz : ∀ r c, l = r ++ [c] → c ≠ 48) : decR (numR l) = l := by
  induction l with
  | nil => rfl
  | cons c l ih =>
    have hc := hd c (List.mem_cons_self ..)
    have hpos : 0 < numR (c :: l) := by
      have hgen : ∀ l : List UInt8, l ≠ [] → (∀ c ∈ l, 48 ≤ c.toNat ∧ c.toNat ≤ 57) → (∀ r c, l = r ++ [c] → c ≠ 48) → 0 < numR l := by
        intro l hne hd hz
        have e := (List.dropLast_concat_getLast hne).symm
        have h1 := hz _ _ e
        have h2 := hd (l.getLast hne) (List.getLast_mem hne)
        have h3 : (l.getLast hne).toNat ≠ 48 := fun h => h1 (UInt8.toNat_inj.1 (by rw [h]; rfl))
        rw [e, numR_snoc]
        have : 10 ^ l.dropLast.length * 1 ≤ 10 ^ l.dropLast.length * ((l.getLast hne).toNat - 48) := Nat.mul_le_mul_left _ (by omega)
        have hp : 0 < 10 ^ l.dropLast.length := Nat.pow_pos (by decide)
        omega
      exact hgen _ (by simp) hd hz
    rw [decR_pos hpos]
    have hm : numR (c :: l) % 10 = c.toNat - 48 := by simp only [numR]; omega
    have hq : numR (c :: l) / 10 = numR l := by simp only [numR]; omega
    rw [hq, ih (fun x hx => hd x (List.mem_cons_of_mem _ hx)) (fun r x e => hz (c :: r) x (by rw [e]; rfl))]
    congr 1
    apply UInt8.toNat_inj.1
    rw [digB_toNat, hm]
    omega

theorem dec_digits (x : Nat) : ∀ c ∈ decR x, 48 ≤ c.toNat ∧ c.toNat ≤ 57 := by
  induction x using Nat.strongRecOn with
  | _ x ih =>
    rcases Nat.eq_zero_or_pos x with h | h
    · rw [h]; intro c hc; cases hc
    · rw [decR_pos h]
      intro c hc
      rcases List.mem_cons.1 hc with h1 | h1
      · rw [h1, digB_toNat]; omega
      · exact ih (x / 10) (by omega) c h1
theorem decR_length {x k : Nat} (h : x < 10 ^ k) : (decR x).length ≤ k := by
  induction k generalizing x with
  | zero => have : x = 0 := by simpa using h
            rw [this]; exact Nat.le_refl _
  | succ k ih =>
    rcases Nat.eq_zero_or_pos x with h0 | h0
    · rw [h0]; exact Nat.zero_le _
    · rw [decR_pos h0]
      have := ih (x := x / 10) (Nat.div_lt_of_lt_mul (by rw [Nat.pow_succ, Nat.mul_comm] at h; exact h))
      simp only [List.length_cons]
      omega

/-- The text of a number. -/
def textOf (x : Nat) : ByteArray := ⟨(dec x).toArray⟩
theorem textOf_size (x : Nat) : (textOf x).size = (dec x).length := by show (dec x).toArray.size = _; simp
theorem let8_textOf (x i : Nat) : let8 (textOf x) i = ((dec x).getD i 0).toNat := by
  unfold let8 textOf; rfl
theorem textOf_num (x : Nat) : numP (textOf x) (textOf x).size = x := by
  rw [numP_all]
  exact numR_dec x
theorem dec_mem (x : Nat) : ∀ c ∈ dec x, 48 ≤ c.toNat ∧ c.toNat ≤ 57 := by
  unfold dec
  by_cases h : x = 0
  · rw [if_pos h]; intro c hc
    rw [List.mem_singleton.1 hc]
    exact ⟨by decide, by decide⟩
  · rw [if_neg h]; intro c hc
    exact dec_digits x c (List.mem_reverse.1 hc)
theorem textOf_numeral (x : Nat) : Numeral (textOf x) := by
  refine ⟨?_, ?_, ?_⟩
  · rw [textOf_size]
    unfold dec
    by_cases h : x = 0
    · rw [if_pos h]; decide
    · rw [if_neg h, decR_pos (by omega)]; simp
  · rintro ⟨h1, h2⟩
    rw [textOf_size] at h2
    rw [let8_textOf] at h1
    unfold dec at h1 h2
    by_cases h : x = 0
    · rw [if_pos h] at h2; simp at h2
    · rw [if_neg h] at h1
      obtain ⟨l, c, e, hc⟩ := decR_last (n := x) (by omega)
      rw [e, List.reverse_append] at h1
      simp only [List.reverse_cons, List.reverse_nil, List.nil_append, List.cons_append, List.getD_cons_zero] at h1
      exact hc (UInt8.toNat_inj.1 (by rw [h1]; rfl))
  · intro i hi
    rw [textOf_size] at hi
    rw [let8_textOf, List.getD_eq_getElem?_getD, List.getElem?_eq_getElem hi]
    exact dec_mem x _ (List.getElem_mem hi)
/-- A number's text is the text of the number that it says. -/
theorem numeral_text {t : ByteArray} (h : Numeral t) : dec (numP t t.size) = t.data.toList := by
  have hl : t.data.toList.length = t.size := by cases t; rfl
  have hdig : ∀ c ∈ t.data.toList, 48 ≤ c.toNat ∧ c.toNat ≤ 57 := by
    intro c hc
    obtain ⟨i, hi, e⟩ := List.mem_iff_getElem.1 hc
    have := h.2.2 i (by omega)
    unfold let8 at this
    rw [List.getD_eq_getElem?_getD, List.getElem?_eq_getElem hi, e] at this
    exact this
  rw [numP_all]
  by_cases h1 : t.size = 1 ∧ let8 t 0 = 48
  · obtain ⟨h1, h2⟩ := h1
    unfold let8 at h2
    generalize t.data.toList = l at *
    match l, hl, h2 with
    | [], hl, _ => simp at hl; omega
    | [c], hl, h2 =>
      have hc : c = 48 := UInt8.toNat_inj.1 (by simpa using h2)
      subst hc
      rfl
    | c :: d :: r, hl, h2 => simp at hl; omega
  · have hr := decR_numR t.data.toList.reverse (fun c hc => hdig c (List.mem_reverse.1 hc)) (fun r c e hc => by
      have e2 := congrArg List.reverse e
      rw [List.reverse_reverse, List.reverse_append] at e2
      simp only [List.reverse_cons, List.reverse_nil, List.nil_append, List.cons_append] at e2
      have h0 : let8 t 0 = 48 := by unfold let8; rw [e2, hc]; rfl
      have := h.2.1
      have h3 := h.1
      omega)
    have hne : numR t.data.toList.reverse ≠ 0 := by
      intro e
      rw [e, decR_zero] at hr
      have := congrArg List.length hr
      simp at this
      have h3 := h.1
      omega
    unfold dec
    rw [if_neg hne, hr, List.reverse_reverse]
theorem numP_lt (t : ByteArray) (i : Nat) (h : AllDig t i) : numP t i < 10 ^ i := by
  induction i with
  | zero => exact Nat.one_pos
  | succ i ih =>
    have h1 := ih (fun j hj => h j (by omega))
    have h2 := h i (by omega)
    simp only [numP]
    rw [Nat.pow_succ]
    omega
theorem pow_ten_bin (k : Nat) : 10 ^ k ≤ 2 ^ (4 * k) := by
  rw [Nat.pow_mul]
  exact Nat.pow_le_pow_left (by decide) k
theorem pow_bin_ten (k : Nat) : 4294967296 ^ k ≤ 10 ^ (10 * k) := by
  rw [Nat.pow_mul]
  exact Nat.pow_le_pow_left (by decide) k
end Go.Proofs.YtfjanomjmlcgaaaDoor
