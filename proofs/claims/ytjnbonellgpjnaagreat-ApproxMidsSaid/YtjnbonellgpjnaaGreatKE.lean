/- nat.isNumeral by its contract. nat.timesPlus by its contract. nat.Parse by its contract. A number's text and the number that it says: plain mathematics. The document's Parse by its contract. The document's Parse of a number's text. -/
import Derived.Test.YtjnbonellgpjnaaGreatKC
import Derived.Test.YtjnbonellgpjnaaGreatKD
import Derived.Test.YtjnbonellgpjnaaGreatKA
set_option linter.unusedVariables false
set_option linter.unusedSimpArgs false
namespace Go.Proofs.YtjnbonellgpjnaaGreat
open Go.RowKit

/-- The i-th letter's number. -/
def let8 (t : ByteArray) (i : Nat) : Nat := (t.data.toList.getD i 0).toNat
theorem let8_at (t : ByteArray) (i : Nat) (h : i < t.size) : (t[i]'h).toNat = let8 t i := by
  have h2 : i < t.data.size := h
  unfold let8
  rw [List.getD_eq_getElem?_getD, Array.getElem?_toList, Array.getElem?_eq_getElem h2]
  rfl
theorem let8_lt (t : ByteArray) (i : Nat) : let8 t i < 256 := by
  unfold let8
  exact (t.data.toList.getD i 0).toNat_lt
/-- Digits alone. -/
def AllDig (t : ByteArray) (k : Nat) : Prop := ∀ i, i < k → 48 ≤ let8 t i ∧ let8 t i ≤ 57
theorem AllDig.succ {t : ByteArray} {k : Nat} (h : AllDig t k) (h1 : 48 ≤ let8 t k) (h2 : let8 t k ≤ 57) : AllDig t (k + 1) := fun i hi => by
  rcases Nat.lt_or_ge i k with h3 | h3
  · exact h i h3
  · obtain rfl : i = k := by omega
    exact ⟨h1, h2⟩
/-- A number's text. -/
def Numeral (t : ByteArray) : Prop := 0 < t.size ∧ ¬ (let8 t 0 = 48 ∧ 1 < t.size) ∧ AllDig t t.size

theorem size_list (t : ByteArray) : t.toList.length = t.size := by rw [ByteArray.toList_eq]; cases t; rfl
theorem zero_text (t : ByteArray) (h0 : 0 < t.size) (h : let8 t 0 = 48) : (t.toList == [48]) = decide (t.size = 1) := by
  have hl := size_list t
  rw [ByteArray.toList_eq] at hl ⊢
  unfold let8 at h
  generalize t.data.toList = l at *
  match l, hl, h with
  | [], hl, _ => simp at hl; omega
  | [c], hl, h =>
    have hc : c = 48 := UInt8.toNat_inj.1 (by simpa using h)
    subst hc
    simp at hl
    rw [← hl]; rfl
  | c :: d :: r, hl, h =>
    have h1 : ¬ t.size = 1 := by rw [← hl]; simp
    rw [decide_eq_false h1]
    simp

/-- What isNumeral answers. -/
def NumeralIs (t : ByteArray) (w : World) (e : Ending) (w' : World) : Prop := ∃ b : Bool, e = .returned (.bool b) ∧ (b = true ↔ Numeral t) ∧ w = w'

end Go.Proofs.YtjnbonellgpjnaaGreat

set_option linter.unusedVariables false
set_option linter.unusedSimpArgs false
namespace Go.Proofs.YtjnbonellgpjnaaGreat
open Go.RowKit

/-- What multiplying in place has done behind k limbs: the carry is c. -/
structure TimesTo (s : List Nat) (f c0 k : Nat) (t : List Nat) (c : Nat) : Prop where
  part : Part s t 0 k
  lt : c < 4294967296
  sum : valF (fun i => t.getD i 0) k + 4294967296 ^ k * c = valF (fun i => s.getD i 0) k * f + c0
theorem TimesTo.start {s : List Nat} (h : Ok s) (f c0 : Nat) (hc : c0 < 4294967296) : TimesTo s f c0 0 s c0 := ⟨Part.refl h 0, hc, by simp [valF]⟩
theorem TimesTo.step {s t : List Nat} {f c0 k c : Nat} (h : TimesTo s f c0 k t c) (hk : k < s.length) (x d : Nat) (hx : x < 4294967296) (hd : d < 4294967296) (e : s.getD k 0 * f + c = x + 4294967296 * d) : TimesTo s f c0 (k + 1) (t.set k x) d := by
  have hp := h.part.set x hx
  rw [Nat.zero_add] at hp
  refine ⟨hp, hd, ?_⟩
  simp only [valF]
  rw [getD_set_eq _ _ _ (by rw [h.part.len]; exact hk), valF_congr _ (fun i => t.getD i 0) k (fun i hi => getD_set_ne _ _ _ _ (by omega)), Nat.pow_succ, Nat.mul_assoc, Nat.add_mul, Nat.mul_assoc]
  have h1 := h.sum
  have h2 := congrArg (4294967296 ^ k * ·) e
  simp only [Nat.mul_add] at h2
  omega
theorem TimesTo.total {s t : List Nat} {f c0 c : Nat} (h : TimesTo s f c0 s.length t c) : t.length = s.length ∧ Ok t ∧ val t + 4294967296 ^ s.length * c = val s * f + c0 := by
  have hs := h.sum
  rw [← val_valF t s.length (by rw [h.part.len]; exact Nat.le_refl _), ← val_valF s s.length (Nat.le_refl _)] at hs
  exact ⟨h.part.len, h.part.ok, hs⟩

theorem enc_set' (l : List Nat) (i x : Nat) : (enc l).set i (.int .u32 (x : Nat)) = enc (l.set i x) := by
  simp [enc, List.map_set]

/-- What is owned is a slice, with an address if it has an element. -/
theorem owns_shape {w : World} {base n : Nat} {v : Value} {l : List Nat} (h : w.ownsRow base 98 1 v n (enc l)) : ∃ A cap, v = .slice A n cap ∧ (0 < n → ∃ g, A = some ⟨g, 0, none⟩) := by
  rcases h.2 with ⟨h2, h3⟩ | ⟨g, cap, cur, h2, _⟩
  · exact ⟨none, 0, by rw [h2, h3], fun h => absurd h (by omega)⟩
  · exact ⟨some ⟨g, 0, none⟩, cap, h2, fun _ => ⟨g, rfl⟩⟩

/-- What timesPlus returns. -/
def TimesPlus (base : Nat) (w : World) (x n : Nat) (e : Ending) (w' : World) : Prop :=
  ∃ v t n', e = .returned v ∧ w'.ownsRow base 98 1 v n' (enc t) ∧ Ok t ∧ val t = x ∧ n' ≤ n + 1 ∧ Below base w w'

end Go.Proofs.YtjnbonellgpjnaaGreat

set_option linter.unusedVariables false
set_option linter.unusedSimpArgs false
namespace Go.Proofs.YtjnbonellgpjnaaGreat
open Go.RowKit

/-- The number that the first i letters say. -/
def numP (t : ByteArray) : Nat → Nat
  | 0 => 0
  | i + 1 => numP t i * 10 + (let8 t i - 48)

/-- What Parse has behind i letters: a list of limbs, a group of m digits. -/
structure ReadTo (t : ByteArray) (i m grp size : Nat) (a : List Nat) : Prop where
  ok : Ok a
  pw : size = 10 ^ m
  lt : grp < size
  sum : val a * size + grp = numP t i

theorem pow_ten_le (m : Nat) (h : m ≤ 9) : 10 ^ m ≤ 1000000000 := Nat.le_trans (Nat.pow_le_pow_right (by decide) h) (by decide)
theorem ReadTo.start (t : ByteArray) : ReadTo t 0 0 0 1 [] := ⟨Ok.nil, rfl, by decide, rfl⟩
theorem ReadTo.digit {t : ByteArray} {i m grp size x : Nat} {a : List Nat} (h : ReadTo t i m grp size a) (hx : let8 t i = x) (h1 : 48 ≤ x) (h2 : x ≤ 57) : ReadTo t (i + 1) (m + 1) (grp * 10 + (x - 48)) (size * 10) a := by
  refine ⟨h.ok, by rw [h.pw, Nat.pow_succ], by have := h.lt; omega, ?_⟩
  have hs := h.sum
  simp only [numP]
  rw [hx, ← hs, ← Nat.mul_assoc, Nat.add_mul]
  omega
theorem ReadTo.flush {t : ByteArray} {i m grp size : Nat} {a b : List Nat} (h : ReadTo t i m grp size a) (hb : Ok b) (hv : val b = val a * size + grp) : ReadTo t i 0 0 1 b :=
  ⟨hb, rfl, by decide, by rw [hv, h.sum]; omega⟩

end Go.Proofs.YtjnbonellgpjnaaGreat

set_option linter.unusedVariables false
set_option linter.unusedSimpArgs false
namespace Go.Proofs.YtjnbonellgpjnaaGreat

/-- The number that letters say, the lowest first. -/
def numR : List UInt8 → Nat
  | [] => 0
  | c :: l => (c.toNat - 48) + 10 * numR l
theorem numR_snoc (l : List UInt8) (c : UInt8) : numR (l ++ [c]) = numR l + 10 ^ l.length * (c.toNat - 48) := by
  induction l with
  | nil => simp [numR]
  | cons a l ih =>
    simp only [List.cons_append, numR, List.length_cons]
    rw [ih, Nat.pow_succ, Nat.mul_add, Nat.mul_comm (10 ^ l.length) 10, Nat.mul_assoc]
    omega
theorem numP_take (t : ByteArray) (i : Nat) (h : i ≤ t.size) : numP t i = numR (t.data.toList.take i).reverse := by
  have hl : t.data.toList.length = t.size := by cases t; rfl
  induction i with
  | zero => rfl
  | succ i ih =>
    have hg : t.data.toList.take (i + 1) = t.data.toList.take i ++ [t.data.toList.getD i 0] := by
      rw [List.take_succ_eq_append_getElem (by omega), List.getD_eq_getElem?_getD, List.getElem?_eq_getElem (by omega)]
      rfl
    rw [hg, List.reverse_append]
    simp only [numP, List.reverse_cons, List.reverse_nil, List.nil_append, List.cons_append, numR]
    rw [ih (by omega)]
    unfold let8
    omega
theorem numP_all (t : ByteArray) : numP t t.size = numR t.data.toList.reverse := by
  have hl : t.data.toList.length = t.size := by cases t; rfl
  rw [numP_take t t.size (Nat.le_refl _), List.take_of_length_le (by omega)]
theorem numR_decR (x : Nat) : numR (decR x) = x := by
  induction x using Nat.strongRecOn with
  | _ x ih =>
    rcases Nat.eq_zero_or_pos x with h | h
    · rw [h]; rfl
    · rw [decR_pos h]
      simp only [numR]
      rw [ih (x / 10) (by omega), digB_toNat]
      omega
theorem numR_dec (x : Nat) : numR (dec x).reverse = x := by
  unfold dec
  by_cases h : x = 0
  · rw [if_pos h, h]; rfl
  · rw [if_neg h, List.reverse_reverse]; exact numR_decR x

/-- Letters that are digits, the lowest first, the highest no nought, are their number's. -/
theorem decR_numR (l : List UInt8) (hd : ∀ c ∈ l, 48 ≤ c.toNat ∧ c.toNat ≤ 57) (hz : ∀ r c, l = r ++ [c] → c ≠ 48) : decR (numR l) = l := by
  induction l with
  | nil => rfl
  | cons c l ih =>
    have hc := hd c (List.mem_cons_self ..)
    have hpos : 0 < numR (c :: l) := by
      have hgen : ∀ l : List UInt8, l ≠ [] → (∀ c ∈ l, 48 ≤ c.toNat ∧ c.toNat ≤ 57) → (∀ r c, l = r ++ [c] → c ≠ 48) → 0 < numR l := by
        intro l hne hd hz
        have e := (List.dropLast_concat_getLast hne).symm
        have h1 := hz _ _ e
        have h2 := hd (l.getLast hne) (List.getLast_mem hne)
        have h3 : (l.getLast hne).toNat ≠ 48 := fun h => h1 (UInt8.toNat_inj.1 (by rw [h]; rfl))
        rw [e, numR_snoc]
        have : 10 ^ l.dropLast.length * 1 ≤ 10 ^ l.dropLast.length * ((l.getLast hne).toNat - 48) := Nat.mul_le_mul_left _ (by omega)
        have hp : 0 < 10 ^ l.dropLast.length := Nat.pow_pos (by decide)
        omega
      exact hgen _ (by simp) hd hz
    rw [decR_pos hpos]
    have hm : numR (c :: l) % 10 = c.toNat - 48 := by simp only [numR]; omega
    have hq : numR (c :: l) / 10 = numR l := by simp only [numR]; omega
    rw [hq, ih (fun x hx => hd x (List.mem_cons_of_mem _ hx)) (fun r x e => hz (c :: r) x (by rw [e]; rfl))]
    congr 1
    apply UInt8.toNat_inj.1
    rw [digB_toNat, hm]
    omega

theorem dec_digits (x : Nat) : ∀ c ∈ decR x, 48 ≤ c.toNat ∧ c.toNat ≤ 57 := by
  induction x using Nat.strongRecOn with
  | _ x ih =>
    rcases Nat.eq_zero_or_pos x with h | h
    · rw [h]; intro c hc; cases hc
    · rw [decR_pos h]
      intro c hc
      rcases List.mem_cons.1 hc with h1 | h1
      · rw [h1, digB_toNat]; omega
      · exact ih (x / 10) (by omega) c h1
theorem decR_length {x k : Nat} (h : x < 10 ^ k) : (decR x).length ≤ k := by
  induction k generalizing x with
  | zero => have : x = 0 := by simpa using h
            rw [this]; exact Nat.le_refl _
  | succ k ih =>
    rcases Nat.eq_zero_or_pos x with h0 | h0
    · rw [h0]; exact Nat.zero_le _
    · rw [decR_pos h0]
      have := ih (x := x / 10) (Nat.div_lt_of_lt_mul (by rw [Nat.pow_succ, Nat.mul_comm] at h; exact h))
      simp only [List.length_cons]
      omega

/-- The text of a number. -/
def textOf (x : Nat) : ByteArray := ⟨(dec x).toArray⟩
theorem textOf_size (x : Nat) : (textOf x).size = (dec x).length := by show (dec x).toArray.size = _; simp
theorem let8_textOf (x i : Nat) : let8 (textOf x) i = ((dec x).getD i 0).toNat := by
  unfold let8 textOf; rfl
theorem textOf_num (x : Nat) : numP (textOf x) (textOf x).size = x := by
  rw [numP_all]
  exact numR_dec x
theorem dec_mem (x : Nat) : ∀ c ∈ dec x, 48 ≤ c.toNat ∧ c.toNat ≤ 57 := by
  unfold dec
  by_cases h : x = 0
  · rw [if_pos h]; intro c hc
    rw [List.mem_singleton.1 hc]
    exact ⟨by decide, by decide⟩
  · rw [if_neg h]; intro c hc
    exact dec_digits x c (List.mem_reverse.1 hc)
theorem textOf_numeral (x : Nat) : Numeral (textOf x) := by
  refine ⟨?_, ?_, ?_⟩
  · rw [textOf_size]
    unfold dec
    by_cases h : x = 0
    · rw [if_pos h]; decide
    · rw [if_neg h, decR_pos (by omega)]; simp
  · rintro ⟨h1, h2⟩
    rw [textOf_size] at h2
    rw [let8_textOf] at h1
    unfold dec at h1 h2
    by_cases h : x = 0
    · rw [if_pos h] at h2; simp at h2
    · rw [if_neg h] at h1
      obtain ⟨l, c, e, hc⟩ := decR_last (n := x) (by omega)
      rw [e, List.reverse_append] at h1
      simp only [List.reverse_cons, List.reverse_nil, List.nil_append, List.cons_append, List.getD_cons_zero] at h1
      exact hc (UInt8.toNat_inj.1 (by rw [h1]; rfl))
  · intro i hi
    rw [textOf_size] at hi
    rw [let8_textOf, List.getD_eq_getElem?_getD, List.getElem?_eq_getElem hi]
    exact dec_mem x _ (List.getElem_mem hi)
/-- A number's text is the text of the number that it says. -/
theorem numeral_text {t : ByteArray} (h : Numeral t) : dec (numP t t.size) = t.data.toList := by
  have hl : t.data.toList.length = t.size := by cases t; rfl
  have hdig : ∀ c ∈ t.data.toList, 48 ≤ c.toNat ∧ c.toNat ≤ 57 := by
    intro c hc
    obtain ⟨i, hi, e⟩ := List.mem_iff_getElem.1 hc
    have := h.2.2 i (by omega)
    unfold let8 at this
    rw [List.getD_eq_getElem?_getD, List.getElem?_eq_getElem hi, e] at this
    exact this
  rw [numP_all]
  by_cases h1 : t.size = 1 ∧ let8 t 0 = 48
  · obtain ⟨h1, h2⟩ := h1
    unfold let8 at h2
    generalize t.data.toList = l at *
    match l, hl, h2 with
    | [], hl, _ => simp at hl; omega
    | [c], hl, h2 =>
      have hc : c = 48 := UInt8.toNat_inj.1 (by simpa using h2)
      subst hc
      rfl
    | c :: d :: r, hl, h2 => simp at hl; omega
  · have hr := decR_numR t.data.toList.reverse (fun c hc => hdig c (List.mem_reverse.1 hc)) (fun r c e hc => by
      have e2 := congrArg List.reverse e
      rw [List.reverse_reverse, List.reverse_append] at e2
      simp only [List.reverse_cons, List.reverse_nil, List.nil_append, List.cons_append] at e2
      have h0 : let8 t 0 = 48 := by unfold let8; rw [e2, hc]; rfl
      have := h.2.1
      have h3 := h.1
      omega)
    have hne : numR t.data.toList.reverse ≠ 0 := by
      intro e
      rw [e, decR_zero] at hr
      have := congrArg List.length hr
      simp at this
      have h3 := h.1
      omega
    unfold dec
    rw [if_neg hne, hr, List.reverse_reverse]
theorem numP_lt (t : ByteArray) (i : Nat) (h : AllDig t i) : numP t i < 10 ^ i := by
  induction i with
  | zero => exact Nat.one_pos
  | succ i ih =>
    have h1 := ih (fun j hj => h j (by omega))
    have h2 := h i (by omega)
    simp only [numP]
    rw [Nat.pow_succ]
    omega
theorem pow_ten_bin (k : Nat) : 10 ^ k ≤ 2 ^ (4 * k) := by
  rw [Nat.pow_mul]
  exact Nat.pow_le_pow_left (by decide) k
theorem pow_bin_ten (k : Nat) : 4294967296 ^ k ≤ 10 ^ (10 * k) := by
  rw [Nat.pow_mul]
  exact Nat.pow_le_pow_left (by decide) k
end Go.Proofs.YtjnbonellgpjnaaGreat

set_option linter.unusedVariables false
set_option linter.unusedSimpArgs false
namespace Go.Proofs.YtjnbonellgpjnaaGreat
open Go.RowKit

/-- A list of as many limbs as its number needs is the number's own. -/
theorem limbs_of_ge {t : List Nat} (hok : Ok t) (h : 0 < t.length → 4294967296 ^ (t.length - 1) ≤ val t) : limbs (val t) = t := by
  obtain ⟨h1, h2⟩ := limbs_prefix hok
  have h3 := val_lt (limbs_ok (val t))
  rw [val_limbs] at h3
  have h4 : t.length ≤ (limbs (val t)).length := by
    rcases Nat.eq_zero_or_pos t.length with h0 | h0
    · omega
    · have h5 := Nat.lt_of_le_of_lt (h h0) h3
      have h6 := (Nat.pow_lt_pow_iff_right (by decide)).1 h5
      omega
  rw [h1, List.take_of_length_le h4]
theorem limbs_ge {x : Nat} (h : 0 < x) : 4294967296 ^ ((limbs x).length - 1) ≤ x := by
  have hp := (limbs_last h).1
  have e := val_split (limbs x) ((limbs x).length - 1) (by omega)
  rw [val_limbs, val_drop _ _ (by omega)] at e
  have hn := (limbs_last h).2
  have : 4294967296 ^ ((limbs x).length - 1) * 1 ≤ 4294967296 ^ ((limbs x).length - 1) * ((limbs x).getD ((limbs x).length - 1) 0 + 4294967296 * val ((limbs x).drop ((limbs x).length - 1 + 1))) := Nat.mul_le_mul_left _ (by omega)
  omega
/-- Ten times a number and a digit, in place: the carry is appended if there is one. -/
theorem times_limbs {x d c : Nat} {t : List Nat} (h : TimesTo (limbs x) 10 d (limbs x).length t c) (hd : x = 0 → True) :
    (c = 0 → limbs (x * 10 + d) = t) ∧ (0 < c → limbs (x * 10 + d) = t ++ [c]) := by
  obtain ⟨h1, h2, h3⟩ := h.total
  rw [val_limbs] at h3
  constructor
  · intro hc
    rw [hc, Nat.mul_zero, Nat.add_zero] at h3
    rw [← h3]
    apply limbs_of_ge h2
    intro hl
    rw [h1] at hl ⊢
    have hx : 0 < x := by
      rcases Nat.eq_zero_or_pos x with h0 | h0
      · rw [h0] at hl; simp [limbs_zero] at hl
      · exact h0
    have := limbs_ge hx
    omega
  · intro hc
    have hv : val (t ++ [c]) = x * 10 + d := by
      rw [val_append, val_cons, val_nil, Nat.mul_zero, Nat.add_zero, h1]; exact h3
    rw [← hv]
    apply limbs_of_ge (h2.append (Ok.cons h.lt Ok.nil))
    intro _
    rw [hv, List.length_append, h1]
    simp only [List.length_cons, List.length_nil, Nat.zero_add, Nat.add_sub_cancel]
    have : 4294967296 ^ (limbs x).length * 1 ≤ 4294967296 ^ (limbs x).length * c := Nat.mul_le_mul_left _ hc
    omega

theorem ref_parse_first (t : ByteArray) (w : World) (ht : t.size ≤ 140737488355328) (h : t.size = 0 ∨ (0 < t.size ∧ let8 t 0 = 48 ∧ 1 < t.size)) :
    Calls Tryz.prog 52 #[.string t] w fun e w' => e = .returned (.tuple #[.slice none 0 0, .int .i64 10]) ∧ w = w' := by
  rcases h with h | ⟨h0, h1, h2⟩
  · have hE : t.toList = [] := List.eq_nil_of_length_eq_zero (by rw [size_list]; omega)
    have hE2 : t.toList.isEmpty = true := by rw [hE]; rfl
    clear h
    go_enter Tryz.func52, Tryz.ntmps52
    go_wp2
    go_ret2
    exact ⟨rfl, rfl⟩
  · have hE : ¬ t.toList = [] := fun e => by have := size_list t; rw [e] at this; simp at this; omega
    have hE2 : t.toList.isEmpty = false := by rw [List.isEmpty_eq_false_iff]; exact hE
    have hx0 := let8_at t 0 h0
    rw [h1] at hx0
    have H1 := hid h1
    clear h1
    go_enter Tryz.func52, Tryz.ntmps52
    go_wp2
    go_ret2
    exact ⟨rfl, rfl⟩


set_option maxRecDepth 100000 in
set_option maxHeartbeats 3000000 in
theorem ref_parse_bad (t : ByteArray) (w : World) (ht : t.size ≤ 140737488355328) (h0 : 0 < t.size) (h1 : ¬ (let8 t 0 = 48 ∧ 1 < t.size)) (hq : ¬ AllDig t t.size) :
    Calls Tryz.prog 52 #[.string t] w fun e w' => e = .returned (.tuple #[.slice none 0 0, .int .i64 10]) ∧ w = w' := by
  have hE : ¬ t.toList = [] := fun e => by have := size_list t; rw [e] at this; simp at this; omega
  have hE2 : t.toList.isEmpty = false := by rw [List.isEmpty_eq_false_iff]; exact hE
  have hx0 := let8_at t 0 h0
  obtain ⟨x0, hx0e⟩ : ∃ x0, let8 t 0 = x0 := ⟨_, rfl⟩
  rw [hx0e] at hx0 h1
  have HX0 := hid hx0e
  clear hx0e
  have HHYP := hid hq
  clear hq
  by_cases h48 : x0 = 48
  · have hs1 : t.size = 1 := by omega
    subst h48
    clear h1
    go_enter Tryz.func52, Tryz.ntmps52
    go_wp2
    go_loop [4] (fun v => ∃ k : Nat, k ≤ t.size ∧ v = .int .i64 k ∧ Hid (AllDig t k)) (fun v => t.size - (intOf v).toNat)
    case atStart => exact ⟨0, Nat.zero_le _, rfl, fun i hi => absurd hi (by omega)⟩
    case round =>
      obtain ⟨k, hk, rfl, hd⟩ := hrel
      by_cases hks : k < t.size
      · have hx := let8_at t k hks
        have hxl := let8_lt t k
        have hall := hd.out.succ
        have HALL := hid hall
        obtain ⟨x, hxe⟩ : ∃ x, let8 t k = x := ⟨_, rfl⟩
        rw [hxe] at hx hxl HALL
        have HXE := hid hxe
        clear hxe hall
        by_cases hlo : x < 48
        · go_wp2
          go_ret2
          exact ⟨rfl, rfl⟩
        · by_cases hhi : 57 < x
          · go_wp2
            go_ret2
            exact ⟨rfl, rfl⟩
          · have HD := hid (HALL.out (by omega) (by omega))
            go_wp2
            go_round
            case rel => exact ⟨k + 1, by omega, by go_num, HD⟩
            case measure => simp [intOf]; omega
      · obtain rfl : k = t.size := by omega
        exact absurd hd.out HHYP.out
  · clear h1
    go_enter Tryz.func52, Tryz.ntmps52
    go_wp2
    go_loop [4] (fun v => ∃ k : Nat, k ≤ t.size ∧ v = .int .i64 k ∧ Hid (AllDig t k)) (fun v => t.size - (intOf v).toNat)
    case atStart => exact ⟨0, Nat.zero_le _, rfl, fun i hi => absurd hi (by omega)⟩
    case round =>
      obtain ⟨k, hk, rfl, hd⟩ := hrel
      by_cases hks : k < t.size
      · have hx := let8_at t k hks
        have hxl := let8_lt t k
        have hall := hd.out.succ
        have HALL := hid hall
        obtain ⟨x, hxe⟩ : ∃ x, let8 t k = x := ⟨_, rfl⟩
        rw [hxe] at hx hxl HALL
        have HXE := hid hxe
        clear hxe hall
        by_cases hlo : x < 48
        · go_wp2
          go_ret2
          exact ⟨rfl, rfl⟩
        · by_cases hhi : 57 < x
          · go_wp2
            go_ret2
            exact ⟨rfl, rfl⟩
          · have HD := hid (HALL.out (by omega) (by omega))
            go_wp2
            go_round
            case rel => exact ⟨k + 1, by omega, by go_num, HD⟩
            case measure => simp [intOf]; omega
      · obtain rfl : k = t.size := by omega
        exact absurd hd.out HHYP.out

set_option maxRecDepth 100000 in
set_option maxHeartbeats 3000000 in
theorem ref_parse_long (t : ByteArray) (w : World) (ht : t.size ≤ 140737488355328) (h0 : 0 < t.size) (h1 : ¬ (let8 t 0 = 48 ∧ 1 < t.size)) (hq : AllDig t t.size ∧ 10000 < t.size) :
    Calls Tryz.prog 52 #[.string t] w fun e w' => e = .returned (.tuple #[.slice none 0 0, .int .i64 2]) ∧ w = w' := by
  have hE : ¬ t.toList = [] := fun e => by have := size_list t; rw [e] at this; simp at this; omega
  have hE2 : t.toList.isEmpty = false := by rw [List.isEmpty_eq_false_iff]; exact hE
  have hx0 := let8_at t 0 h0
  obtain ⟨x0, hx0e⟩ : ∃ x0, let8 t 0 = x0 := ⟨_, rfl⟩
  rw [hx0e] at hx0 h1
  have HX0 := hid hx0e
  clear hx0e
  have HHYP := hid hq
  clear hq
  by_cases h48 : x0 = 48
  · have hs1 : t.size = 1 := by omega
    subst h48
    clear h1
    go_enter Tryz.func52, Tryz.ntmps52
    go_wp2
    go_loop [4] (fun v => ∃ k : Nat, k ≤ t.size ∧ v = .int .i64 k ∧ Hid (AllDig t k)) (fun v => t.size - (intOf v).toNat)
    case atStart => exact ⟨0, Nat.zero_le _, rfl, fun i hi => absurd hi (by omega)⟩
    case round =>
      obtain ⟨k, hk, rfl, hd⟩ := hrel
      by_cases hks : k < t.size
      · have hx := let8_at t k hks
        have hxl := let8_lt t k
        have hall := hd.out.succ
        have HALL := hid hall
        obtain ⟨x, hxe⟩ : ∃ x, let8 t k = x := ⟨_, rfl⟩
        rw [hxe] at hx hxl HALL
        have HXE := hid hxe
        clear hxe hall
        by_cases hlo : x < 48
        · exact absurd (HHYP.out.1 k hks).1 (by have := HXE.out; omega)
        · by_cases hhi : 57 < x
          · exact absurd (HHYP.out.1 k hks).2 (by have := HXE.out; omega)
          · have HD := hid (HALL.out (by omega) (by omega))
            go_wp2
            go_round
            case rel => exact ⟨k + 1, by omega, by go_num, HD⟩
            case measure => simp [intOf]; omega
      · obtain rfl : k = t.size := by omega
        have hlong := HHYP.out.2
        first | (exfalso; omega) | (go_wp2; go_ret2; exact ⟨rfl, rfl⟩)
  · clear h1
    go_enter Tryz.func52, Tryz.ntmps52
    go_wp2
    go_loop [4] (fun v => ∃ k : Nat, k ≤ t.size ∧ v = .int .i64 k ∧ Hid (AllDig t k)) (fun v => t.size - (intOf v).toNat)
    case atStart => exact ⟨0, Nat.zero_le _, rfl, fun i hi => absurd hi (by omega)⟩
    case round =>
      obtain ⟨k, hk, rfl, hd⟩ := hrel
      by_cases hks : k < t.size
      · have hx := let8_at t k hks
        have hxl := let8_lt t k
        have hall := hd.out.succ
        have HALL := hid hall
        obtain ⟨x, hxe⟩ : ∃ x, let8 t k = x := ⟨_, rfl⟩
        rw [hxe] at hx hxl HALL
        have HXE := hid hxe
        clear hxe hall
        by_cases hlo : x < 48
        · exact absurd (HHYP.out.1 k hks).1 (by have := HXE.out; omega)
        · by_cases hhi : 57 < x
          · exact absurd (HHYP.out.1 k hks).2 (by have := HXE.out; omega)
          · have HD := hid (HALL.out (by omega) (by omega))
            go_wp2
            go_round
            case rel => exact ⟨k + 1, by omega, by go_num, HD⟩
            case measure => simp [intOf]; omega
      · obtain rfl : k = t.size := by omega
        have hlong := HHYP.out.2
        first | (exfalso; omega) | (go_wp2; go_ret2; exact ⟨rfl, rfl⟩)
end Go.Proofs.YtjnbonellgpjnaaGreat

set_option linter.unusedVariables false
set_option linter.unusedSimpArgs false
namespace Go.Proofs.YtjnbonellgpjnaaGreat
open Go.RowKit

set_option maxRecDepth 100000 in
set_option maxHeartbeats 3000000 in
theorem ref_parse_ok (t : ByteArray) (w : World) (ht : t.size ≤ 140737488355328) (h0 : 0 < t.size) (h1 : ¬ (let8 t 0 = 48 ∧ 1 < t.size)) (hq : AllDig t t.size ∧ t.size ≤ 10000) :
    Calls Tryz.prog 52 #[.string t] w fun e w' => ∃ v, e = .returned (.tuple #[v, .int .i64 0]) ∧ Sees w' v (limbs (numP t t.size)) ∧ Below w.heap.size w w' := by
  have hE : ¬ t.toList = [] := fun e => by have := size_list t; rw [e] at this; simp at this; omega
  have hE2 : t.toList.isEmpty = false := by rw [List.isEmpty_eq_false_iff]; exact hE
  have hx0 := let8_at t 0 h0
  obtain ⟨x0, hx0e⟩ : ∃ x0, let8 t 0 = x0 := ⟨_, rfl⟩
  rw [hx0e] at hx0 h1
  have HX0 := hid hx0e
  clear hx0e
  have HHYP := hid hq
  obtain ⟨i0, hi0, hz0, hz1, hz2⟩ := info_parts info_u32
  clear hq
  by_cases h48 : x0 = 48
  · have hs1 : t.size = 1 := by omega
    subst h48
    clear h1
    go_enter Tryz.func52, Tryz.ntmps52
    go_wp2
    go_loop [4] (fun v => ∃ k : Nat, k ≤ t.size ∧ v = .int .i64 k ∧ Hid (AllDig t k)) (fun v => t.size - (intOf v).toNat)
    case atStart => exact ⟨0, Nat.zero_le _, rfl, fun i hi => absurd hi (by omega)⟩
    case round =>
      obtain ⟨k, hk, rfl, hd⟩ := hrel
      by_cases hks : k < t.size
      · have hx := let8_at t k hks
        have hxl := let8_lt t k
        have hall := hd.out.succ
        have HALL := hid hall
        obtain ⟨x, hxe⟩ : ∃ x, let8 t k = x := ⟨_, rfl⟩
        rw [hxe] at hx hxl HALL
        have HXE := hid hxe
        clear hxe hall
        by_cases hlo : x < 48
        · exact absurd (HHYP.out.1 k hks).1 (by have := HXE.out; omega)
        · by_cases hhi : 57 < x
          · exact absurd (HHYP.out.1 k hks).2 (by have := HXE.out; omega)
          · have HD := hid (HALL.out (by omega) (by omega))
            go_wp2
            go_round
            case rel => exact ⟨k + 1, by omega, by go_num, HD⟩
            case measure => simp [intOf]; omega
      · obtain rfl : k = t.size := by omega
        try clear hs1
        have hlong : ¬ 10000 < t.size := by have := HHYP.out.2; omega
        have hall := HHYP.out.1
        have HD := hid hall
        clear hd hall hk
        go_wp2
        go_loopw [5, 6] (fun v5 v6 wr => ∃ (i n : Nat) (a : List Nat), i ≤ t.size ∧ v6 = .int .i64 i ∧ n ≤ i ∧ Hid (limbs (numP t i) = a) ∧ Hid (wr.ownsRow w.heap.size 98 1 v5 n (enc a)) ∧ Hid (Below w.heap.size w wr)) (fun _ v _ => t.size - (intOf v).toNat)
        case atStart => exact ⟨0, 0, [], Nat.zero_le _, rfl, Nat.le_refl _, rfl, World.ownsRow_nil _ _ _ _, Below.refl _ _⟩
        case round =>
          obtain ⟨i, n, a, hi, rfl, hn, hav, hown, hbel⟩ := hrel
          rename World => wo
          by_cases hlt : i < t.size
          · have hx := let8_at t i hlt
            have hdig := HD.out i hlt
            obtain ⟨x, hxe⟩ : ∃ x, let8 t i = x := ⟨_, rfl⟩
            rw [hxe] at hx hdig
            obtain ⟨hd1, hd2⟩ := hdig
            obtain ⟨y, hy⟩ : ∃ y, y = x - 48 := ⟨_, rfl⟩
            have ey : (x : Int) - 48 = (y : Int) := by omega
            have hy9 : y ≤ 9 := by omega
            have HNUM : Hid (numP t (i + 1) = numP t i * 10 + y) := by show _ = _; simp only [numP]; rw [hxe, hy]
            clear hxe hy
            obtain ⟨A, cap, rfl, hA⟩ := owns_shape hown.out
            have HAS := hid hA
            have hal : a.length = n := by have := hown.out.1; rw [enc_length] at this; omega
            have HAL := hid hal
            have hok : Ok a := by rw [← hav.out]; exact limbs_ok _
            have HOK := hid hok
            have H0 := hid (TimesTo.start hok 10 y (by omega))
            clear hA hal hok
            go_wp2
            go_loopw [7, 8] (fun v7 v8 wr => ∃ (k c : Nat) (b : List Nat), k ≤ n ∧ v8 = .int .i64 k ∧ v7 = .int .u64 c ∧ c < 4294967296 ∧ Hid (TimesTo a 10 y k b c) ∧ Hid (wr.ownsRow w.heap.size 98 1 (.slice A n cap) n (enc b)) ∧ Hid (Below w.heap.size w wr)) (fun _ v _ => n - (intOf v).toNat)
            case atStart => exact ⟨0, y, a, Nat.zero_le _, rfl, rfl, by omega, H0, hown, hbel⟩
            case round =>
              obtain ⟨k, c, b, hk, rfl, rfl, hc1, ha, hown2, hbel2⟩ := hrel
              have hbl := Eq.trans ha.out.part.len HAL.out
              by_cases hkn : k < n
              · obtain ⟨g, rfl⟩ := HAS.out (by omega)
                obtain ⟨hrow, hgb, hnl, hnc, hcm⟩ := Row.of_owns hown2.out
                have hca := hrow.cell (i := k) (by omega)
                have hfr := hrow.frozen k
                have hox := ha.out.part.ok.getD k
                have hsame := ha.out.part.out k (.inr (by omega))
                have hstep := ha.out.step (by have := HAL.out; omega)
                rw [← hsame] at hstep
                have HST := hid hstep
                have hst := fun u => hown2.out.stored k u
                have HSTO := hid hst
                clear hstep hsame hrow hst
                generalize b.getD k 0 = u at *
                obtain ⟨T, hT⟩ : ∃ T, T = c + u * 10 := ⟨_, rfl⟩
                have e2 : (c : Int) + (u : Int) * 10 = (T : Int) := by omega
                obtain ⟨z, d, hz, hd, hzd, em, ed⟩ : ∃ z d : Nat, z < 4294967296 ∧ d < 4294967296 ∧ Hid (u * 10 + c = z + 4294967296 * d) ∧ (T : Int) % 4294967296 = (z : Int) ∧ (T : Int) / 4294967296 = (d : Int) :=
                  ⟨T % 4294967296, T / 4294967296, by omega, by omega, by show _ = _; omega, by omega, by omega⟩
                have HStep := hid (HST.out z d hz hd hzd.out)
                have hx1 := HSTO.out (.int .u32 (z : Nat))
                rw [enc_set'] at hx1
                have HX1 := hid hx1.1
                have HX2 := hid (hbel2.out.setCell (p := ⟨g, k, none⟩) hgb (.int .u32 (z : Nat)))
                have hTl : T < 18446744073709551616 := by omega
                have HT := hid hT
                clear hT HST hzd hx1 HSTO hnl hbl ha hown2
                go_wp2
                go_roundw
                case rel => exact ⟨k + 1, d, b.set k z, by omega, by go_num, by first | rfl | rw [ed], hd, HStep, HX1, HX2⟩
                case measure => simp [intOf]; omega
              · obtain rfl : k = n := by omega
                have hal := HAL.out
                have hfin := ha.out
                rw [← hal, ← hav.out] at hfin
                have hlim := times_limbs hfin (fun _ => trivial)
                rw [← HNUM.out] at hlim
                have HLIM := hid hlim
                by_cases hc : 0 < c
                · have hnews : ∀ j u, (enc [c])[j]? = some u → (wr.alloc (.cells #[.int .u32 (c : Nat)] 98)).cell? ((⟨wr.heap.size, 0, none⟩ : Addr).add j) = some u :=
                    (sees_lit wr [c] (Ok.cons hc1 Ok.nil) (by simp)).news
                  have HN := hid hnews; have HW := hid hown2.out.lt
                  clear hnews hlim hfin hal hbl ha
                  go_wp2_with (at_builtin; refine wpList_append_own _ rfl _ _ 22 rfl w.heap.size 98 i0 (.int .u32 0) 1 4 Tryz.underlying22 hi0 hz0 hz1 hz2 rfl (by decide) _ _ _ rfl (hown2.out.alloc _) ⟨wr.heap.size, 0, none⟩ 1 1 (enc [c]) rfl ?ga1 ?gb1 ?gc1 ?gd1 ?ge1 ?gf1 ?_)
                  case ga1 => simp [enc_length]
                  case gb1 => exact HN.out
                  case gc1 => exact enc_one _
                  case gd1 => unfold maxLen; omega
                  case ge1 => omega
                  case gf1 => have := hbel2.out.size; simp; omega
                  intro v' w4 hown4 hgrow _
                  rw [enc_append] at hown4
                  have hb4 : Below w.heap.size w w4 := (hbel2.out.alloc hbel2.out.size _).grown hgrow (by rw [Deep.nblk_alloc]; have := hbel2.out.size; omega) (fun k e => (HW.out k e).1)
                  have HO := hid hown4; have HB4 := hid hb4
                  have HL := hid (HLIM.out.2 hc)
                  clear hown4 hgrow hb4
                  go_wp2
                  go_roundw
                  case rel => exact ⟨i + 1, k + 1, b ++ [c], by omega, by go_num, by omega, HL, HO, HB4⟩
                  case measure => simp [intOf]; omega
                · obtain rfl : c = 0 := by omega
                  have HL := hid (HLIM.out.1 rfl)
                  clear hlim hfin hal hbl ha
                  go_wp2
                  go_roundw
                  case rel => exact ⟨i + 1, k, b, by omega, by go_num, by omega, HL, hown2, hbel2⟩
                  case measure => simp [intOf]; omega
          · obtain rfl : i = t.size := by omega
            have hok : Ok a := by rw [← hav.out]; exact limbs_ok _
            have hal : a.length = n := by have := hown.out.1; rw [enc_length] at this; omega
            have hsee := owns_sees hown.out hok (by omega)
            rw [← hav.out] at hsee
            have HSEE := hid hsee
            clear hsee hal hok
            go_wp2
            go_ret2
            exact ⟨_, rfl, HSEE.out, hbel.out⟩
  · clear h1
    go_enter Tryz.func52, Tryz.ntmps52
    go_wp2
    go_loop [4] (fun v => ∃ k : Nat, k ≤ t.size ∧ v = .int .i64 k ∧ Hid (AllDig t k)) (fun v => t.size - (intOf v).toNat)
    case atStart => exact ⟨0, Nat.zero_le _, rfl, fun i hi => absurd hi (by omega)⟩
    case round =>
      obtain ⟨k, hk, rfl, hd⟩ := hrel
      by_cases hks : k < t.size
      · have hx := let8_at t k hks
        have hxl := let8_lt t k
        have hall := hd.out.succ
        have HALL := hid hall
        obtain ⟨x, hxe⟩ : ∃ x, let8 t k = x := ⟨_, rfl⟩
        rw [hxe] at hx hxl HALL
        have HXE := hid hxe
        clear hxe hall
        by_cases hlo : x < 48
        · exact absurd (HHYP.out.1 k hks).1 (by have := HXE.out; omega)
        · by_cases hhi : 57 < x
          · exact absurd (HHYP.out.1 k hks).2 (by have := HXE.out; omega)
          · have HD := hid (HALL.out (by omega) (by omega))
            go_wp2
            go_round
            case rel => exact ⟨k + 1, by omega, by go_num, HD⟩
            case measure => simp [intOf]; omega
      · obtain rfl : k = t.size := by omega
        try clear hs1
        have hlong : ¬ 10000 < t.size := by have := HHYP.out.2; omega
        have hall := HHYP.out.1
        have HD := hid hall
        clear hd hall hk
        go_wp2
        go_loopw [5, 6] (fun v5 v6 wr => ∃ (i n : Nat) (a : List Nat), i ≤ t.size ∧ v6 = .int .i64 i ∧ n ≤ i ∧ Hid (limbs (numP t i) = a) ∧ Hid (wr.ownsRow w.heap.size 98 1 v5 n (enc a)) ∧ Hid (Below w.heap.size w wr)) (fun _ v _ => t.size - (intOf v).toNat)
        case atStart => exact ⟨0, 0, [], Nat.zero_le _, rfl, Nat.le_refl _, rfl, World.ownsRow_nil _ _ _ _, Below.refl _ _⟩
        case round =>
          obtain ⟨i, n, a, hi, rfl, hn, hav, hown, hbel⟩ := hrel
          rename World => wo
          by_cases hlt : i < t.size
          · have hx := let8_at t i hlt
            have hdig := HD.out i hlt
            obtain ⟨x, hxe⟩ : ∃ x, let8 t i = x := ⟨_, rfl⟩
            rw [hxe] at hx hdig
            obtain ⟨hd1, hd2⟩ := hdig
            obtain ⟨y, hy⟩ : ∃ y, y = x - 48 := ⟨_, rfl⟩
            have ey : (x : Int) - 48 = (y : Int) := by omega
            have hy9 : y ≤ 9 := by omega
            have HNUM : Hid (numP t (i + 1) = numP t i * 10 + y) := by show _ = _; simp only [numP]; rw [hxe, hy]
            clear hxe hy
            obtain ⟨A, cap, rfl, hA⟩ := owns_shape hown.out
            have HAS := hid hA
            have hal : a.length = n := by have := hown.out.1; rw [enc_length] at this; omega
            have HAL := hid hal
            have hok : Ok a := by rw [← hav.out]; exact limbs_ok _
            have HOK := hid hok
            have H0 := hid (TimesTo.start hok 10 y (by omega))
            clear hA hal hok
            go_wp2
            go_loopw [7, 8] (fun v7 v8 wr => ∃ (k c : Nat) (b : List Nat), k ≤ n ∧ v8 = .int .i64 k ∧ v7 = .int .u64 c ∧ c < 4294967296 ∧ Hid (TimesTo a 10 y k b c) ∧ Hid (wr.ownsRow w.heap.size 98 1 (.slice A n cap) n (enc b)) ∧ Hid (Below w.heap.size w wr)) (fun _ v _ => n - (intOf v).toNat)
            case atStart => exact ⟨0, y, a, Nat.zero_le _, rfl, rfl, by omega, H0, hown, hbel⟩
            case round =>
              obtain ⟨k, c, b, hk, rfl, rfl, hc1, ha, hown2, hbel2⟩ := hrel
              have hbl := Eq.trans ha.out.part.len HAL.out
              by_cases hkn : k < n
              · obtain ⟨g, rfl⟩ := HAS.out (by omega)
                obtain ⟨hrow, hgb, hnl, hnc, hcm⟩ := Row.of_owns hown2.out
                have hca := hrow.cell (i := k) (by omega)
                have hfr := hrow.frozen k
                have hox := ha.out.part.ok.getD k
                have hsame := ha.out.part.out k (.inr (by omega))
                have hstep := ha.out.step (by have := HAL.out; omega)
                rw [← hsame] at hstep
                have HST := hid hstep
                have hst := fun u => hown2.out.stored k u
                have HSTO := hid hst
                clear hstep hsame hrow hst
                generalize b.getD k 0 = u at *
                obtain ⟨T, hT⟩ : ∃ T, T = c + u * 10 := ⟨_, rfl⟩
                have e2 : (c : Int) + (u : Int) * 10 = (T : Int) := by omega
                obtain ⟨z, d, hz, hd, hzd, em, ed⟩ : ∃ z d : Nat, z < 4294967296 ∧ d < 4294967296 ∧ Hid (u * 10 + c = z + 4294967296 * d) ∧ (T : Int) % 4294967296 = (z : Int) ∧ (T : Int) / 4294967296 = (d : Int) :=
                  ⟨T % 4294967296, T / 4294967296, by omega, by omega, by show _ = _; omega, by omega, by omega⟩
                have HStep := hid (HST.out z d hz hd hzd.out)
                have hx1 := HSTO.out (.int .u32 (z : Nat))
                rw [enc_set'] at hx1
                have HX1 := hid hx1.1
                have HX2 := hid (hbel2.out.setCell (p := ⟨g, k, none⟩) hgb (.int .u32 (z : Nat)))
                have hTl : T < 18446744073709551616 := by omega
                have HT := hid hT
                clear hT HST hzd hx1 HSTO hnl hbl ha hown2
                go_wp2
                go_roundw
                case rel => exact ⟨k + 1, d, b.set k z, by omega, by go_num, by first | rfl | rw [ed], hd, HStep, HX1, HX2⟩
                case measure => simp [intOf]; omega
              · obtain rfl : k = n := by omega
                have hal := HAL.out
                have hfin := ha.out
                rw [← hal, ← hav.out] at hfin
                have hlim := times_limbs hfin (fun _ => trivial)
                rw [← HNUM.out] at hlim
                have HLIM := hid hlim
                by_cases hc : 0 < c
                · have hnews : ∀ j u, (enc [c])[j]? = some u → (wr.alloc (.cells #[.int .u32 (c : Nat)] 98)).cell? ((⟨wr.heap.size, 0, none⟩ : Addr).add j) = some u :=
                    (sees_lit wr [c] (Ok.cons hc1 Ok.nil) (by simp)).news
                  have HN := hid hnews; have HW := hid hown2.out.lt
                  clear hnews hlim hfin hal hbl ha
                  go_wp2_with (at_builtin; refine wpList_append_own _ rfl _ _ 22 rfl w.heap.size 98 i0 (.int .u32 0) 1 4 Tryz.underlying22 hi0 hz0 hz1 hz2 rfl (by decide) _ _ _ rfl (hown2.out.alloc _) ⟨wr.heap.size, 0, none⟩ 1 1 (enc [c]) rfl ?ga2 ?gb2 ?gc2 ?gd2 ?ge2 ?gf2 ?_)
                  case ga2 => simp [enc_length]
                  case gb2 => exact HN.out
                  case gc2 => exact enc_one _
                  case gd2 => unfold maxLen; omega
                  case ge2 => omega
                  case gf2 => have := hbel2.out.size; simp; omega
                  intro v' w4 hown4 hgrow _
                  rw [enc_append] at hown4
                  have hb4 : Below w.heap.size w w4 := (hbel2.out.alloc hbel2.out.size _).grown hgrow (by rw [Deep.nblk_alloc]; have := hbel2.out.size; omega) (fun k e => (HW.out k e).1)
                  have HO := hid hown4; have HB4 := hid hb4
                  have HL := hid (HLIM.out.2 hc)
                  clear hown4 hgrow hb4
                  go_wp2
                  go_roundw
                  case rel => exact ⟨i + 1, k + 1, b ++ [c], by omega, by go_num, by omega, HL, HO, HB4⟩
                  case measure => simp [intOf]; omega
                · obtain rfl : c = 0 := by omega
                  have HL := hid (HLIM.out.1 rfl)
                  clear hlim hfin hal hbl ha
                  go_wp2
                  go_roundw
                  case rel => exact ⟨i + 1, k, b, by omega, by go_num, by omega, HL, hown2, hbel2⟩
                  case measure => simp [intOf]; omega
          · obtain rfl : i = t.size := by omega
            have hok : Ok a := by rw [← hav.out]; exact limbs_ok _
            have hal : a.length = n := by have := hown.out.1; rw [enc_length] at this; omega
            have hsee := owns_sees hown.out hok (by omega)
            rw [← hav.out] at hsee
            have HSEE := hid hsee
            clear hsee hal hok
            go_wp2
            go_ret2
            exact ⟨_, rfl, HSEE.out, hbel.out⟩
end Go.Proofs.YtjnbonellgpjnaaGreat
