/- Products, quotients, least common multiples and greatest common divisors of monomials as lists: what the laws say of them. -/
import Derived.Test.YthlldjknmdndoaaMoW
set_option linter.unusedVariables false
set_option linter.unusedSimpArgs false
namespace Go.Proofs.Ythlldjknmdndoaa
open Go.RowKit

theorem zipG_getD (g : Int → Int → Int) {l m : List Int} (h : l.length = m.length) (i : Nat) (hi : i < l.length) : (List.zipWith g l m).getD i 0 = g (l.getD i 0) (m.getD i 0) := by
  rw [List.getD_eq_getElem?_getD, List.getElem?_zipWith, List.getElem?_eq_getElem hi, List.getElem?_eq_getElem (by omega), List.getD_eq_getElem?_getD, List.getD_eq_getElem?_getD, List.getElem?_eq_getElem hi, List.getElem?_eq_getElem (by omega)]; rfl
theorem alikeB_iff {l m : List Int} : alikeB l m = true ↔ l.length = m.length ∧ mayB l = true ∧ mayB m = true := by
  unfold alikeB; simp only [Bool.and_eq_true, decide_eq_true_eq]
theorem opB_iff {g : Int → Int → Int} {l m : List Int} : opB g l m = true ↔ l.length = m.length ∧ mayB l = true ∧ mayB m = true ∧ mayB (List.zipWith g l m) = true := by
  unfold opB; rw [Bool.and_eq_true, alikeB_iff, and_assoc, and_assoc]
theorem zipG_len (g : Int → Int → Int) {l m : List Int} (h : l.length = m.length) : (List.zipWith g l m).length = l.length := by simp [h]

theorem mul_back {l m : List Int} (h : opB gMul l m = true) : opB gDiv (List.zipWith gMul l m) m = true ∧ opL gDiv (List.zipWith gMul l m) m = l ∧ degL (List.zipWith gMul l m) = degL l + degL m := by
  obtain ⟨hl, h1, h2, h3⟩ := opB_iff.1 h
  have hz := zipG_len gMul hl
  have e : List.zipWith gDiv (List.zipWith gMul l m) m = l := by
    refine list_eq_getD (by rw [zipG_len gDiv (by omega)]; exact hz) fun i hi => ?_
    rw [zipG_len gDiv (by omega)] at hi
    rw [zipG_getD gDiv (by omega) i hi, zipG_getD gMul hl i (by omega)]
    unfold gDiv gMul; omega
  have hb : opB gDiv (List.zipWith gMul l m) m = true := opB_iff.2 ⟨by omega, h3, h2, by rw [e]; exact h1⟩
  refine ⟨hb, by rw [opL_some hb, e], ?_⟩
  unfold degL
  rw [if_pos h1, if_pos h2, if_pos h3]
  exact sum_zip l m hl

theorem sum_shares : ∀ (l m : List Int), l.length = m.length → (List.zipWith gLcm l m).sum + (List.zipWith gGcd l m).sum = l.sum + m.sum
  | [], m, h => by cases m <;> simp at h ⊢
  | x :: l, [], h => by simp at h
  | x :: l, y :: m, h => by
    have := sum_shares l m (by simpa using h)
    simp only [List.zipWith_cons_cons, List.sum_cons]
    unfold gLcm gGcd at *
    omega

theorem lcm_alike (l m : List Int) : opB gLcm l m = alikeB l m := by
  cases h : alikeB l m with
  | true => exact alike_max h
  | false => unfold opB; rw [h]; rfl
theorem gcd_alike (l m : List Int) : opB gGcd l m = alikeB l m := by
  cases h : alikeB l m with
  | true => exact alike_min h
  | false => unfold opB; rw [h]; rfl

theorem shares {l m : List Int} (h : alikeB l m = true) :
    opB gDiv (List.zipWith gLcm l m) l = true ∧ opB gDiv m (List.zipWith gGcd l m) = true ∧ opB gDiv (List.zipWith gLcm l m) m = true ∧ opB gDiv l (List.zipWith gGcd l m) = true ∧
    opL gDiv (List.zipWith gLcm l m) l = opL gDiv m (List.zipWith gGcd l m) ∧ degL (List.zipWith gLcm l m) + degL (List.zipWith gGcd l m) = degL l + degL m := by
  obtain ⟨hl, h1, h2⟩ := alikeB_iff.1 h
  have hL := (opB_iff.1 (alike_max h)).2.2.2
  have hG := (opB_iff.1 (alike_min h)).2.2.2
  have zL := zipG_len gLcm hl
  have zG := zipG_len gGcd hl
  have r1 := mayB_getD.1 h1
  have r2 := mayB_getD.1 h2
  have b1 : opB gDiv (List.zipWith gLcm l m) l = true := opB_iff.2 ⟨by omega, hL, h1, mayB_getD.2 fun i hi => by
    rw [zipG_len gDiv (by omega)] at hi
    rw [zipG_getD gDiv (by omega) i hi, zipG_getD gLcm hl i (by omega)]
    have := r1 i (by omega); have := r2 i (by omega)
    unfold gDiv gLcm; omega⟩
  have b2 : opB gDiv m (List.zipWith gGcd l m) = true := opB_iff.2 ⟨by omega, h2, hG, mayB_getD.2 fun i hi => by
    rw [zipG_len gDiv (by omega)] at hi
    rw [zipG_getD gDiv (by omega) i hi, zipG_getD gGcd hl i (by omega)]
    have := r1 i (by omega); have := r2 i (by omega)
    unfold gDiv gGcd; omega⟩
  have b3 : opB gDiv (List.zipWith gLcm l m) m = true := opB_iff.2 ⟨by omega, hL, h2, mayB_getD.2 fun i hi => by
    rw [zipG_len gDiv (by omega)] at hi
    rw [zipG_getD gDiv (by omega) i hi, zipG_getD gLcm hl i (by omega)]
    have := r1 i (by omega); have := r2 i (by omega)
    unfold gDiv gLcm; omega⟩
  have b4 : opB gDiv l (List.zipWith gGcd l m) = true := opB_iff.2 ⟨by omega, h1, hG, mayB_getD.2 fun i hi => by
    rw [zipG_len gDiv (by omega)] at hi
    rw [zipG_getD gDiv (by omega) i hi, zipG_getD gGcd hl i (by omega)]
    have := r1 i (by omega); have := r2 i (by omega)
    unfold gDiv gGcd; omega⟩
  refine ⟨b1, b2, b3, b4, ?_, ?_⟩
  · rw [opL_some b1, opL_some b2]
    refine list_eq_getD (by rw [zipG_len gDiv (by omega), zipG_len gDiv (by omega)]; omega) fun i hi => ?_
    rw [zipG_len gDiv (by omega)] at hi
    rw [zipG_getD gDiv (by omega) i hi, zipG_getD gLcm hl i (by omega), zipG_getD gDiv (by omega) i (by omega), zipG_getD gGcd hl i (by omega)]
    unfold gDiv gLcm gGcd; omega
  · unfold degL
    rw [if_pos h1, if_pos h2, if_pos hL, if_pos hG]
    exact sum_shares l m hl

theorem rightB_same {l : List ByteArray} {o f o' f' : Int} (h : ringB l o f = ringB l o' f') (e : List Int) : rightB l o f e = rightB l o' f' e := by unfold rightB; rw [h]
theorem cmpR_right {l : List ByteArray} {o f : Int} {a b : List Int} (h1 : rightB l o f a = true) (h2 : rightB l o f b = true) : cmpR l o f a b = cmpL o f.toNat a b := by unfold cmpR; rw [h1, h2]; rfl
theorem cmpR_wrong {l : List ByteArray} {o f : Int} {a b : List Int} (h : ¬ (rightB l o f a = true ∧ rightB l o f b = true)) : cmpR l o f a b = 0 := by
  unfold cmpR; rw [if_neg]; rwa [Bool.and_eq_true]
theorem right_mul {l : List ByteArray} {o f : Int} {a c : List Int} (h1 : rightB l o f a = true) (h2 : rightB l o f c = true) (h : opB gMul a c = true) : rightB l o f (List.zipWith gMul a c) = true := by
  obtain ⟨e1, -, e3⟩ := rightB_iff.1 h1
  obtain ⟨hl, -, -, h4⟩ := opB_iff.1 h
  exact rightB_iff.2 ⟨(zipG_len gMul hl).trans e1, h4, e3⟩
theorem cmpR_mul {l : List ByteArray} {o f : Int} {a b c : List Int} (h1 : rightB l o f a = true) (h2 : rightB l o f b = true) (h3 : rightB l o f c = true) (ha : opB gMul a c = true) (hb : opB gMul b c = true) :
    cmpR l o f (List.zipWith gMul a c) (List.zipWith gMul b c) = cmpR l o f a b := by
  rw [cmpR_right (right_mul h1 h3 ha) (right_mul h2 h3 hb), cmpR_right h1 h2]
  obtain ⟨e1, -, -⟩ := rightB_iff.1 h1
  obtain ⟨e2, -, -⟩ := rightB_iff.1 h2
  obtain ⟨e3, -, -⟩ := rightB_iff.1 h3
  exact cmpL_mul o f.toNat (by omega) (by omega)
theorem right_one {l : List ByteArray} {o f : Int} {a : List Int} (h : rightB l o f a = true) : rightB l o f (List.replicate a.length 0) = true := by
  obtain ⟨e1, -, e3⟩ := rightB_iff.1 h
  refine rightB_iff.2 ⟨by simp [e1], mayB_iff.2 fun x hx => ?_, e3⟩
  rw [List.mem_replicate] at hx
  omega
theorem cmpR_one {l : List ByteArray} {o f : Int} {a : List Int} (h : rightB l o f a = true) : cmpR l o f (List.replicate a.length 0) a ≤ 0 := by
  rw [cmpR_right (right_one h) h]
  exact cmpL_one o f.toNat (fun x hx => (mayB_iff.1 (rightB_iff.1 h).2.1 x hx).1)
theorem cmpR_swap {l : List ByteArray} {o f : Int} {a b : List Int} (h1 : rightB l o f a = true) (h2 : rightB l o f b = true) : cmpR l o f b a = -cmpR l o f a b := by
  rw [cmpR_right h1 h2, cmpR_right h2 h1, cmpL_swap]
theorem cmpR_zero {l : List ByteArray} {o f : Int} {a b : List Int} (h1 : rightB l o f a = true) (h2 : rightB l o f b = true) : cmpR l o f a b = 0 ↔ a = b := by
  rw [cmpR_right h1 h2]
  exact cmpL_zero o f.toNat ((rightB_iff.1 h1).1.trans (rightB_iff.1 h2).1.symm)
theorem cmpR_trans {l : List ByteArray} {o f : Int} {a b c : List Int} (h1 : rightB l o f a = true) (h2 : rightB l o f b = true) (h3 : rightB l o f c = true) (x : cmpR l o f a b ≤ 0) (y : cmpR l o f b c ≤ 0) : cmpR l o f a c ≤ 0 := by
  rw [cmpR_right h1 h2] at x
  rw [cmpR_right h2 h3] at y
  rw [cmpR_right h1 h3]
  exact cmpL_trans o f.toNat ((rightB_iff.1 h1).1.trans (rightB_iff.1 h2).1.symm) ((rightB_iff.1 h2).1.trans (rightB_iff.1 h3).1.symm) x y
theorem cmpR_range (l : List ByteArray) (o f : Int) (a b : List Int) : cmpR l o f a b = -1 ∨ cmpR l o f a b = 0 ∨ cmpR l o f a b = 1 := by
  unfold cmpR
  split
  · exact cmpL_range _ _ _ _
  · exact .inr (.inl rfl)

theorem degL_small {l : List Int} (hl : l.length ≤ 4096) : 0 ≤ degL l ∧ degL l ≤ 268435456 := by
  unfold degL
  split
  · rename_i h
    have := sum_le h
    omega
  · omega
/-- A call whose answer is there. -/
theorem tells_true {P : Program} {F : FuncId} {args : Array Value} {g : Int → Int → Int} {l m r : List Int} {w : World} (h : Calls P F args w fun e w' => OpTells g l m w e w') (hb : opB g l m = true) (hr : opL g l m = r) :
    Calls P F args w fun e w' => ∃ v, e = .returned (.tuple #[v, .bool true]) ∧ SeesI w' v r ∧ Below w.heap.size w w' := by
  refine h.mono ?_
  rintro e w' ⟨v, he, hs, hbl⟩
  rw [hb] at he
  rw [hr] at hs
  exact ⟨v, he, hs, hbl⟩
/-- A call that answers none. -/
theorem tells_false {P : Program} {F : FuncId} {args : Array Value} {g : Int → Int → Int} {l m : List Int} {w : World} (h : Calls P F args w fun e w' => OpTells g l m w e w') (hb : opB g l m = false) :
    Calls P F args w fun e w' => ∃ ao cap, e = .returned (.tuple #[.slice ao 0 cap, .bool false]) ∧ Below w.heap.size w w' := by
  refine h.mono ?_
  rintro e w' ⟨v, he, hs, hbl⟩
  rw [hb] at he
  rw [opL_none hb] at hs
  obtain ⟨ao, cap, rfl, -⟩ := SeesF.form hs
  exact ⟨ao, cap, he, hbl⟩
theorem degree_below {a : Value} {l : List Int} {w : World} {n : Int} (ha : SeesI w a l) (hn : degL l = n) :
    Calls Try.prog 17 #[a] w fun e w' => e = .returned (.int .i64 n) ∧ Below w.heap.size w w' := by
  refine (mono_Degree ha).mono ?_
  rintro e w' ⟨he, rfl⟩
  rw [hn] at he
  exact ⟨he, Below.refl _ _⟩
theorem degree_below_ref {a : Value} {l : List Int} {w : World} {n : Int} (ha : SeesI w a l) (hn : degL l = n) :
    Calls Try.prog 18 #[a] w fun e w' => e = .returned (.int .i64 n) ∧ Below w.heap.size w w' := by
  refine (ref_Degree ha).mono ?_
  rintro e w' ⟨he, rfl⟩
  rw [hn] at he
  exact ⟨he, Below.refl _ _⟩
theorem cmp_is {v a b : Value} {l : List ByteArray} {o f : Int} {x y : List Int} {w : World} {r : Int} (h : SeesR w v l o f) (ha : SeesI w a x) (hb : SeesI w b y) (hr : cmpR l o f x y = r) :
    Calls Try.prog 19 #[v, a, b] w fun e w' => e = .returned (.int .i64 r) ∧ Below w.heap.size w w' := by
  have := mono_Cmp h ha hb
  rwa [hr] at this
theorem same_is {a b : Value} {l m : List Int} {w : World} {r : Bool} (ha : SeesI w a l) (hb : SeesI w b m) (hr : decide (l = m) = r) :
    Calls Try.prog 25 #[a, b] w fun e w' => e = .returned (.bool r) ∧ Below w.heap.size w w' := by
  have := same_dec ha hb
  rwa [hr] at this
theorem made_sees {w : World} {g n : Nat} (h : RowI w g (List.replicate n 0)) (hn : n ≤ 6) : SeesI w (.slice (some ⟨g, 0, none⟩) n n) (List.replicate n 0) := by
  have := h.sees (by simp; omega)
  rwa [List.length_replicate] at this
theorem right_is {v a : Value} {l : List ByteArray} {o f : Int} {e : List Int} {w : World} {r : Bool} (h : SeesR w v l o f) (ha : SeesI w a e) (hr : rightB l o f e = r) :
    Calls Try.prog 15 #[v, a] w fun x w' => x = .returned (.bool r) ∧ Below w.heap.size w w' := by
  have := mono_Right h ha
  rwa [hr] at this
end Go.Proofs.Ythlldjknmdndoaa
