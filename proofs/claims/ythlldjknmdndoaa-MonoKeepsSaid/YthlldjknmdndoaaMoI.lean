/- slices.Index and slices.Contains of texts; mono.isOrder: by their contracts. -/
import Derived.Test.YthlldjknmdndoaaMoH
set_option linter.unusedVariables false
set_option linter.unusedSimpArgs false
namespace Go.Proofs.Ythlldjknmdndoaa
open Go.RowKit

instance : DecidableEq ByteArray := fun a b => decidable_of_iff (a.data = b.data) ⟨fun h => by cases a; cases b; simp only at h; rw [h], fun h => by rw [h]⟩
theorem text_ne {s t : ByteArray} (h : ¬ s = t) : (t.toList == s.toList) = false := by
  rw [beq_eq_false_iff_ne, ByteArray.toList_eq, ByteArray.toList_eq]
  intro e
  apply h
  cases s; cases t
  simp only at e
  congr 1
  exact (Array.toList_inj.1 e).symm
theorem text_eq (t : ByteArray) : (t.toList == t.toList) = true := by simp

theorem mem_getD {l : List ByteArray} {t : ByteArray} : t ∈ l ↔ ∃ i, i < l.length ∧ l.getD i ByteArray.empty = t := by
  constructor
  · intro h
    obtain ⟨i, hi, rfl⟩ := List.getElem_of_mem h
    exact ⟨i, hi, by rw [List.getD_eq_getElem?_getD, List.getElem?_eq_getElem hi]; rfl⟩
  · rintro ⟨i, hi, rfl⟩
    rw [List.getD_eq_getElem?_getD, List.getElem?_eq_getElem hi]
    exact List.getElem_mem hi

/-- t stands in l. -/
def memB (l : List ByteArray) (t : ByteArray) : Bool := l.any (fun s => decide (s = t))
theorem memB_iff {l : List ByteArray} {t : ByteArray} : memB l t = true ↔ t ∈ l := by
  simp only [memB, List.any_eq_true, decide_eq_true_eq]
  constructor
  · rintro ⟨s, h, rfl⟩; exact h
  · intro h; exact ⟨t, h, rfl⟩

theorem slices_Index {a : Value} {l : List ByteArray} (t : ByteArray) {w : World} (ha : SeesS w a l) :
    Calls Try.prog 56 #[a, .string t] w fun e w' => (∃ r : Int, e = .returned (.int .i64 r) ∧ (r ≥ 0 ↔ t ∈ l)) ∧ w = w' := by
  have hlen := ha.len
  have HA := hidP ha
  obtain ⟨A, ca, rfl, hcap⟩ := SeesF.form ha
  clear ha
  go_enter Try.func56, Try.ntmps56
  go_wp2
  go_loop [8] (fun v => ∃ k : Nat, k ≤ l.length ∧ v = .int .i64 k ∧ Hid (∀ i, i < k → l.getD i ByteArray.empty ≠ t)) (fun v => l.length - (intOf v).toNat)
  case atStart => exact ⟨0, Nat.zero_le _, rfl, fun i hi => absurd hi (by omega)⟩
  case round =>
    obtain ⟨k, hk, rfl, hz⟩ := hrel
    by_cases hlt : k < l.length
    · obtain ⟨b1, o1, rfl, hc'⟩ := HA.out.at (by omega)
      have hc := hc' k hlt
      have HM : Hid (l.getD k ByteArray.empty = t → t ∈ l) := fun h => mem_getD.2 ⟨k, hlt, h⟩
      have HZ : Hid (l.getD k ByteArray.empty ≠ t → ∀ i, i < k + 1 → l.getD i ByteArray.empty ≠ t) := fun h i hi => by
        by_cases e : i = k
        · subst e; exact h
        · exact hz.out i (by omega)
      clear hc' hz
      obtain ⟨s, hs⟩ : ∃ s, l.getD k ByteArray.empty = s := ⟨_, rfl⟩
      rw [hs] at hc HM HZ
      clear hs
      by_cases he : s = t
      · have HM2 := hidP (HM.out he)
        subst he
        have he2 := text_eq s
        clear HM HZ
        go_wp2
        go_ret
        exact ⟨⟨k, rfl, ⟨fun _ => HM2.out, fun _ => by omega⟩⟩, rfl⟩
      · have HZ2 := hidP (HZ.out he)
        have he2 := text_ne he
        clear HM HZ
        go_wp2
        go_round
        case rel => exact ⟨k + 1, by omega, by go_num, HZ2⟩
        case measure => simp [intOf]; omega
    · have HN : Hid (¬ t ∈ l) := fun h => by
        obtain ⟨i, hi, e⟩ := mem_getD.1 h
        exact hz.out i (by omega) e
      clear hz
      go_wp2
      go_ret
      exact ⟨⟨-1, rfl, ⟨fun h => absurd h (by decide), fun h => absurd h HN.out⟩⟩, rfl⟩

theorem slices_Contains {a : Value} {l : List ByteArray} (t : ByteArray) {w : World} (ha : SeesS w a l) :
    Calls Try.prog 49 #[a, .string t] w fun e w' => e = .returned (.bool (memB l t)) ∧ w = w' := by
  have C := hidP (slices_Index t ha)
  clear ha
  go_enter Try.func49, Try.ntmps49
  go_wp2_with fail
  refine C.out.mono ?_
  rintro e w0 ⟨⟨r, rfl, hr⟩, rfl⟩
  have HR := hidP hr
  clear hr
  go_wp2
  go_ret
  exact ⟨ret_bool (by rw [Bool.eq_iff_iff, memB_iff, decide_eq_true_eq]; exact HR.out), rfl⟩

/-- An order, and how many variables are the first. -/
def orderB (o f n : Int) : Bool := decide (((o = 0 ∨ o = 1 ∨ o = 2) ∧ f = 0) ∨ (o = 3 ∧ 1 ≤ f ∧ f < n))

theorem mono_isOrder (o f n : Int) (w : World) :
    Calls Try.prog 32 #[.int .i64 o, .int .i64 f, .int .i64 n] w fun e w' => e = .returned (.bool (orderB o f n)) ∧ w = w' := by
  obtain ⟨r, hr⟩ : ∃ r, orderB o f n = r := ⟨_, rfl⟩
  have HR : Hid (decide (((o = 0 ∨ o = 1 ∨ o = 2) ∧ f = 0) ∨ (o = 3 ∧ 1 ≤ f ∧ f < n)) = r) := hr
  rw [hr]
  clear hr
  have EF : ¬ (((o = 0 ∨ o = 1 ∨ o = 2) ∧ f = 0) ∨ (o = 3 ∧ 1 ≤ f ∧ f < n)) → r = false := fun h => by rw [← HR.out, decide_eq_false h]
  have E : ∀ p : Prop, [Decidable p] → (p ↔ (((o = 0 ∨ o = 1 ∨ o = 2) ∧ f = 0) ∨ (o = 3 ∧ 1 ≤ f ∧ f < n))) → r = decide p := fun p _ h => by
    rw [← HR.out, decide_eq_decide]; exact h.symm
  by_cases h0 : o = 0
  · have e := hidP (E (f = 0) (by omega))
    subst h0
    clear HR E EF
    go_enter Try.func32, Try.ntmps32
    go_wp2
    go_ret
    exact ⟨ret_bool (by rw [e.out] <;> first | rfl | simp), rfl⟩
  by_cases h1 : o = 1
  · have e := hidP (E (f = 0) (by omega))
    subst h1
    clear HR E EF
    go_enter Try.func32, Try.ntmps32
    go_wp2
    go_ret
    exact ⟨ret_bool (by rw [e.out] <;> first | rfl | simp), rfl⟩
  by_cases h2 : o = 2
  · have e := hidP (E (f = 0) (by omega))
    subst h2
    clear HR E EF
    go_enter Try.func32, Try.ntmps32
    go_wp2
    go_ret
    exact ⟨ret_bool (by rw [e.out] <;> first | rfl | simp), rfl⟩
  by_cases h3 : o = 3
  · by_cases h4 : 1 ≤ f
    · have e := hidP (E (f < n) (by omega))
      subst h3
      clear HR E EF
      go_enter Try.func32, Try.ntmps32
      go_wp2
      go_ret
      exact ⟨ret_bool (by rw [e.out] <;> first | rfl | simp), rfl⟩
    · have e := hidP (EF (by omega))
      subst h3
      clear HR E EF
      go_enter Try.func32, Try.ntmps32
      go_wp2
      go_ret
      exact ⟨ret_bool (by rw [e.out] <;> first | rfl | simp), rfl⟩
  · have e := hidP (EF (by omega))
    have g0 : (o == 0) = false := by simpa using h0
    have g1 : (o == 1) = false := by simpa using h1
    have g2 : (o == 2) = false := by simpa using h2
    have g3 : (o == 3) = false := by simpa using h3
    clear HR E EF h0 h1 h2 h3
    go_enter Try.func32, Try.ntmps32
    go_wp2
    go_ret
    exact ⟨ret_bool (by rw [e.out] <;> first | rfl | simp), rfl⟩
end Go.Proofs.Ythlldjknmdndoaa
