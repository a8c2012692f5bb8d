/- nat.isNumeral by its contract. -/
import Derived.Test.YtfjanomjmlcgaaaDoorRefText
set_option linter.unusedVariables false
set_option linter.unusedSimpArgs false
namespace Go.Proofs.YtfjanomjmlcgaaaDoor
open Go.RowKit

/-- The i-th letter's number. -/
def let8 (t : ByteArray) (i : Nat) : Nat := (t.data.toList.getD i 0).toNat
theorem let8_at (t : ByteArray) (i : Nat) (h : i < t.size) : (t[i]'h).toNat = let8 t i := by
  have h2 : i < t.data.size := h
  unfold let8
  rw [List.getD_eq_getElem?_getD, Array.getElem?_toList, Array.getElem?_eq_getElem h2]
  rfl
theorem let8_lt (t : ByteArray) (i : Nat) : let8 t i < 256 := by
  unfold let8
  exact (t.data.toList.getD i 0).toNat_lt
/-- Digits alone. -/
def AllDig (t : ByteArray) (k : Nat) : Prop := ∀ i, i < k → 48 ≤ let8 t i ∧ let8 t i ≤ 57
theorem AllDig.succ {t : ByteArray} {k : Nat} (h : AllDig t k) (h1 : 48 ≤ let8 t k) (h2 : let8 t k ≤ 57) : AllDig t (k + 1) := fun i hi => by
  rcases Nat.lt_or_ge i k with h3 | h3
  · exact h i h3
  · obtain rfl : i = k := by omega
    exact ⟨h1, h2⟩
/-- A number's text. -/
def Numeral (t : ByteArray) : Prop := 0 < t.size ∧ ¬ (let8 t 0 = 48 ∧ 1 < t.size) ∧ AllDig t t.size

theorem size_list (t : ByteArray) : t.toList.length = t.size := by rw [ByteArray.toList_eq]; cases t; rfl
theorem zero_text (t : ByteArray) (h0 : 0 < t.size) (h : let8 t 0 = 48) : (t.toList == [48]) = decide (t.size = 1) := by
  have hl := size_list t
  rw [ByteArray.toList_eq] at hl ⊢
  unfold let8 at h
  generalize t.data.toList = l at *
  match l, hl, h with
  | [], hl, _ => simp at hl; omega
  | [c], hl, h =>
    have hc : c = 48 := UInt8.toNat_inj.1 (by simpa using h)
    subst hc
    simp at hl
    rw [← hl]; rfl
  | c :: d :: r, hl, h =>
    have h1 : ¬ t.size = 1 := by rw [← hl]; simp
    rw [decide_eq_false h1]
    simp

/-- What isNumeral answers. -/
def NumeralIs (t : ByteArray) (w : World) (e : Ending) (w' : World) : Prop := ∃ b : Bool, e = .returned (.bool b) ∧ (b = true ↔ Numeral t) ∧ w = w'

set_option maxRecDepth 100000 in
set_option maxHeartbeats 800000 in
theorem numeral_loop (t : ByteArray) (w : World) (ht : t.size ≤ 140737488355328) (h0 : 0 < t.size) (h1 : ¬ (let8 t 0 = 48 ∧ 1 < t.size)) :
    Calls Tryd.prog 102 #[.string t] w fun e w' => NumeralIs t w e w' := by
  have hE : ¬ t.toList = [] := fun e => by have := size_list t; rw [e] at this; simp at this; omega
  have hE2 : t.toList.isEmpty = false := by rw [List.isEmpty_eq_false_iff]; exact hE
  have hx0 := let8_at t 0 h0
  have hH1 := hid h1
  obtain ⟨x0, hx0e⟩ : ∃ x0, let8 t 0 = x0 := ⟨_, rfl⟩
  rw [hx0e] at hx0 h1
  have HX0 := hid hx0e
  have hz := zero_text t h0
  rw [hx0e] at hz
  clear hx0e
  by_cases h48 : x0 = 48
  · have hs1 : t.size = 1 := by omega
    have hz1 := hz h48
    rw [decide_eq_true hs1] at hz1
    subst h48
    clear hz h1 hs1
    go_enter Tryd.func102, Tryd.ntmps102
    go_wp2
    go_loop [17] (fun v => ∃ k : Nat, k ≤ t.size ∧ v = .int .i64 k ∧ Hid (AllDig t k)) (fun v => t.size - (intOf v).toNat)
    case atStart => exact ⟨0, Nat.zero_le _, rfl, fun i hi => absurd hi (by omega)⟩
    case round =>
      obtain ⟨k, hk, rfl, hd⟩ := hrel
      by_cases hks : k < t.size
      · have hx := let8_at t k hks
        have hxl := let8_lt t k
        have hall := hd.out.succ
        have HALL := hid hall
        obtain ⟨x, hxe⟩ : ∃ x, let8 t k = x := ⟨_, rfl⟩
        rw [hxe] at hx hxl HALL
        have HXE := hid hxe
        clear hxe hall
        by_cases hlo : x < 48
        · go_wp2
          go_ret
          exact ⟨false, rfl, ⟨fun h => (by cases h), fun h => by have := (h.2.2 k hks).1; have := HXE.out; omega⟩, rfl⟩
        · by_cases hhi : 57 < x
          · go_wp2
            go_ret
            exact ⟨false, rfl, ⟨fun h => (by cases h), fun h => by have := (h.2.2 k hks).2; have := HXE.out; omega⟩, rfl⟩
          · have HD := hid (HALL.out (by omega) (by omega))
            go_wp2
            go_round
            case rel => exact ⟨k + 1, by omega, by go_num, HD⟩
            case measure => simp [intOf]; omega
      · obtain rfl : k = t.size := by omega
        go_wp2
        go_ret
        exact ⟨true, rfl, ⟨fun _ => ⟨h0, hH1.out, hd.out⟩, fun _ => rfl⟩, rfl⟩
  · clear hz h1
    go_enter Tryd.func102, Tryd.ntmps102
    go_wp2
    go_loop [17] (fun v => ∃ k : Nat, k ≤ t.size ∧ v = .int .i64 k ∧ Hid (AllDig t k)) (fun v => t.size - (intOf v).toNat)
    case atStart => exact ⟨0, Nat.zero_le _, rfl, fun i hi => absurd hi (by omega)⟩
    case round =>
      obtain ⟨k, hk, rfl, hd⟩ := hrel
      by_cases hks : k < t.size
      · have hx := let8_at t k hks
        have hxl := let8_lt t k
        have hall := hd.out.succ
        have HALL := hid hall
        obtain ⟨x, hxe⟩ : ∃ x, let8 t k = x := ⟨_, rfl⟩
        rw [hxe] at hx hxl HALL
        have HXE := hid hxe
        clear hxe hall
        by_cases hlo : x < 48
        · go_wp2
          go_ret
          exact ⟨false, rfl, ⟨fun h => (by cases h), fun h => by have := (h.2.2 k hks).1; have := HXE.out; omega⟩, rfl⟩
        · by_cases hhi : 57 < x
          · go_wp2
            go_ret
            exact ⟨false, rfl, ⟨fun h => (by cases h), fun h => by have := (h.2.2 k hks).2; have := HXE.out; omega⟩, rfl⟩
          · have HD := hid (HALL.out (by omega) (by omega))
            go_wp2
            go_round
            case rel => exact ⟨k + 1, by omega, by go_num, HD⟩
            case measure => simp [intOf]; omega
      · obtain rfl : k = t.size := by omega
        go_wp2
        go_ret
        exact ⟨true, rfl, ⟨fun _ => ⟨h0, hH1.out, hd.out⟩, fun _ => rfl⟩, rfl⟩

theorem nat_isNumeral (t : ByteArray) (w : World) (ht : t.size ≤ 140737488355328) :
    Calls Tryd.prog 102 #[.string t] w fun e w' => NumeralIs t w e w' := by
  by_cases h0 : 0 < t.size
  · by_cases h1 : let8 t 0 = 48 ∧ 1 < t.size
    · have hE : ¬ t.toList = [] := fun e => by have := size_list t; rw [e] at this; simp at this; omega
      have hE2 : t.toList.isEmpty = false := by rw [List.isEmpty_eq_false_iff]; exact hE
      have hx0 := let8_at t 0 h0
      have hz1 := zero_text t h0 h1.1
      rw [decide_eq_false (by omega)] at hz1
      rw [h1.1] at hx0
      have H1 := hid h1
      clear h1
      go_enter Tryd.func102, Tryd.ntmps102
      go_wp2
      go_ret
      exact ⟨false, rfl, ⟨fun h => (by cases h), fun h => absurd H1.out h.2.1⟩, rfl⟩
    · exact numeral_loop t w ht h0 h1
  · have hE : t.toList = [] := List.eq_nil_of_length_eq_zero (by rw [size_list]; omega)
    have hE2 : t.toList.isEmpty = true := by rw [hE]; rfl
    have H0 := hid h0
    clear h0
    go_enter Tryd.func102, Tryd.ntmps102
    go_wp2
    go_ret
    exact ⟨false, rfl, ⟨fun h => (by cases h), fun h => absurd h.1 H0.out⟩, rfl⟩
end Go.Proofs.YtfjanomjmlcgaaaDoor
