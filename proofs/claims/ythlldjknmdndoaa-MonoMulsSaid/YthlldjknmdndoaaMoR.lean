/- A row of ints of the call's own; mono.combine with each of its four operations: by their contracts. -/
import Derived.Test.YthlldjknmdndoaaMoC
import Derived.Laws.AppendOwnNone
set_option linter.unusedVariables false
set_option linter.unusedSimpArgs false
namespace Go.Proofs.Ythlldjknmdndoaa
open Go.RowKit

theorem info_int : (Try.prog.info? 3).map (fun i => (i.zero, i.size, i.bytes)) = some (some (.int .i64 0), 1, 8) := by kernel_rfl

/-- Block g is a row of these ints. -/
def RowI (w : World) (g : Nat) (l : List Int) : Prop := w.heap[g]? = some (.cells (l.map vI).toArray 3 (0, 0))
namespace RowI
variable {w w' : World} {g : Nat} {l : List Int}
theorem cell (h : RowI w g l) {i : Nat} (hi : i < l.length) : w.cell? ⟨g, i, none⟩ = some (.int .i64 (l.getD i 0)) := by
  unfold RowI at h
  simp only [World.cell?, h]
  rw [List.getElem?_toArray, List.getElem?_map, List.getD_eq_getElem?_getD, List.getElem?_eq_getElem hi]; rfl
theorem frozen (h : RowI w g l) (i : Nat) : w.frozen? ⟨g, i, none⟩ = false := by
  unfold RowI at h
  simp [World.frozen?, h]
theorem lt (h : RowI w g l) : g < w.heap.size := (Array.getElem?_eq_some_iff.1 h).1
theorem set (h : RowI w g l) (i : Nat) (x : Int) : RowI (w.setCell ⟨g, i, none⟩ (.int .i64 x)) g (l.set i x) := by
  unfold RowI at h ⊢
  simp only [World.setCell, Array.getElem?_modify, h, if_true, Option.map_some]
  congr 2
  show (List.map vI l).toArray.setIfInBounds i (Value.int .i64 x) = _
  apply Array.ext'
  rw [Array.toList_setIfInBounds, List.map_set]
  rfl
theorem made (w : World) (n : Nat) : RowI (w.alloc (.cells (madeCells #[.int .i64 0] n) 3)) w.heap.size (List.replicate n 0) := by
  unfold RowI
  rw [Deep.blk_alloc_new]
  congr 2
  apply Array.ext'
  rw [toList_madeCells_one, List.map_replicate]; rfl
theorem sees (h : RowI w g l) (hl : l.length ≤ 70368744177664) : SeesI w (.slice (some ⟨g, 0, none⟩) l.length l.length) l :=
  ⟨_, _, rfl, Nat.le_refl _, hl, (fun e => by cases e), fun _ => ⟨g, 0, rfl, fun i hi => by rw [Nat.zero_add]; exact h.cell hi⟩⟩
end RowI

theorem grownBy_trans {a b c : World} {r : Option Nat} (h : a.grownBy b r) (k : b.grownBy c r) : a.grownBy c r :=
  ⟨k.os.trans h.os, k.tape.trans h.tape, k.output.trans h.output, Nat.le_trans h.size k.size, fun i hi hr => (k.block i (Nat.lt_of_lt_of_le hi h.size) hr).trans (h.block i hi hr)⟩
theorem grownBy_set {a b : World} {g : Nat} (h : a.grownBy b (some g)) (i : Nat) (v : Value) : a.grownBy (b.setCell ⟨g, i, none⟩ v) (some g) :=
  grownBy_trans h ⟨rfl, rfl, rfl, by rw [Deep.nblk_setCell]; exact Nat.le_refl _, fun k _ hr => Deep.blk_setCell_other _ _ _ _ (fun e => hr (by rw [e]))⟩

/-- What is made of two lists, index by index, or none. -/
def opB (g : Int → Int → Int) (l m : List Int) : Bool := alikeB l m && mayB (List.zipWith g l m)
def opL (g : Int → Int → Int) (l m : List Int) : List Int := if opB g l m = true then List.zipWith g l m else []
/-- The answer of such a call. -/
def OpTells (g : Int → Int → Int) (l m : List Int) (w : World) (e : Ending) (w' : World) : Prop :=
  ∃ v, e = .returned (.tuple #[v, .bool (opB g l m)]) ∧ SeesI w' v (opL g l m) ∧ Below w.heap.size w w'

/-- The row behind k rounds. -/
def part (g : Int → Int → Int) (l m : List Int) (k : Nat) : List Int := (List.zipWith g l m).take k ++ List.replicate (l.length - k) 0
theorem part_zero (g : Int → Int → Int) (l m : List Int) : part g l m 0 = List.replicate l.length 0 := by simp [part]
theorem part_len (g : Int → Int → Int) {l m : List Int} (h : l.length = m.length) {k : Nat} (hk : k ≤ l.length) : (part g l m k).length = l.length := by simp [part, h]; omega
theorem part_all (g : Int → Int → Int) {l m : List Int} (h : l.length = m.length) : part g l m l.length = List.zipWith g l m := by
  unfold part
  rw [List.take_of_length_le (by simp [h]), Nat.sub_self, List.replicate_zero, List.append_nil]
theorem part_set (g : Int → Int → Int) {l m : List Int} (h : l.length = m.length) {k : Nat} (hk : k < l.length) : (part g l m k).set k (g (l.getD k 0) (m.getD k 0)) = part g l m (k + 1) := by
  have hz : (List.zipWith g l m).length = l.length := by simp [h]
  have ht : ((List.zipWith g l m).take k).length = k := by rw [List.length_take]; omega
  apply List.ext_getElem?
  intro i
  unfold part
  rw [List.getElem?_set]
  by_cases e : k = i
  · subst e
    rw [if_pos rfl, if_pos (by simp [h]; omega), List.getElem?_append_left (by rw [List.length_take]; omega), List.getElem?_take_of_lt (by omega), List.getElem?_zipWith, List.getElem?_eq_getElem hk, List.getElem?_eq_getElem (by omega), List.getD_eq_getElem?_getD, List.getD_eq_getElem?_getD, List.getElem?_eq_getElem hk, List.getElem?_eq_getElem (by omega)]; rfl
  · rw [if_neg e]
    by_cases h1 : i < k
    · rw [List.getElem?_append_left (by omega), List.getElem?_append_left (by rw [List.length_take]; omega), List.getElem?_take_of_lt h1, List.getElem?_take_of_lt (by omega)]
    · rw [List.getElem?_append_right (by omega), List.getElem?_append_right (by rw [List.length_take]; omega), ht, List.length_take, List.getElem?_replicate, List.getElem?_replicate]
      congr 1
      rw [eq_iff_iff]; omega
theorem OpTells.of_none {g : Int → Int → Int} {l m : List Int} {w w' : World} (h : opB g l m = false) (hb : Below w.heap.size w w') : OpTells g l m w (.returned (.tuple #[.slice none 0 0, .bool false])) w' :=
  ⟨.slice none 0 0, by rw [h], by unfold opL; rw [h]; exact SeesF.nil _, hb⟩
theorem OpTells.of_some {g : Int → Int → Int} {l m : List Int} {w w' : World} {v : Value} (h : opB g l m = true) (hs : SeesI w' v (List.zipWith g l m)) (hb : Below w.heap.size w w') : OpTells g l m w (.returned (.tuple #[v, .bool true])) w' :=
  ⟨v, by rw [h], by unfold opL; rw [if_pos h]; exact hs, hb⟩
theorem opL_none {g : Int → Int → Int} {l m : List Int} (h : opB g l m = false) : opL g l m = [] := by unfold opL; rw [h]; rfl
theorem opL_some {g : Int → Int → Int} {l m : List Int} (h : opB g l m = true) : opL g l m = List.zipWith g l m := by unfold opL; rw [if_pos h]
end Go.Proofs.Ythlldjknmdndoaa
