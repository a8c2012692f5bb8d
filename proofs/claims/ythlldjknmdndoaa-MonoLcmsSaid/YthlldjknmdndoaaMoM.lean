/- Slices of ints, slices of texts and rings in memory: what they read as; a block of the call's own. -/
import Derived.WalkKit
import Derived.Deep.LoopGhost
import Derived.Deep.OwnRows
import Derived.Deep.Draws
import Derived.Deep.QuietTactic
import Derived.Deep.RegionWith
import Derived.BigQuiet
import Derived.Test.YthlldjknmdndoaaRows
import Derived.Test.YthlldjknmdndoaaMoN
set_option linter.unusedVariables false
set_option linter.unusedSimpArgs false
namespace Go.Proofs.Ythlldjknmdndoaa
open Go.RowKit

theorem hidP {p : Prop} (h : p) : Hid p := h
theorem ret_int {k : IntKind} {a b : Int} (h : a = b) : Ending.returned (.int k a) = .returned (.int k b) := by rw [h]
theorem ret_bool {a b : Bool} (h : a = b) : Ending.returned (.bool a) = .returned (.bool b) := by rw [h]
theorem below_drewN {B : Nat} {a w : World} (h : Below B a w) (n : Nat) : Below B a (w.drewN n) := ⟨h.os, h.tape, h.output, h.size, h.block⟩
theorem step_below {w a b : World} (h : Below w.heap.size w a) (k : Below a.heap.size a b) : Below w.heap.size w b := h.trans (k.mono h.size)

/-- v is a slice whose cells are those of the list, each by f. -/
def SeesF {α : Type} (f : α → Value) (d : α) (w : World) (v : Value) (l : List α) : Prop :=
  ∃ ao cap, v = .slice ao l.length cap ∧ l.length ≤ cap ∧ l.length ≤ 70368744177664 ∧ (ao = none → cap = 0) ∧ (0 < l.length → ∃ b o, ao = some ⟨b, o, none⟩ ∧ ∀ i, i < l.length → w.cell? ⟨b, o + i, none⟩ = some (f (l.getD i d)))

namespace SeesF
variable {α : Type} {f : α → Value} {d : α} {w w' : World} {v : Value} {l : List α}
theorem nil (w : World) : SeesF f d w (.slice none 0 0) [] := ⟨none, 0, rfl, Nat.le_refl _, by simp, fun _ => rfl, fun h => absurd h (by simp)⟩
theorem len (h : SeesF f d w v l) : l.length ≤ 70368744177664 := by obtain ⟨_, _, _, _, h2, _, _⟩ := h; exact h2
theorem form (h : SeesF f d w v l) : ∃ ao cap, v = .slice ao l.length cap ∧ l.length ≤ cap := by obtain ⟨ao, cap, h1, h2, _, _, _⟩ := h; exact ⟨ao, cap, h1, h2⟩
theorem at' {ao : Option Addr} {len cap : Nat} (h : SeesF f d w (.slice ao len cap) l) (hp : 0 < l.length) : ∃ b o, ao = some ⟨b, o, none⟩ ∧ ∀ i, i < l.length → w.cell? ⟨b, o + i, none⟩ = some (f (l.getD i d)) := by
  obtain ⟨ao', cap', h1, h2, h3, hn0, h5⟩ := h
  simp only [Value.slice.injEq] at h1
  obtain ⟨rfl, rfl, rfl⟩ := h1
  exact h5 hp
theorem mono (h : SeesF f d w v l) (hc : ∀ p x, w.cell? p = some x → w'.cell? p = some x) : SeesF f d w' v l := by
  obtain ⟨ao, cap, h1, h2, h3, hn0, h5⟩ := h
  exact ⟨ao, cap, h1, h2, h3, hn0, fun hp => let ⟨b, o, ha, hcell⟩ := h5 hp; ⟨b, o, ha, fun i hi => hc _ _ (hcell i hi)⟩⟩
theorem below (h : SeesF f d w v l) (hb : Below w.heap.size w w') : SeesF f d w' v l :=
  h.mono fun p x hx => (hb.cell (World.block_lt_of_cell? w p hx)).trans hx
theorem drewN (h : SeesF f d w v l) (n : Nat) : SeesF f d (w.drewN n) v l := h
/-- The slice cut at its end: 'a[:n]'. -/
theorem take {ao : Option Addr} {len cap : Nat} (h : SeesF f d w (.slice ao len cap) l) (n : Nat) (hn : n ≤ l.length) : SeesF f d w (.slice ao n cap) (l.take n) := by
  obtain ⟨ao', cap', h1, h2, h3, hn0, h5⟩ := h
  simp only [Value.slice.injEq] at h1
  obtain ⟨rfl, rfl, rfl⟩ := h1
  have hl : (l.take n).length = n := by simp; omega
  refine ⟨ao, cap, by rw [hl], by omega, by omega, hn0, fun hp => ?_⟩
  obtain ⟨b, o, ha, hcell⟩ := h5 (by omega)
  refine ⟨b, o, ha, fun i hi => ?_⟩
  rw [hl] at hi
  rw [hcell i (by omega), List.getD_eq_getElem?_getD, List.getD_eq_getElem?_getD, List.getElem?_take_of_lt hi]
/-- The slice cut at its beginning: 'a[n:]', where something is left. -/
theorem drop {b o len cap : Nat} (h : SeesF f d w (.slice (some ⟨b, o, none⟩) len cap) l) (n : Nat) (hn : n < l.length) : SeesF f d w (.slice (some ⟨b, o + n, none⟩) (len - n) (cap - n)) (l.drop n) := by
  obtain ⟨ao', cap', h1, h2, h3, hn0, h5⟩ := h
  simp only [Value.slice.injEq] at h1
  obtain ⟨rfl, rfl, rfl⟩ := h1
  have hl : (l.drop n).length = l.length - n := by simp
  refine ⟨_, cap - n, by rw [hl], by omega, by omega, (fun e => by cases e), fun hp => ?_⟩
  obtain ⟨b', o', ha, hcell⟩ := h5 (by omega)
  obtain ⟨rfl, rfl, -⟩ := Addr.mk.inj (Option.some.inj ha)
  refine ⟨b, o + n, rfl, fun i hi => ?_⟩
  rw [hl] at hi
  rw [Nat.add_assoc, hcell (n + i) (by omega), List.getD_eq_getElem?_getD, List.getD_eq_getElem?_getD, List.getElem?_drop]
/-- .. written out, in a new block. -/
theorem lit (w : World) (t : TypeId) (l : List α) (hl : l.length ≤ 70368744177664) : SeesF f d (w.alloc (.cells (l.map f).toArray t)) (.slice (some ⟨w.heap.size, 0, none⟩) l.length l.length) l := by
  refine ⟨_, _, rfl, Nat.le_refl _, hl, (fun e => by cases e), fun hp => ⟨w.heap.size, 0, rfl, fun i hi => ?_⟩⟩
  rw [World.cell?_alloc_at _ _ _ _ rfl, Nat.zero_add, List.getElem?_toArray, List.getElem?_map, List.getD_eq_getElem?_getD, List.getElem?_eq_getElem hi]; rfl
end SeesF

/-- An int as a value. -/
def vI (x : Int) : Value := .int .i64 x
/-- v is a slice of the ints l. -/
def SeesI (w : World) (v : Value) (l : List Int) : Prop := SeesF vI 0 w v l
/-- v is a slice of the texts l. -/
def SeesS (w : World) (v : Value) (l : List ByteArray) : Prop := SeesF Value.string ByteArray.empty w v l
/-- v is a ring of these names, this order, this number of first ones. -/
def SeesR (w : World) (v : Value) (l : List ByteArray) (o f : Int) : Prop := ∃ m, v = .agg #[m, .int .i64 o, .int .i64 f] ∧ SeesS w m l

theorem SeesI.at {w : World} {ao : Option Addr} {len cap : Nat} {l : List Int} (h : SeesI w (.slice ao len cap) l) (hp : 0 < l.length) : ∃ b o, ao = some ⟨b, o, none⟩ ∧ ∀ i, i < l.length → w.cell? ⟨b, o + i, none⟩ = some (.int .i64 (l.getD i 0)) := SeesF.at' h hp
theorem SeesS.at {w : World} {ao : Option Addr} {len cap : Nat} {l : List ByteArray} (h : SeesS w (.slice ao len cap) l) (hp : 0 < l.length) : ∃ b o, ao = some ⟨b, o, none⟩ ∧ ∀ i, i < l.length → w.cell? ⟨b, o + i, none⟩ = some (.string (l.getD i ByteArray.empty)) := SeesF.at' h hp
theorem SeesI.below {w w' : World} {v : Value} {l : List Int} (h : SeesI w v l) (hb : Below w.heap.size w w') : SeesI w' v l := SeesF.below h hb
theorem SeesS.below {w w' : World} {v : Value} {l : List ByteArray} (h : SeesS w v l) (hb : Below w.heap.size w w') : SeesS w' v l := SeesF.below h hb
theorem SeesR.below {w w' : World} {v : Value} {l : List ByteArray} {o f : Int} (h : SeesR w v l o f) (hb : Below w.heap.size w w') : SeesR w' v l o f := by
  obtain ⟨m, rfl, hm⟩ := h; exact ⟨m, rfl, hm.below hb⟩
theorem SeesI.len {w : World} {v : Value} {l : List Int} (h : SeesI w v l) : l.length ≤ 70368744177664 := SeesF.len h
theorem SeesS.len {w : World} {v : Value} {l : List ByteArray} (h : SeesS w v l) : l.length ≤ 70368744177664 := SeesF.len h
theorem SeesI.drewN {w : World} {v : Value} {l : List Int} (h : SeesI w v l) (n : Nat) : SeesI (w.drewN n) v l := h
theorem SeesS.drewN {w : World} {v : Value} {l : List ByteArray} (h : SeesS w v l) (n : Nat) : SeesS (w.drewN n) v l := h
theorem SeesR.drewN {w : World} {v : Value} {l : List ByteArray} {o f : Int} (h : SeesR w v l o f) (n : Nat) : SeesR (w.drewN n) v l o f := h

/-- A struct of three cells in a block of its own. -/
def Box3 (w : World) (g : Nat) (a b c : Value) : Prop := ∃ t, w.heap[g]? = some (.cells #[a, b, c] t (0, 0))
namespace Box3
variable {w w' : World} {g : Nat} {a b c : Value}
theorem new (w : World) (a b c : Value) (t : TypeId) : Box3 (w.alloc (.cells #[a, b, c] t)) w.heap.size a b c := ⟨t, Deep.blk_alloc_new w _⟩
theorem cells (h : Box3 w g a b c) : w.cell? ⟨g, 0, none⟩ = some a ∧ w.cell? ⟨g, 1, none⟩ = some b ∧ w.cell? ⟨g, 2, none⟩ = some c := by
  obtain ⟨t, h⟩ := h
  refine ⟨?_, ?_, ?_⟩ <;> (simp only [World.cell?, h]; rfl)
theorem lt (h : Box3 w g a b c) : g < w.heap.size := World.block_lt_of_cell? w _ h.cells.1
theorem below (h : Box3 w g a b c) (hb : Below w.heap.size w w') : Box3 w' g a b c := by
  have hlt := h.lt
  obtain ⟨t, h⟩ := h
  exact ⟨t, (hb.block g hlt).trans h⟩
theorem alloc (h : Box3 w g a b c) (o : Obj) : Box3 (w.alloc o) g a b c := h.below ((Below.refl _ w).alloc (Nat.le_refl _) o)
theorem drewN (h : Box3 w g a b c) (n : Nat) : Box3 (w.drewN n) g a b c := h
end Box3

/-- The contract's words of a function that only reads. -/
def Reads (v : Value) (w : World) (e : Ending) (w' : World) : Prop := e = .returned v ∧ ∃ m, w' = w.drewN m
theorem Reads.quiet {P : Program} {f : FuncId} {args : Array Value} {w : World} {v : Value} (h : Calls P f args w fun e w' => Reads v w e w') : Calls P f args w fun e w'' => e = .returned v ∧ ∃ m, w'' = w.drewN m := h
theorem drewN_zero (w : World) : w.drewN 0 = w := rfl
end Go.Proofs.Ythlldjknmdndoaa
