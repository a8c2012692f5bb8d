/- whole.Plain, Neg, Sign by their contracts; the document's. -/
import Derived.Test.YtfjanomjmlcgaaaDoorZ1
import Derived.Test.YtfjanomjmlcgaaaDoorRef1
set_option linter.unusedVariables false
set_option linter.unusedSimpArgs false
namespace Go.Proofs.YtfjanomjmlcgaaaDoor
open Go.RowKit

/-- A struct of two cells in a block of its own. -/
def Box (w : World) (g : Nat) (a b : Value) : Prop := ∃ t, w.heap[g]? = some (.cells #[a, b] t (0, 0))
theorem Box.new (w : World) (a b : Value) (t : TypeId) : Box (w.alloc (.cells #[a, b] t)) w.heap.size a b := ⟨t, Deep.blk_alloc_new w _⟩
theorem Box.cells {w : World} {g : Nat} {a b : Value} (h : Box w g a b) : w.cell? ⟨g, 0, none⟩ = some a ∧ w.cell? ⟨g, 1, none⟩ = some b ∧ w.frozen? ⟨g, 0, none⟩ = false ∧ w.frozen? ⟨g, 1, none⟩ = false := by
  obtain ⟨t, h⟩ := h
  refine ⟨?_, ?_, ?_, ?_⟩
  · simp only [World.cell?, h]; rfl
  · simp only [World.cell?, h]; rfl
  · simp only [World.frozen?, h]; rfl
  · simp only [World.frozen?, h]; rfl
theorem Box.lt {w : World} {g : Nat} {a b : Value} (h : Box w g a b) : g < w.heap.size := World.block_lt_of_cell? w _ h.cells.1
theorem Box.below {w w' : World} {g : Nat} {a b : Value} (h : Box w g a b) (hb : Below w.heap.size w w') : Box w' g a b := by
  have hlt := h.lt
  obtain ⟨t, h⟩ := h
  exact ⟨t, (hb.block g hlt).trans h⟩
theorem Box.alloc {w : World} {g : Nat} {a b : Value} (h : Box w g a b) (o : Obj) : Box (w.alloc o) g a b := h.below ((Below.refl _ w).alloc (Nat.le_refl _) o)
/-- Both cells stored. -/
theorem Box.set {w : World} {g : Nat} {a b : Value} (h : Box w g a b) (a' b' : Value) : Box ((w.setCell ⟨g, 0, none⟩ a').setCell ⟨g, 1, none⟩ b') g a' b' := by
  obtain ⟨t, h⟩ := h
  refine ⟨t, ?_⟩
  simp [World.setCell, Array.getElem?_modify, h]
theorem Box.grown {w : World} {g : Nat} (a' b' : Value) : w.grownBy ((w.setCell ⟨g, 0, none⟩ a').setCell ⟨g, 1, none⟩ b') (some g) := grownBy_set (grownBy_set (World.grownBy.refl _ _) _ _) _ _
/-- No limbs lie in it. -/
theorem Sees.box {w : World} {g : Nat} {n : Bool} {ao : Option Addr} {len cap : Nat} {v : Value} {l : List Nat} (h : Sees w v l) (hb : Box w g (.bool n) (.slice ao len cap)) (a' b' : Value) : Sees ((w.setCell ⟨g, 0, none⟩ a').setCell ⟨g, 1, none⟩ b') v l := by
  obtain ⟨ao', cap', rfl, h2, h3, h4, hn0, h5⟩ := h
  refine ⟨ao', cap', rfl, h2, h3, h4, hn0, fun hp => ?_⟩
  obtain ⟨b, o, rfl, hcell⟩ := h5 hp
  refine ⟨b, o, rfl, fun i hi => (Box.grown a' b').cell (hcell i hi) ?_⟩
  have hc := hcell i hi
  intro e
  obtain ⟨t, hb⟩ := hb
  simp at e
  subst e
  simp only [World.cell?, hb] at hc
  match hoi : o + i with
  | 0 => rw [hoi] at hc; simp at hc
  | 1 => rw [hoi] at hc; simp at hc
  | k + 2 => rw [hoi] at hc; simp at hc
theorem IsZ.box {w : World} {g : Nat} {n : Bool} {ao : Option Addr} {len cap : Nat} {v : Value} {z : Int} (h : IsZ w v z) (hb : Box w g (.bool n) (.slice ao len cap)) (a' b' : Value) : IsZ ((w.setCell ⟨g, 0, none⟩ a').setCell ⟨g, 1, none⟩ b') v z := by
  obtain ⟨m, rfl, hm⟩ := h
  exact ⟨m, rfl, hm.box hb a' b'⟩
theorem below_box {a w : World} {g B : Nat} (h : Below B a w) (hg : B ≤ g) (hB : B ≤ w.heap.size) (a' b' : Value) : Below B a ((w.setCell ⟨g, 0, none⟩ a').setCell ⟨g, 1, none⟩ b') :=
  h.grown (Box.grown a' b') hB (fun k e => by simp at e; omega)

set_option maxRecDepth 100000 in
set_option maxHeartbeats 1000000 in
theorem whole_plain {v : Value} {n : Bool} {l : List Nat} {w : World} (h : SeesZ w v n l) (hl : l.length ≤ 35184372088832) :
    Calls Tryd.prog 27 #[v] w fun e w' => IsInt w (zval n l) e w' := by
  obtain ⟨m, rfl, hm⟩ := h
  have HM := hid hm
  obtain ⟨ao, cap, rfl, -, -, -, -, -⟩ := hm
  go_enter Tryd.func27, Tryd.ntmps27
  go_wp2_with fail
  obtain ⟨g, hg⟩ : ∃ g, g = w.heap.size := ⟨_, rfl⟩
  obtain ⟨r, hr⟩ : ∃ r, r = w.heap.size + 1 := ⟨_, rfl⟩
  obtain ⟨w0, hw0⟩ : ∃ x, x = (w.alloc (.cells #[.bool n, .slice ao l.length cap] 34)).alloc (.cells #[.bool false, .slice none 0 0] 34) := ⟨_, rfl⟩
  have B0 : Hid (Below w.heap.size w w0) := by rw [hw0]; exact ((Below.refl _ w).alloc (Nat.le_refl _) _).alloc (by simp) _
  have X0 : Box w0 g (.bool n) (.slice ao l.length cap) := by rw [hw0, hg]; exact (Box.new w _ _ _).alloc _
  have Y0 : Box w0 r (.bool false) (.slice none 0 0) := by
    rw [hw0, hr]
    have := Box.new (w.alloc (.cells #[.bool n, .slice ao l.length cap] 34)) (.bool false) (.slice none 0 0) 34
    rwa [Deep.nblk_alloc] at this
  have HM0 := hid (HM.out.below B0.out)
  have HG : Hid (w.heap.size ≤ g ∧ w.heap.size ≤ r) := by constructor <;> omega
  rw [← hw0, ← hr, ← hg]
  clear hw0 hr hg HM
  have HX0 := hid X0; have HY0 := hid Y0
  obtain ⟨c0, c1, f0, f1⟩ := X0.cells
  obtain ⟨d0, d1, k0, k1⟩ := Y0.cells
  clear X0 Y0
  go_region_with (first
    | (go_at_call 24; refine (nat_plain' (by exact HM0.out) hl).mono ?_; rintro e w1 ⟨v1, rfl, hs1, hb1⟩
       have HX1 := hid (Box.below (by exact HX0.out) hb1); have HY1 := hid (Box.below (by exact HY0.out) hb1)
       have B1 := hid (B0.out.drew.trans (Below.mono hb1 B0.out.drew.size))
       have HS1 := hid hs1
       obtain ⟨c0', c1', f0', f1'⟩ := HX1.out.cells
       clear hs1 hb1 c0 c1 f0 f1 d0 d1 k0 k1)
    | (go_at_call 74; refine (whole_signed n (val l) (by exact HS1.out) (zval n l) rfl).mono ?_; rintro e w2 ⟨v2, rfl, hz2, hb2⟩
       have HY2 := hid (Box.below (by exact HY1.out) hb2)
       have B2 := hid (B1.out.trans (Below.mono hb2 B1.out.size))
       have HZ2 := hid hz2
       obtain ⟨m2, rfl, hm2⟩ := hz2
       obtain ⟨ao2, cap2, rfl, -, -, -, -, -⟩ := hm2
       obtain ⟨d0', d1', k0', k1'⟩ := HY2.out.cells
       have hlt := HY2.out.lt
       clear hb2))
  all_goals
    have HY3 := hid (HY2.out.set (.bool (zneg (zval n l))) (.slice ao2 (zlim (zval n l)).length cap2))
    have HZ3 := hid (HZ2.out.box HY2.out (.bool (zneg (zval n l))) (.slice ao2 (zlim (zval n l)).length cap2))
    have B3 := hid (below_box B2.out HG.out.2 B2.out.size (.bool (zneg (zval n l))) (.slice ao2 (zlim (zval n l)).length cap2))
    obtain ⟨e0, e1, -, -⟩ := HY3.out.cells
    go_wp2
    refine bodyPost_ret (v := .agg #[.bool (zneg (zval n l)), .slice ao2 (zlim (zval n l)).length cap2]) ?_ rfl ⟨_, rfl, HZ3.out, B3.out⟩
    simp [results, Tryd.results27, go_sem, e0, e1]
end Go.Proofs.YtfjanomjmlcgaaaDoor
