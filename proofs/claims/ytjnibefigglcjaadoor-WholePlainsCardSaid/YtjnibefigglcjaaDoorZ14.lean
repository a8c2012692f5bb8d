/- whole.Neg; the document's Plain, Neg. -/
import Derived.Test.YtjnibefigglcjaaDoorZ13
set_option linter.unusedVariables false
set_option linter.unusedSimpArgs false
namespace Go.Proofs.YtjnibefigglcjaaDoor
open Go.RowKit

theorem zval_not (n : Bool) (l : List Nat) : zval (!n) l = - zval n l := by
  cases n <;> simp [zval]
set_option maxRecDepth 100000 in
set_option maxHeartbeats 1000000 in
theorem whole_neg {v : Value} {n : Bool} {l : List Nat} {w : World} (h : SeesZ w v n l) (hl : l.length ≤ 35184372088832) :
    Calls Tryd.prog 31 #[v] w fun e w' => IsInt w (zval (!n) l) e w' := by
  obtain ⟨m, rfl, hm⟩ := h
  have HM := hid hm
  obtain ⟨ao, cap, rfl, -, -, -, -, -⟩ := hm
  go_enter Tryd.func31, Tryd.ntmps31
  go_wp2_with fail
  obtain ⟨g, hg⟩ : ∃ g, g = w.heap.size := ⟨_, rfl⟩
  obtain ⟨r, hr⟩ : ∃ r, r = w.heap.size + 1 := ⟨_, rfl⟩
  obtain ⟨w0, hw0⟩ : ∃ x, x = (w.alloc (.cells #[.bool n, .slice ao l.length cap] 34)).alloc (.cells #[.bool false, .slice none 0 0] 34) := ⟨_, rfl⟩
  have B0 : Hid (Below w.heap.size w w0) := by rw [hw0]; exact ((Below.refl _ w).alloc (Nat.le_refl _) _).alloc (by simp) _
  have X0 : Box w0 g (.bool n) (.slice ao l.length cap) := by rw [hw0, hg]; exact (Box.new w _ _ _).alloc _
  have Y0 : Box w0 r (.bool false) (.slice none 0 0) := by
    rw [hw0, hr]
    have := Box.new (w.alloc (.cells #[.bool n, .slice ao l.length cap] 34)) (.bool false) (.slice none 0 0) 34
    rwa [Deep.nblk_alloc] at this
  have HM0 := hid (HM.out.below B0.out)
  have HG : Hid (w.heap.size ≤ g ∧ w.heap.size ≤ r) := by constructor <;> omega
  rw [← hw0, ← hr, ← hg]
  clear hw0 hr hg HM
  have HX0 := hid X0; have HY0 := hid Y0
  obtain ⟨c0, c1, f0, f1⟩ := X0.cells
  obtain ⟨d0, d1, k0, k1⟩ := Y0.cells
  clear X0 Y0
  go_region_with (first
    | (go_at_call 24; refine (nat_plain' (by exact HM0.out) hl).mono ?_; rintro e w1 ⟨v1, rfl, hs1, hb1⟩
       have HX1 := hid (Box.below (by exact HX0.out) hb1); have HY1 := hid (Box.below (by exact HY0.out) hb1)
       have B1 := hid (B0.out.drew.trans (Below.mono hb1 B0.out.drew.size))
       have HS1 := hid hs1
       obtain ⟨c0', c1', f0', f1'⟩ := HX1.out.cells
       clear hs1 hb1 c0 c1 f0 f1 d0 d1 k0 k1)
    | (go_at_call 74; refine (whole_signed (!n) (val l) (by exact HS1.out) (zval (!n) l) rfl).mono ?_; rintro e w2 ⟨v2, rfl, hz2, hb2⟩
       have HY2 := hid (Box.below (by exact HY1.out) hb2)
       have B2 := hid (B1.out.trans (Below.mono hb2 B1.out.size))
       have HZ2 := hid hz2
       obtain ⟨m2, rfl, hm2⟩ := hz2
       obtain ⟨ao2, cap2, rfl, -, -, -, -, -⟩ := hm2
       obtain ⟨d0', d1', k0', k1'⟩ := HY2.out.cells
       have hlt := HY2.out.lt
       clear hb2))
  all_goals
    have HY3 := hid (HY2.out.set (.bool (zneg (zval (!n) l))) (.slice ao2 (zlim (zval (!n) l)).length cap2))
    have HZ3 := hid (HZ2.out.box HY2.out (.bool (zneg (zval (!n) l))) (.slice ao2 (zlim (zval (!n) l)).length cap2))
    have B3 := hid (below_box B2.out HG.out.2 B2.out.size (.bool (zneg (zval (!n) l))) (.slice ao2 (zlim (zval (!n) l)).length cap2))
    obtain ⟨e0, e1, -, -⟩ := HY3.out.cells
    go_wp2
    refine bodyPost_ret (v := .agg #[.bool (zneg (zval (!n) l)), .slice ao2 (zlim (zval (!n) l)).length cap2]) ?_ rfl ⟨_, rfl, HZ3.out, B3.out⟩
    simp [results, Tryd.results31, go_sem, e0, e1]

set_option maxRecDepth 100000 in
set_option maxHeartbeats 1000000 in
theorem ref_plainZ {v : Value} {n : Bool} {l : List Nat} {w : World} (h : SeesZ w v n l) (hl : l.length ≤ 35184372088832) :
    Calls Tryd.prog 28 #[v] w fun e w' => IsInt w (zval n l) e w' := by
  obtain ⟨m, rfl, hm⟩ := h
  have HM := hid hm
  obtain ⟨ao, cap, rfl, -, -, -, -, -⟩ := hm
  obtain ⟨y, gA, gB, hy, b, e1, e2, xA, xB⟩ := two_boxes w (.bool n) (.slice ao l.length cap) (.bool false) (.slice none 0 0) 34
  have HY := hid hy.symm; have E1 := hid e1.symm; have E2 := hid e2.symm; have HXB := hid xB; have HB := hid b; have HS := hid (HM.out.below b)
  have HG : Hid (w.heap.size ≤ gB) := hid (by omega)
  clear hy e1 e2 xA xB b HM
  go_enter Tryd.func28, Tryd.ntmps28
  go_wp2_with fail
  rw [HY.out]
  refine (ref_make n HS.out hl (zval n l) rfl).mono ?_
  rintro e w1 ⟨v1, rfl, hz1, hb1⟩
  obtain ⟨ao1, cap1, rfl⟩ := hz1.form
  have HX1 := hid (HXB.out.below hb1)
  have HB1 := hid (step_below HB.out hb1)
  obtain ⟨g1, g2, g3⟩ := store_end HB1.out HG.out HX1.out hz1
  obtain ⟨c0, c1, f0, f1⟩ := HX1.out.cells
  have hlt := HX1.out.lt
  have HG1 := hid g1
  try rw [E2.out]
  clear hb1 hz1 g1 HY E1 E2 HB HXB HX1 HB1 HS HG
  generalize zneg (zval n l) = bb at *
  generalize zlim (zval n l) = ll at *
  go_wp2
  exact bodyPost_ret (v := .agg #[.bool bb, .slice ao1 ll.length cap1]) (by simp [results, Tryd.results28, go_sem, g2, g3]) rfl HG1.out

set_option maxRecDepth 100000 in
set_option maxHeartbeats 1000000 in
theorem ref_negZ {v : Value} {n : Bool} {l : List Nat} {w : World} (h : SeesZ w v n l) (hl : l.length ≤ 35184372088832) :
    Calls Tryd.prog 32 #[v] w fun e w' => IsInt w (zval (!n) l) e w' := by
  obtain ⟨m, rfl, hm⟩ := h
  have HM := hid hm
  obtain ⟨ao, cap, rfl, -, -, -, -, -⟩ := hm
  obtain ⟨y, gA, gB, hy, b, e1, e2, xA, xB⟩ := two_boxes w (.bool n) (.slice ao l.length cap) (.bool false) (.slice none 0 0) 34
  have HY := hid hy.symm; have E1 := hid e1.symm; have E2 := hid e2.symm; have HXB := hid xB; have HB := hid b; have HS := hid (HM.out.below b)
  have HG : Hid (w.heap.size ≤ gB) := hid (by omega)
  clear hy e1 e2 xA xB b HM
  go_enter Tryd.func32, Tryd.ntmps32
  go_wp2_with fail
  rw [HY.out]
  refine (ref_make (!n) HS.out hl (zval (!n) l) rfl).mono ?_
  rintro e w1 ⟨v1, rfl, hz1, hb1⟩
  obtain ⟨ao1, cap1, rfl⟩ := hz1.form
  have HX1 := hid (HXB.out.below hb1)
  have HB1 := hid (step_below HB.out hb1)
  obtain ⟨g1, g2, g3⟩ := store_end HB1.out HG.out HX1.out hz1
  obtain ⟨c0, c1, f0, f1⟩ := HX1.out.cells
  have hlt := HX1.out.lt
  have HG1 := hid g1
  try rw [E2.out]
  clear hb1 hz1 g1 HY E1 E2 HB HXB HX1 HB1 HS HG
  generalize zneg (zval (!n) l) = bb at *
  generalize zlim (zval (!n) l) = ll at *
  go_wp2
  exact bodyPost_ret (v := .agg #[.bool bb, .slice ao1 ll.length cap1]) (by simp [results, Tryd.results32, go_sem, g2, g3]) rfl HG1.out
end Go.Proofs.YtjnibefigglcjaaDoor
