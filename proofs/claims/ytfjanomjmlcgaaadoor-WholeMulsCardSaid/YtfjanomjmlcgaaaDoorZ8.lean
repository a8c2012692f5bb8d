/- What each statement of layer 2 asks first: 'awake' answers true. -/
import Derived.Test.YtfjanomjmlcgaaaDoorZ7
set_option linter.unusedVariables false
set_option linter.unusedSimpArgs false
namespace Go.Proofs.YtfjanomjmlcgaaaDoor
open Go.RowKit

theorem zlim_small (z : Int) (h : z.natAbs < 4294967296) : (zlim z).length ≤ 1 := limbs_length_le (by simpa using h)
theorem text_m4 : textZ (-4) = ⟨#[45, 52]⟩ := by
  have h : dec 4 = [52] := by
    unfold dec
    rw [if_neg (by decide)]
    rw [decR_pos (by decide)]
    decide
  unfold textZ
  rw [if_pos (by decide)]
  show (⟨(45 :: dec 4).toArray⟩ : ByteArray) = _
  rw [h]
theorem text_1 : textZ 1 = ⟨#[49]⟩ := by
  have h : dec 1 = [49] := by
    unfold dec
    rw [if_neg (by decide)]
    rw [decR_pos (by decide)]
    decide
  unfold textZ
  rw [if_neg (by decide)]
  show (⟨(dec 1).toArray⟩ : ByteArray) = _
  rw [h]

theorem one_box (w : World) (a0 a1 : Value) (t : TypeId) : ∃ w0 ga, w0 = w.alloc (.cells #[a0, a1] t) ∧ Below w.heap.size w w0 ∧ ga = w.heap.size ∧ Box w0 ga a0 a1 :=
  ⟨_, _, rfl, (Below.refl _ w).alloc (Nat.le_refl _) _, rfl, Box.new w _ _ _⟩
theorem three_boxes (w : World) (a0 a1 b0 b1 c0 c1 : Value) (t : TypeId) : ∃ w0 ga gb gc, w0 = ((w.alloc (.cells #[a0, a1] t)).alloc (.cells #[b0, b1] t)).alloc (.cells #[c0, c1] t) ∧ Below w.heap.size w w0 ∧ ga = w.heap.size ∧ gb = w.heap.size + 1 ∧ gc = w.heap.size + 1 + 1 ∧ Box w0 ga a0 a1 ∧ Box w0 gb b0 b1 ∧ Box w0 gc c0 c1 := by
  refine ⟨_, _, _, _, rfl, ?_, rfl, rfl, rfl, ?_, ?_, ?_⟩
  · exact (((Below.refl _ w).alloc (Nat.le_refl _) _).alloc (by simp) _).alloc (by simp; omega) _
  · exact ((Box.new w _ _ _).alloc _).alloc _
  · have := Box.new (w.alloc (.cells #[a0, a1] t)) b0 b1 t
    rw [Deep.nblk_alloc] at this
    exact this.alloc _
  · have := Box.new ((w.alloc (.cells #[a0, a1] t)).alloc (.cells #[b0, b1] t)) c0 c1 t
    rwa [Deep.nblk_alloc, Deep.nblk_alloc] at this
theorem SeesZ.form {w : World} {v : Value} {n : Bool} {l : List Nat} (h : SeesZ w v n l) : ∃ ao cap, v = .agg #[.bool n, .slice ao l.length cap] := by
  obtain ⟨m, rfl, hm⟩ := h
  obtain ⟨ao, cap, rfl, -, -, -, -, -⟩ := hm
  exact ⟨ao, cap, rfl⟩
theorem SeesZ.box {w : World} {g : Nat} {n : Bool} {ao : Option Addr} {len cap : Nat} {v : Value} {k : Bool} {l : List Nat} (h : SeesZ w v k l) (hb : Box w g (.bool n) (.slice ao len cap)) (a' b' : Value) : SeesZ ((w.setCell ⟨g, 0, none⟩ a').setCell ⟨g, 1, none⟩ b') v k l := by
  obtain ⟨m, rfl, hm⟩ := h
  exact ⟨m, rfl, hm.box hb a' b'⟩

/-- Two boxes, one after another. -/
theorem two_boxes (w : World) (a0 a1 b0 b1 : Value) (t : TypeId) : ∃ w0 ga gb, w0 = (w.alloc (.cells #[a0, a1] t)).alloc (.cells #[b0, b1] t) ∧ Below w.heap.size w w0 ∧ ga = w.heap.size ∧ gb = w.heap.size + 1 ∧ Box w0 ga a0 a1 ∧ Box w0 gb b0 b1 := by
  refine ⟨_, _, _, rfl, ?_, rfl, rfl, ?_, ?_⟩
  · exact ((Below.refl _ w).alloc (Nat.le_refl _) _).alloc (by simp) _
  · exact (Box.new w _ _ _).alloc _
  · have := Box.new (w.alloc (.cells #[a0, a1] t)) b0 b1 t
    rwa [Deep.nblk_alloc] at this

set_option maxRecDepth 100000 in
set_option maxHeartbeats 1000000 in
theorem awakeZ_any (w : World) : Calls Tryd.prog 25 #[] w fun e w' => e = .returned (.bool true) ∧ Below w.heap.size w w' := by
  go_enter Tryd.func25, Tryd.ntmps25
  go_wp2_with fail
  refine (whole_of (-7) (by omega) (by omega) _).mono ?_
  rintro e w1 ⟨v1, rfl, hz1, hb1⟩
  have HZ1 := hid hz1; have HB1 := hid hb1
  clear hz1 hb1
  go_wp2_with fail
  refine (whole_of 2 (by omega) (by omega) _).mono ?_
  rintro e w2 ⟨v2, rfl, hz2, hb2⟩
  have HZ12 := hid (HZ1.out.below hb2); have HZ2 := hid hz2; have HB2 := hid (step_below HB1.out hb2)
  clear hz2 hb2 HZ1 HB1
  have hd1 : zval (zneg (-7)) (zlim (-7)) / zval (zneg 2) (zlim 2) = -4 := by rw [zval_plain, zval_plain]; decide
  have hd2 : zval (zneg (-7)) (zlim (-7)) % zval (zneg 2) (zlim 2) = 1 := by rw [zval_plain, zval_plain]; decide
  have HD1 := hid hd1; have HD2 := hid hd2
  clear hd1 hd2
  go_wp2_with fail
  refine (whole_div HZ12.out.sees HZ2.out.sees (by have := zlim_small (-7) (by decide); omega) (by have := zlim_small 2 (by decide); omega) (by rw [val_zlim]; decide)).mono ?_
  rw [HD1.out, HD2.out]
  rintro e w3 ⟨q, r, rfl, hq, hr, hb3⟩
  have HQ := hid hq; have HR := hid hr; have HB3 := hid (step_below HB2.out hb3)
  obtain ⟨ao, ca, rfl⟩ := hq.form
  obtain ⟨bo, cb, rfl⟩ := hr.form
  clear hq hr hb3 HZ12 HZ2 HB2 HD1 HD2
  generalize hn1 : zneg (-4) = n1 at *
  generalize hl1 : zlim (-4) = l1 at *
  generalize hn2 : zneg 1 = n2 at *
  generalize hl2 : zlim 1 = l2 at *
  have HN := hid (And.intro hn1 (And.intro hl1 (And.intro hn2 hl2)))
  clear hn1 hl1 hn2 hl2
  obtain ⟨w4, g1, g2, hw4, b4, e1, e2, x1, x2⟩ := two_boxes w3 (.bool n1) (.slice ao l1.length ca) (.bool n2) (.slice bo l2.length cb) 34
  have HW := hid hw4.symm; have E1 := hid e1.symm; have E2 := hid e2.symm
  have X1 := hid x1; have X2 := hid x2; have HB4 := hid (step_below HB3.out b4)
  have HQ4 := hid (HQ.out.below b4); have HR4 := hid (HR.out.below b4)
  clear hw4 b4 e1 e2 x1 x2 HQ HR HB3
  go_wp2_with fail
  rw [HW.out, E2.out, E1.out]
  refine (whole_text (n := zneg (-4)) (l := zlim (-4)) HQ4.out (by have := zlim_small (-4) (by decide); omega)).mono ?_
  rw [zval_plain, text_m4]
  rintro e w5 ⟨rfl, hb5⟩
  have HB5 := hid (step_below HB4.out hb5); have X25 := hid (X2.out.below hb5); have HR5 := hid (HR4.out.below hb5)
  obtain ⟨c0, c1, f0, f1⟩ := X25.out.cells
  clear hb5 HB4 X1 X2 HQ4 HR4 HW E1 E2
  go_wp2_with fail
  refine (whole_text (n := zneg 1) (l := zlim 1) HR5.out (by have := zlim_small 1 (by decide); omega)).mono ?_
  rw [zval_plain, text_1]
  rintro e w6 ⟨rfl, hb6⟩
  have HB6 := hid (step_below HB5.out hb6)
  clear hb6 HB5 X25 HR5 c0 c1 f0 f1 HN
  go_wp2_with fail
  refine (whole_of (-3) (by omega) (by omega) _).mono ?_
  rintro e w7 ⟨v7, rfl, hz7, hb7⟩
  have HB7 := hid (step_below HB6.out hb7); have HZ7 := hid hz7
  clear hb7 HB6 hz7
  go_wp2_with fail
  refine (whole_sign HZ7.out.sees).mono ?_
  rw [zval_plain, show sgnI (-3) = -1 by decide]
  rintro e w8 ⟨rfl, hb8⟩
  have HB8 := hid (step_below HB7.out hb8)
  clear hb8 HB7 HZ7
  go_wp2
  go_ret
  exact ⟨rfl, HB8.out⟩
end Go.Proofs.YtfjanomjmlcgaaaDoor
