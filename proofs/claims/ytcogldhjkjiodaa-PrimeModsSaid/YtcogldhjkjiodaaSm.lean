/- whole.Small, the document's Small and Div of layer 2. -/
import Derived.Test.YtcogldhjkjiodaaKW
set_option linter.unusedVariables false
set_option linter.unusedSimpArgs false
namespace Go.Proofs.Ytcogldhjkjiodaa
open Go.RowKit

set_option maxHeartbeats 1000000 in
theorem whole_small {v : Value} {n : Bool} {l : List Nat} {w : World} (h : SeesZ w v n l) :
    Calls Try.prog 45 #[v] w fun e w' => e = .returned (.tuple #[.int .i64 (smallI n l), .bool (smallB l)]) ∧ Below w.heap.size w w' := by
  obtain ⟨m, rfl, hm⟩ := h
  have HB := hid (box_below (w := w) n m)
  have hm1 := hm.below HB.out
  have HM1 := hid hm1
  obtain ⟨ao, cap, rfl, -, -, -, -, -⟩ := id hm
  clear hm hm1
  go_enter Try.func45, Try.ntmps45
  by_cases hs : val l < 9223372036854775808
  · have e1 : smallI n l = zval n l := by unfold smallI; rw [if_pos hs]
    have e2 : smallB l = true := by unfold smallB; simp [hs]
    have HC := hid (nat_small_ok HM1.out hs)
    rw [e1, e2]
    obtain ⟨x, hx⟩ : ∃ x, val l = x := ⟨_, rfl⟩
    have hz : zval n l = if n = true then -(x : Int) else (x : Int) := by unfold zval; rw [hx]
    rw [hx] at HC hs
    have HZ := hid hz
    clear hx hz e1 e2
    go_wp2_with fail
    refine HC.out.mono ?_
    rintro e w2 ⟨rfl, rfl⟩
    clear HC
    cases n
    · have hz := HZ.out
      simp only [Bool.false_eq_true, if_false] at hz
      have HZ2 := hid hz
      clear hz HZ
      go_wp2
      go_ret2
      exact ⟨by rw [HZ2.out]; rfl, HB.out⟩
    · have hz := HZ.out
      simp only [if_true] at hz
      have HZ2 := hid hz
      have ew : IntKind.i64.wrap (-(x : Int)) = -(x : Int) := by rw [IntKind.wrap_i64]; omega
      clear hz HZ
      go_wp2
      go_ret2
      exact ⟨by rw [HZ2.out]; rfl, HB.out⟩
  · have e1 : smallI n l = 0 := by unfold smallI; rw [if_neg hs]
    have e2 : smallB l = false := by unfold smallB; simp [hs]
    have HC := hid (nat_small_no HM1.out hs)
    rw [e1, e2]
    clear e1 e2 hs
    go_wp2_with fail
    refine HC.out.mono ?_
    rintro e w2 ⟨rfl, rfl⟩
    clear HC
    cases n
    · go_wp2
      go_ret2
      exact ⟨rfl, HB.out⟩
    · go_wp2
      go_ret2
      exact ⟨rfl, HB.out⟩

set_option maxHeartbeats 1000000 in
theorem ref_smallZ {v : Value} {n : Bool} {l : List Nat} {w : World} (h : SeesZ w v n l) (hl : l.length ≤ 35184372088000) :
    Calls Try.prog 27 #[v] w fun e w' => e = .returned (.tuple #[.int .i64 (smallI n l), .bool (smallB l)]) ∧ Below w.heap.size w w' := by
  obtain ⟨m, rfl, hm⟩ := h
  have HB := hid (box_below (w := w) n m)
  have HX := hid (Box.new w (.bool n) m 24)
  have hm1 := hm.below HB.out
  have HM1 := hid hm1
  obtain ⟨ao, cap, rfl, -, -, -, -, -⟩ := id hm
  clear hm hm1
  go_enter Try.func27, Try.ntmps27
  by_cases hs : val l < 9223372036854775808
  · have e1 : smallI n l = zval n l := by unfold smallI; rw [if_pos hs]
    have e2 : smallB l = true := by unfold smallB; simp [hs]
    have HC := hid (ref_small_ok HM1.out hl hs)
    rw [e1, e2]
    obtain ⟨x, hx⟩ : ∃ x, val l = x := ⟨_, rfl⟩
    have hz : zval n l = if n = true then -(x : Int) else (x : Int) := by unfold zval; rw [hx]
    rw [hx] at HC hs
    have HZ := hid hz
    clear hx hz e1 e2
    go_wp2_with fail
    refine HC.out.mono ?_
    rintro e w2 ⟨rfl, hb2⟩
    have HB2 := hid (step_below HB.out hb2)
    obtain ⟨c0, c1, f0, f1⟩ := (HX.out.below hb2).cells
    clear HC hb2
    cases n
    · have hz := HZ.out
      simp only [Bool.false_eq_true, if_false] at hz
      have HZ2 := hid hz
      clear hz HZ
      go_wp2
      go_ret2
      exact ⟨by rw [HZ2.out]; rfl, HB2.out⟩
    · have hz := HZ.out
      simp only [if_true] at hz
      have HZ2 := hid hz
      have ew : IntKind.i64.wrap (-(x : Int)) = -(x : Int) := by rw [IntKind.wrap_i64]; omega
      clear hz HZ
      go_wp2
      go_ret2
      exact ⟨by rw [HZ2.out]; rfl, HB2.out⟩
  · have e1 : smallI n l = 0 := by unfold smallI; rw [if_neg hs]
    have e2 : smallB l = false := by unfold smallB; simp [hs]
    have HC := hid (ref_small_no HM1.out hl hs)
    rw [e1, e2]
    clear e1 e2 hs
    go_wp2_with fail
    refine HC.out.mono ?_
    rintro e w2 ⟨rfl, hb2⟩
    have HB2 := hid (step_below HB.out hb2)
    clear HC hb2
    go_wp2
    go_ret2
    exact ⟨rfl, HB2.out⟩

set_option maxRecDepth 100000 in
set_option maxHeartbeats 4000000 in
theorem ref_divZ0 {a b : Value} {n k : Bool} {l m : List Nat} {w : World} (ha : SeesZ w a n l) (hb : SeesZ w b k m) (hl : l.length ≤ 35184372088000) (hm : m.length ≤ 35184372088000) (h0 : val m = 0) :
    Calls Try.prog 25 #[a, b] w fun e w' => ∃ q r, e = .returned (.tuple #[q, r, .bool false]) ∧ SeesZ w' q false [] ∧ SeesZ w' r false [] ∧ Below w.heap.size w w' := by
  obtain ⟨va, rfl, ha⟩ := ha
  obtain ⟨vb, rfl, hb⟩ := hb
  have HA := hid ha; have HB := hid hb
  obtain ⟨aa, ca, rfl, -, -, -, -, -⟩ := ha
  obtain ⟨ab, cb, rfl, -, -, -, -, -⟩ := hb
  obtain ⟨w0, ga, gb, g1, g2, hw0, b0, e1, e2, e3, e4, x1, x2, y1, y2⟩ := four_boxes w (.bool n) (.slice aa l.length ca) (.bool k) (.slice ab m.length cb) (.bool false) (.slice none 0 0) (.bool false) (.slice none 0 0) 24
  have HW := hid hw0.symm
  have HG : Hid (w.heap.size ≤ g1 ∧ w.heap.size ≤ g2 ∧ g1 ≠ g2) := by refine ⟨?_, ?_, ?_⟩ <;> omega
  have E1 := hid e1.symm; have E2 := hid e2.symm; have E3 := hid e3.symm; have E4 := hid e4.symm
  have B0 := hid b0; have Y1 := hid y1; have Y2 := hid y2
  have HA0 := hid (HA.out.below b0); have HB0 := hid (HB.out.below b0)
  have H0 := hid h0
  clear hw0 b0 x1 x2 y1 y2 HA HB e1 e2 e3 e4 h0
  go_enter Try.func25, Try.ntmps25
  go_wp2_with fail
  rw [HW.out, E4.out, E3.out, E2.out, E1.out]
  clear HW E1 E2 E3 E4
  refine (ref_div_zero HA0.out HB0.out hl hm H0.out).mono ?_
  rintro e w1 ⟨rfl, hb1⟩
  have B1 := hid (step_below B0.out hb1); have Y11 := hid (Y1.out.below hb1); have Y21 := hid (Y2.out.below hb1)
  clear B0 Y1 Y2 hb1
  obtain ⟨w7, hw7, z7, y7, b7, m0, m1, m2, m3⟩ := store_end2 B1.out HG.out.1 HG.out.2.1 HG.out.2.2 Y11.out Y21.out (isZ_zero _) (isZ_zero _)
  obtain ⟨c0, c1, f0, f1⟩ := Y11.out.cells
  obtain ⟨d0, d1, k0, k1⟩ := Y21.out.cells
  obtain ⟨q0, q1, q2, q3⟩ := (Y21.out.other (Ne.symm HG.out.2.2) (.bool false) (.slice none 0 0)).cells
  have hlt := Y11.out.lt
  have hlt2 := Y21.out.lt
  have HZ7 := hid z7; have HY7 := hid y7; have HB7 := hid b7; have HW7 := hid hw7.symm
  have HNE := HG.out.2.2
  clear z7 y7 b7 hw7
  go_wp2
  rw [HW7.out]
  exact bodyPost_ret (v := .tuple #[.agg #[.bool false, .slice none 0 0], .agg #[.bool false, .slice none 0 0], .bool false]) (by simp [results, Try.results25, go_sem, m0, m1, m2, m3]) rfl ⟨_, _, rfl, HZ7.out, HY7.out, HB7.out⟩

set_option maxRecDepth 100000 in
set_option maxHeartbeats 4000000 in
theorem ref_divZ {a b : Value} {n k : Bool} {l m : List Nat} {w : World} (ha : SeesZ w a n l) (hb : SeesZ w b k m) (hl : l.length ≤ 100000) (hm : m.length ≤ 100000) (h0 : 0 < val m) :
    Calls Try.prog 25 #[a, b] w fun e w' => ∃ q r, e = .returned (.tuple #[q, r, .bool true]) ∧ IsZ w' q (zval n l / zval k m) ∧ IsZ w' r (zval n l % zval k m) ∧ Below w.heap.size w w' := by
  obtain ⟨va, rfl, ha⟩ := ha
  obtain ⟨vb, rfl, hb⟩ := hb
  have HA := hid ha; have HB := hid hb
  have hok := ha.ok
  have hokm := hb.ok
  have HL1 : Hid ((limbs (val l / val m)).length ≤ 100000) := Nat.le_trans (limbs_length_le (Nat.lt_of_le_of_lt (Nat.div_le_self _ _) (val_lt hok))) hl
  have HL2 : Hid ((limbs (val l % val m)).length ≤ 100000) := Nat.le_trans (limbs_length_le (Nat.lt_of_le_of_lt (Nat.mod_le _ _) (val_lt hok))) hl
  have HL3 : Hid ((limbs (val m - val l % val m)).length ≤ 100000) := Nat.le_trans (limbs_length_le (Nat.lt_of_le_of_lt (Nat.sub_le _ _) (val_lt hokm))) hm
  have HL4 : Hid ((limbs (val l / val m + 1)).length ≤ 100001) := by
    refine limbs_length_le ?_
    obtain ⟨N, hN⟩ : ∃ N, N = 100000 := ⟨_, rfl⟩
    have h1 : val l / val m < 4294967296 ^ N := Nat.lt_of_lt_of_le (Nat.lt_of_le_of_lt (Nat.div_le_self _ _) (val_lt hok)) (Nat.pow_le_pow_right (by decide) (by omega))
    rw [show 100001 = N + 1 by omega, Nat.pow_succ]
    generalize 4294967296 ^ N = P at h1 ⊢
    generalize val l / val m = Q at h1 ⊢
    omega
  obtain ⟨aa, ca, rfl, -, -, -, -, -⟩ := ha
  obtain ⟨ab, cb, rfl, -, -, -, -, -⟩ := hb
  obtain ⟨w0, ga, gb, g1, g2, hw0, b0, e1, e2, e3, e4, x1, x2, y1, y2⟩ := four_boxes w (.bool n) (.slice aa l.length ca) (.bool k) (.slice ab m.length cb) (.bool false) (.slice none 0 0) (.bool false) (.slice none 0 0) 24
  have HW := hid hw0.symm
  have HG : Hid (w.heap.size ≤ g1 ∧ w.heap.size ≤ g2 ∧ g1 ≠ g2) := by refine ⟨?_, ?_, ?_⟩ <;> omega
  have E1 := hid e1.symm; have E2 := hid e2.symm; have E3 := hid e3.symm; have E4 := hid e4.symm
  have B0 := hid b0; have X1 := hid x1; have X2 := hid x2; have Y1 := hid y1; have Y2 := hid y2
  have HA0 := hid (HA.out.below b0); have HB0 := hid (HB.out.below b0)
  clear hw0 b0 x1 x2 y1 y2 HA HB e1 e2 e3 e4
  go_enter Try.func25, Try.ntmps25
  go_wp2_with fail
  rw [HW.out, E4.out, E3.out, E2.out, E1.out]
  clear HW E1 E2 E3 E4
  refine (ref_div_pos HA0.out HB0.out hl hm h0).mono ?_
  rintro e w1 ⟨vq, vr, rfl, hq, hr, hb1⟩
  have B1 := hid (B0.out.trans (hb1.mono B0.out.size))
  have X11 := hid (X1.out.below hb1); have X21 := hid (X2.out.below hb1); have Y11 := hid (Y1.out.below hb1); have Y21 := hid (Y2.out.below hb1)
  have HB1 := hid (HB0.out.below hb1)
  have HQ := hid hq; have HR := hid hr
  clear hb1 hq hr B0 X1 X2 Y1 Y2 HA0 HB0
  obtain ⟨qa, qc, rfl, -, -, -, -, -⟩ := id HQ.out
  obtain ⟨ra, rc, rfl, -, -, -, -, -⟩ := id HR.out
  by_cases hcase : n = false ∨ val l % val m = 0
  · cases n
    · have HD := hid (div_keep false k k (by cases k <;> rfl) l m h0 hcase)
      clear hcase
      obtain ⟨p0, p1, p2, p3⟩ := X11.out.cells
      clear p1 p2 p3
      have hdz := HD.out
      obtain ⟨c0, c1, f0, f1⟩ := X11.out.cells
      obtain ⟨d0, d1, k0, k1⟩ := X21.out.cells
      go_wp2_with fail
      refine (ref_make' _ _ HQ.out (by first | exact HL4.out | (have := HL1.out; omega)) _ rfl).mono ?_
      rintro e w5 ⟨v5, rfl, hz5, hb5⟩
      rw [hdz.1] at hz5
      have B5 := hid (B1.out.trans (hb5.mono B1.out.size))
      have Y15 := hid (Y11.out.below hb5); have Y25 := hid (Y21.out.below hb5); have HR5 := hid (HR.out.below hb5)
      obtain ⟨ao5, cap5, rfl⟩ := hz5.form
      have HZ5 := hid hz5
      clear hb5 hz5 Y11 Y21 B1 HQ HR c0 c1 f0 f1 d0 d1 k0 k1
      go_wp2_with fail
      refine (ref_make' false _ HR5.out (by first | (have := HL3.out; omega) | (have := HL2.out; omega) | decide) _ rfl).mono ?_
      rintro e w6 ⟨v6, rfl, hz6, hb6⟩
      have hz6' := hz6
      rw [if_neg (by decide), hdz.2] at hz6'
      have B6 := hid (B5.out.trans (hb6.mono B5.out.size))
      have Y16 := hid (Y15.out.below hb6); have Y26 := hid (Y25.out.below hb6); have HZ56 := hid (HZ5.out.below hb6)
      obtain ⟨ao6, cap6, rfl⟩ := hz6'.form
      obtain ⟨w7, hw7, z7, y7, b7, m0, m1, m2, m3⟩ := store_end2 B6.out HG.out.1 HG.out.2.1 HG.out.2.2 Y16.out Y26.out HZ56.out hz6'
      obtain ⟨c0, c1, f0, f1⟩ := Y16.out.cells
      obtain ⟨d0, d1, k0, k1⟩ := Y26.out.cells
      have i0 := (Y16.out.other HG.out.2.2 (.bool true) (.bool true))
      have x26 := (Y26.out.other (Ne.symm HG.out.2.2) (.bool (zneg (zval false l / zval k m))) (.slice ao5 (zlim (zval false l / zval k m)).length cap5)).cells
      obtain ⟨q0, q1, q2, q3⟩ := x26
      have hlt := Y16.out.lt
      have hlt2 := Y26.out.lt
      have HZ7 := hid z7; have HY7 := hid y7; have HB7 := hid b7; have HW7 := hid hw7.symm
      have HNE := HG.out.2.2
      clear hb6 hz6 hz6' HZ5 HR5 Y15 Y25 B5 z7 y7 b7 hw7 HD hdz i0
      generalize zneg (zval false l / zval k m) = nb1 at *
      generalize zlim (zval false l / zval k m) = lb1 at *
      generalize zneg (zval false l % zval k m) = nb2 at *
      generalize zlim (zval false l % zval k m) = lb2 at *
      go_wp2
      rw [HW7.out]
      exact bodyPost_ret (v := .tuple #[.agg #[.bool nb1, .slice ao5 lb1.length cap5], .agg #[.bool nb2, .slice ao6 lb2.length cap6], .bool true]) (by simp [results, Try.results25, go_sem, m0, m1, m2, m3]) rfl ⟨_, _, rfl, HZ7.out, HY7.out, HB7.out⟩
    · have hr0 : val l % val m = 0 := by rcases hcase with h | h; cases h; exact h
      have HD := hid (div_keep true k (!k) (by cases k <;> rfl) l m h0 hcase)
      have HR0 := hid hr0
      clear hcase hr0
      simp only [HR0.out, limbs_zero, List.length_nil] at HR ⊢
      have hr00 := HR0.out
      have HL2' : Hid ((limbs 0).length ≤ 100000) := by show _ ≤ _; decide
      have hdz := HD.out
      obtain ⟨c0, c1, f0, f1⟩ := X11.out.cells
      obtain ⟨d0, d1, k0, k1⟩ := X21.out.cells
      go_wp2_with fail
      refine (ref_make' _ _ HQ.out (by first | exact HL4.out | (have := HL1.out; omega)) _ rfl).mono ?_
      rintro e w5 ⟨v5, rfl, hz5, hb5⟩
      rw [hdz.1] at hz5
      have B5 := hid (B1.out.trans (hb5.mono B1.out.size))
      have Y15 := hid (Y11.out.below hb5); have Y25 := hid (Y21.out.below hb5); have HR5 := hid (HR.out.below hb5)
      obtain ⟨ao5, cap5, rfl⟩ := hz5.form
      have HZ5 := hid hz5
      clear hb5 hz5 Y11 Y21 B1 HQ HR c0 c1 f0 f1 d0 d1 k0 k1
      go_wp2_with fail
      refine (ref_make' false 0 (by exact HR5.out) (by decide) _ rfl).mono ?_
      rintro e w6 ⟨v6, rfl, hz6, hb6⟩
      have hz6' := hz6
      have hdz2 : ((0 : Nat) : Int) = zval true l % zval k m := by have h5 := hdz.2; rw [HR0.out] at h5; exact h5
      rw [if_neg (by decide), hdz2] at hz6'
      have B6 := hid (B5.out.trans (hb6.mono B5.out.size))
      have Y16 := hid (Y15.out.below hb6); have Y26 := hid (Y25.out.below hb6); have HZ56 := hid (HZ5.out.below hb6)
      obtain ⟨ao6, cap6, rfl⟩ := hz6'.form
      obtain ⟨w7, hw7, z7, y7, b7, m0, m1, m2, m3⟩ := store_end2 B6.out HG.out.1 HG.out.2.1 HG.out.2.2 Y16.out Y26.out HZ56.out hz6'
      obtain ⟨c0, c1, f0, f1⟩ := Y16.out.cells
      obtain ⟨d0, d1, k0, k1⟩ := Y26.out.cells
      have i0 := (Y16.out.other HG.out.2.2 (.bool true) (.bool true))
      have x26 := (Y26.out.other (Ne.symm HG.out.2.2) (.bool (zneg (zval true l / zval k m))) (.slice ao5 (zlim (zval true l / zval k m)).length cap5)).cells
      obtain ⟨q0, q1, q2, q3⟩ := x26
      have hlt := Y16.out.lt
      have hlt2 := Y26.out.lt
      have HZ7 := hid z7; have HY7 := hid y7; have HB7 := hid b7; have HW7 := hid hw7.symm
      have HNE := HG.out.2.2
      clear hb6 hz6 hz6' HZ5 HR5 Y15 Y25 B5 z7 y7 b7 hw7 HD hdz i0
      generalize zneg (zval true l / zval k m) = nb1 at *
      generalize zlim (zval true l / zval k m) = lb1 at *
      generalize zneg (zval true l % zval k m) = nb2 at *
      generalize zlim (zval true l % zval k m) = lb2 at *
      go_wp2
      rw [HW7.out]
      exact bodyPost_ret (v := .tuple #[.agg #[.bool nb1, .slice ao5 lb1.length cap5], .agg #[.bool nb2, .slice ao6 lb2.length cap6], .bool true]) (by simp [results, Try.results25, go_sem, m0, m1, m2, m3]) rfl ⟨_, _, rfl, HZ7.out, HY7.out, HB7.out⟩
  · have hr0 : ¬ val l % val m = 0 := fun h => hcase (.inr h)
    have hn : n = true := by cases n; exact absurd (.inl rfl) hcase; rfl
    subst hn
    have HD := hid (div_lift k (!k) (by cases k <;> rfl) l m h0 hr0)
    have HR0 := hid hr0
    have HLE : Hid (val l % val m ≤ val m) := Nat.le_of_lt (Nat.mod_lt _ h0)
    have hrl := (limbs_last (Nat.pos_of_ne_zero hr0)).1
    obtain ⟨p0, p1, p2, p3⟩ := X11.out.cells
    clear hcase hr0
    go_wp2_with fail
    refine (ref_of 1 (by omega) (by omega) _).mono ?_
    rintro e w3 ⟨v3, rfl, hs3, hb3⟩
    clear p0 p1 p2 p3
    have B1' := hid (B1.out.trans (hb3.mono B1.out.size))
    have X11' := hid (X11.out.below hb3); have X21' := hid (X21.out.below hb3); have Y11' := hid (Y11.out.below hb3); have Y21' := hid (Y21.out.below hb3)
    have HQ' := hid (HQ.out.below hb3); have HR' := hid (HR.out.below hb3); have HB1' := hid (HB1.out.below hb3); have HS3 := hid hs3
    clear hb3 hs3 B1 X11 X21 Y11 Y21 HQ HR HB1
    go_wp2_with fail
    refine (ref_addV HQ'.out HS3.out (by have := HL1.out; omega) (by decide)).mono ?_
    rw [val_limbs, val_limbs]
    rintro e w4 ⟨v4, rfl, hs4, hb4⟩
    have B1 := hid (B1'.out.trans (hb4.mono B1'.out.size))
    have X11 := hid (X11'.out.below hb4); have X21 := hid (X21'.out.below hb4); have Y11 := hid (Y11'.out.below hb4); have Y21 := hid (Y21'.out.below hb4)
    have HR := hid (HR'.out.below hb4); have HB1 := hid (HB1'.out.below hb4); have HQ : Hid (Sees w4 v4 (limbs (val l / val m + 1))) := hs4
    clear hb4 hs4 B1' X11' X21' Y11' Y21' HQ' HR' HB1' HS3
    obtain ⟨p0, p1, p2, p3⟩ := X21.out.cells
    go_wp2_with fail
    refine (ref_sub_ok _ _ _ _ _ _ _ HB1.out HR.out (by omega) (by rw [val_limbs]; exact HLE.out)).mono ?_
    rw [val_limbs]
    rintro e w8 ⟨v8, rfl, hs8, hb8⟩
    have B1' := hid (B1.out.trans (hb8.mono B1.out.size))
    have X11' := hid (X11.out.below hb8); have X21' := hid (X21.out.below hb8); have Y11' := hid (Y11.out.below hb8); have Y21' := hid (Y21.out.below hb8)
    have HQ' := hid (HQ.out.below hb8); have HR' := hid hs8
    clear hb8 hs8 B1 X11 X21 Y11 Y21 HQ HR HB1 p0 p1 p2 p3
    have B1 := B1'; have X11 := X11'; have X21 := X21'; have Y11 := Y11'; have Y21 := Y21'; have HQ := HQ'; have HR := HR'
    clear B1' X11' X21' Y11' Y21' HQ' HR'
    have hdz := HD.out
    obtain ⟨c0, c1, f0, f1⟩ := X11.out.cells
    obtain ⟨d0, d1, k0, k1⟩ := X21.out.cells
    go_wp2_with fail
    refine (ref_make' _ _ HQ.out (by first | exact HL4.out | (have := HL1.out; omega)) _ rfl).mono ?_
    rintro e w5 ⟨v5, rfl, hz5, hb5⟩
    rw [hdz.1] at hz5
    have B5 := hid (B1.out.trans (hb5.mono B1.out.size))
    have Y15 := hid (Y11.out.below hb5); have Y25 := hid (Y21.out.below hb5); have HR5 := hid (HR.out.below hb5)
    obtain ⟨ao5, cap5, rfl⟩ := hz5.form
    have HZ5 := hid hz5
    clear hb5 hz5 Y11 Y21 B1 HQ HR c0 c1 f0 f1 d0 d1 k0 k1
    go_wp2_with fail
    refine (ref_make' false _ HR5.out (by first | (have := HL3.out; omega) | (have := HL2.out; omega) | decide) _ rfl).mono ?_
    rintro e w6 ⟨v6, rfl, hz6, hb6⟩
    have hz6' := hz6
    rw [if_neg (by decide), hdz.2] at hz6'
    have B6 := hid (B5.out.trans (hb6.mono B5.out.size))
    have Y16 := hid (Y15.out.below hb6); have Y26 := hid (Y25.out.below hb6); have HZ56 := hid (HZ5.out.below hb6)
    obtain ⟨ao6, cap6, rfl⟩ := hz6'.form
    obtain ⟨w7, hw7, z7, y7, b7, m0, m1, m2, m3⟩ := store_end2 B6.out HG.out.1 HG.out.2.1 HG.out.2.2 Y16.out Y26.out HZ56.out hz6'
    obtain ⟨c0, c1, f0, f1⟩ := Y16.out.cells
    obtain ⟨d0, d1, k0, k1⟩ := Y26.out.cells
    have i0 := (Y16.out.other HG.out.2.2 (.bool true) (.bool true))
    have x26 := (Y26.out.other (Ne.symm HG.out.2.2) (.bool (zneg (zval true l / zval k m))) (.slice ao5 (zlim (zval true l / zval k m)).length cap5)).cells
    obtain ⟨q0, q1, q2, q3⟩ := x26
    have hlt := Y16.out.lt
    have hlt2 := Y26.out.lt
    have HZ7 := hid z7; have HY7 := hid y7; have HB7 := hid b7; have HW7 := hid hw7.symm
    have HNE := HG.out.2.2
    clear hb6 hz6 hz6' HZ5 HR5 Y15 Y25 B5 z7 y7 b7 hw7 HD hdz i0
    generalize zneg (zval true l / zval k m) = nb1 at *
    generalize zlim (zval true l / zval k m) = lb1 at *
    generalize zneg (zval true l % zval k m) = nb2 at *
    generalize zlim (zval true l % zval k m) = lb2 at *
    go_wp2
    rw [HW7.out]
    exact bodyPost_ret (v := .tuple #[.agg #[.bool nb1, .slice ao5 lb1.length cap5], .agg #[.bool nb2, .slice ao6 lb2.length cap6], .bool true]) (by simp [results, Try.results25, go_sem, m0, m1, m2, m3]) rfl ⟨_, _, rfl, HZ7.out, HY7.out, HB7.out⟩

end Go.Proofs.Ytcogldhjkjiodaa
