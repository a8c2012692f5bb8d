/- For all fractions x, y (the first 40 limbs): if x is below y, To(x) is not above To(y), and the other way round; if they are the same, both floats are; and each float has its fraction's sign. Conditions: none. -/
import Derived.Test.YtcogldhjkjiodaaGreatDr
import Derived.Test.YtcogldhjkjiodaaGreatDs
import Derived.Test.YtcogldhjkjiodaaGreatDc
import Derived.Test.YtcogldhjkjiodaaGreatOq
import Derived.Test.YtcogldhjkjiodaaGreatKQ
import Derived.HandedShaped
set_option linter.unusedVariables false
set_option linter.unusedSimpArgs false
namespace Go.Proofs.YtcogldhjkjiodaaGreat.approxRises
open Go.ChangeShapes Go.WideShapes Go.ChangeAt Go.RowKit

theorem tq_neg {A : Int} {C : Nat} (h : A < 0) : srung (tq A C) < 0 ∨ tq A C = 9223372036854775808 := by
  rw [tq_srung]
  unfold kq tq
  rw [if_neg (by omega), if_pos h, if_neg (by omega), decide_eq_true h]
  rcases Nat.eq_zero_or_pos (nearF A.natAbs C) with h2 | h2
  · exact .inr (by rw [h2]; rfl)
  · exact .inl (by omega)
theorem tq_nonneg {A : Int} {C : Nat} (h : ¬ A < 0) : 0 < srung (tq A C) ∨ tq A C = 0 := by
  rw [tq_srung]
  unfold kq tq
  by_cases h0 : A = 0
  · exact .inr (if_pos h0)
  · rw [if_neg h0, if_neg h, if_neg h0, decide_eq_false h]
    rcases Nat.eq_zero_or_pos (nearF A.natAbs C) with h2 | h2
    · exact .inr (by rw [h2]; rfl)
    · exact .inl (by omega)
theorem gt_no {a b : Nat} (h : srung a ≤ srung b) : (FloatKind.f64.format.order a b == some .gt) = false := by
  refine (order_gt a b).trans ?_
  rw [decide_eq_false (by omega), Bool.and_false]
theorem lt_no {a b : Nat} (h : srung b ≤ srung a) : (FloatKind.f64.format.order a b == some .lt) = false := by
  refine (order_lt a b).trans ?_
  rw [decide_eq_false (by omega), Bool.and_false]
theorem lt_yes {a b : Nat} (ha : isNan a = false) (hb : isNan b = false) (h : srung a < srung b) : (FloatKind.f64.format.order a b == some .lt) = true := by
  refine (order_lt a b).trans ?_
  unfold fnum; rw [ha, hb, decide_eq_true h]; rfl
theorem gt_yes {a b : Nat} (ha : isNan a = false) (hb : isNan b = false) (h : srung b < srung a) : (FloatKind.f64.format.order a b == some .gt) = true := by
  refine (order_gt a b).trans ?_
  unfold fnum; rw [ha, hb, decide_eq_true h]; rfl
theorem same_self {a : Nat} (h : isNan a = false) : sameB a a = true := by unfold sameB; rw [h]; simp
theorem len40 (l : List Nat) : (l.take 40).length ≤ 40 := by simp; omega
theorem sgnI_cases (z : Int) : (sgnI z = -1 ∧ z < 0) ∨ (sgnI z = 0 ∧ z = 0) ∨ (sgnI z = 1 ∧ 0 < z) := by
  unfold sgnI
  rcases Int.lt_trichotomy z 0 with h | h | h
  · left; rw [if_pos h]; exact ⟨rfl, h⟩
  · right; left; subst h; exact ⟨by simp, rfl⟩
  · right; right; rw [if_neg (by omega), if_neg (by omega)]; exact ⟨rfl, h⟩

set_option maxRecDepth 100000 in
set_option maxHeartbeats 8000000 in
theorem walk {va vb : Value} {na nb : Bool} {xa ya xb yb : List Nat} {w : World} (ha : SeesQ w va na xa ya) (hxa : xa.length ≤ 35184372087808) (hya : ya.length ≤ 35184372087808) (hb : SeesQ w vb nb xb yb) (hxb : xb.length ≤ 35184372087808) (hyb : yb.length ≤ 35184372087808) :
    Calls Tryz.prog 7 #[va, vb] w fun e w' => e = .returned (.bool true) ∧ Below w.heap.size w w' := by
  have l1 := len40 xa; have l2 := len40 ya; have l3 := len40 xb; have l4 := len40 yb
  have HSA := hid (fun (w' : World) (h : Below w.heap.size w w') => law_shortQ 40 (ha.below h) (by decide))
  have HSB := hid (fun (w' : World) (h : Below w.heap.size w w') => law_shortQ 40 (hb.below h) (by decide))
  obtain ⟨ao, ac, bo, bc, rfl⟩ := id ha.form
  obtain ⟨co, cc, eo, ec, rfl⟩ := id hb.form
  generalize xa.take 40 = la at *
  generalize ya.take 40 = da at *
  generalize xb.take 40 = lb at *
  generalize yb.take 40 = db at *
  have hka : Ok xa := by obtain ⟨_, _, _, h1, _⟩ := ha; exact h1.ok
  obtain ⟨y, hy⟩ : ∃ y, y = (w.alloc (.cells #[.bool na, .slice ao xa.length ac, .slice bo ya.length bc] 26)).alloc (.cells #[.bool nb, .slice co xb.length cc, .slice eo yb.length ec] 26) := ⟨_, rfl⟩
  have b : Below w.heap.size w y := by rw [hy]; exact ((Below.refl _ w).alloc (Nat.le_refl _) _).alloc (by simp) _
  have xA : Blk y w.heap.size #[.bool na, .slice ao xa.length ac, .slice bo ya.length bc] := by rw [hy]; exact (Blk.new w _ _).alloc _
  have xB : Blk y (w.heap.size + 1) #[.bool nb, .slice co xb.length cc, .slice eo yb.length ec] := by
    rw [hy]
    have := Blk.new (w.alloc (.cells #[.bool na, .slice ao xa.length ac, .slice bo ya.length bc] 26)) #[.bool nb, .slice co xb.length cc, .slice eo yb.length ec] 26
    rwa [Deep.nblk_alloc] at this
  obtain ⟨gB, e2⟩ : ∃ g, g = w.heap.size + 1 := ⟨_, rfl⟩
  obtain ⟨gA, e1⟩ : ∃ g, g = w.heap.size := ⟨_, rfl⟩
  rw [← e2] at xB; rw [← e1] at xA
  have ne1 : gA ≠ gB := by omega
  have g1 : w.heap.size ≤ gA := by omega
  have g2 : w.heap.size ≤ gB := by omega
  have HG := hid g1; have HG2 := hid g2
  have HY := hid hy.symm; have E1 := hid e1.symm; have E2 := hid e2.symm
  have XA := hid xA; have XB := hid xB
  have HBel := hid b
  clear hy e1 e2 xA xB b g1 g2 ha hb hka
  go_enter Tryz.func7, Tryz.ntmps7
  go_wp2_with fail
  rw [HY.out, E2.out, E1.out]
  clear HY E1 E2
  refine (awakeF _).mono ?_
  rintro e w0 ⟨rfl, hb0⟩
  have HXA := hid (XA.out.below hb0); have HXB := hid (XB.out.below hb0); have HB0 := hid (HBel.out.trans (hb0.mono HBel.out.size))
  clear XA XB HBel hb0
  obtain ⟨a0, a1, a2, a3, a4, a5⟩ := HXA.out.open3
  obtain ⟨b0, b1, b2, b3, b4, b5⟩ := HXB.out.open3
  go_wp2_with fail
  have HS0 := hid HB0.out.drew
  have HY0 := hid (Below.refl w0.heap.size w0).drew
  go_region_with (first
    | (go_at_call 8
       refine (HSA.out _ (by with_reducible exact HS0.out)).mono ?_
       rintro e w1 ⟨v1, rfl, hq1, hb1⟩
       have HS1 : Hid (Below w.heap.size w w1) := hid (step_below HS0.out hb1)
       have hw1 := step_below HY0.out hb1
       have HW1 : Hid (Below w0.heap.size w0 w1) := hid hw1
       clear a0 a1 a2 a3 a4 a5 b0 b1 b2 b3 b4 b5
       obtain ⟨b0, b1, b2, b3, b4, b5⟩ := (HXB.out.below hw1).open3
       obtain ⟨p1, p2, p3, p4, rfl⟩ := hq1.form
       have HQ1 := hid hq1
       clear hq1 hb1 HSA hw1)
    | (go_at_call 8
       refine (HSB.out _ (by with_reducible exact HS1.out)).mono ?_
       rintro e w2 ⟨v2, rfl, hq2, hb2⟩
       have HS2 : Hid (Below w.heap.size w w2) := hid (step_below HS1.out hb2)
       have hy2 := step_below HW1.out hb2
       have ZA := HXA.out.below hy2; have ZB := HXB.out.below hy2
       have HQ2 := hid (HQ1.out.below hb2)
       obtain ⟨q1, q2, q3, q4, rfl⟩ := hq2.form
       have HQ3 := hid hq2
       clear b0 b1 b2 b3 b4 b5
       obtain ⟨c0, c1, c2, c3, c4, c5⟩ := ZA.open3
       obtain ⟨d0, d1, d2, d3, d4, d5⟩ := (ZB.sto (Ne.symm ne1) (.bool na) (.slice p1 la.length p2) (.slice p3 da.length p4)).open3
       have l1 := ZA.lt; have l2 := ZB.lt
       clear hq2 hb2 HSB hy2))
  all_goals
    refine atWorld (fun w' => (SeesQ w' (.agg #[.bool na, .slice p1 la.length p2, .slice p3 da.length p4]) na la da ∧ SeesQ w' (.agg #[.bool nb, .slice q1 lb.length q2, .slice q3 db.length q4]) nb lb db) ∧
      (Blk w' gA #[.bool na, .slice p1 la.length p2, .slice p3 da.length p4] ∧ Blk w' gB #[.bool nb, .slice q1 lb.length q2, .slice q3 db.length q4]) ∧ Below w.heap.size w w')
      ⟨⟨(HQ2.out.st ZA _ _ _).st (ZB.sto (Ne.symm ne1) _ _ _) _ _ _, (HQ3.out.st ZA _ _ _).st (ZB.sto (Ne.symm ne1) _ _ _) _ _ _⟩, ⟨(ZA.st _ _ _).sto ne1 _ _ _, (ZB.sto (Ne.symm ne1) _ _ _).st _ _ _⟩, below_st (below_st HS2.out HG.out _ _ _) HG2.out _ _ _⟩ ?_
    rintro wf ⟨⟨hf1, hf2⟩, ⟨hf3, hf4⟩, hf6⟩
    clear ZA ZB HQ1 HQ2 HQ3 c0 c1 c2 c3 c4 c5 d0 d1 d2 d3 d4 d5 l1 l2 HS2 HS1 HW1 HXA HXB HS0 HY0 HB0
    have zC := qden_ne (zval na la) (val da)
    have zD := qden_ne (zval nb lb) (val db)
    obtain ⟨A, hA⟩ : ∃ z, qnum (zval na la) (val da) = z := ⟨_, rfl⟩
    obtain ⟨C, hC⟩ : ∃ z, qden (zval na la) (val da) = z := ⟨_, rfl⟩
    obtain ⟨B, hB⟩ : ∃ z, qnum (zval nb lb) (val db) = z := ⟨_, rfl⟩
    obtain ⟨D, hD⟩ : ∃ z, qden (zval nb lb) (val db) = z := ⟨_, rfl⟩
    have hta := toF_plain na la da
    have htb := toF_plain nb lb db
    have lA := qnum_len (n := na) (l := la) (by obtain ⟨_, _, _, h1, _⟩ := hf1; exact h1.ok) (val da)
    rw [hA, hC] at hta; rw [hB, hD] at htb; rw [hC] at zC; rw [hD] at zD; rw [hA] at lA
    have HD := (Below.refl wf.heap.size wf).drew
    have HTA := hid (fun (w' : World) (h : Below wf.heap.size wf w') => ap_to (hf1.below h) (by omega) (by omega))
    have HTB := hid (fun (w' : World) (h : Below wf.heap.size wf w') => ap_to (hf2.below h) (by omega) (by omega))
    rw [hta] at HTA; rw [htb] at HTB
    have HCM := hid (fun (w' : World) (h : Below wf.heap.size wf w') => ref_cmpQ (hf1.below h) (hf2.below h) (by omega) (by omega) (by omega) (by omega) A B C D hA hC hB hD)
    have HPL := hid (fun (w' : World) (h : Below wf.heap.size wf w') => ref_plainQ (hf1.below h) (by omega) (by omega))
    rw [hA, hC] at HPL
    rw [sgnI_qnum (Nat.mul_pos (Nat.pos_of_ne_zero zC) (Nat.pos_of_ne_zero zD))] at HCM
    have C1 := Nat.pos_of_ne_zero zC
    have D1 := Nat.pos_of_ne_zero zD
    have hcs := sgnI_cases (A * (D : Int) + -B * (C : Int))
    have hor : (sgnI (A * (D : Int) + -B * (C : Int)) = -1 ∧ kq A C ≤ kq B D) ∨ (sgnI (A * (D : Int) + -B * (C : Int)) = 0 ∧ tq A C = tq B D) ∨ (sgnI (A * (D : Int) + -B * (C : Int)) = 1 ∧ kq B D ≤ kq A C) := by
      rw [Int.neg_mul] at hcs ⊢
      rcases hcs with ⟨h1, h2⟩ | ⟨h1, h2⟩ | ⟨h1, h2⟩
      · exact .inl ⟨h1, kq_mono C1 D1 (by omega)⟩
      · exact .inr (.inl ⟨h1, tq_eq C1 D1 (by omega)⟩)
      · exact .inr (.inr ⟨h1, kq_mono D1 C1 (by omega)⟩)
    have hsg : (sgnI A = -1 ∧ (srung (tq A C) < 0 ∨ tq A C = 9223372036854775808)) ∨ ((sgnI A = 0 ∨ sgnI A = 1) ∧ (0 < srung (tq A C) ∨ tq A C = 0)) := by
      rcases sgnI_cases A with ⟨h1, h2⟩ | ⟨h1, h2⟩ | ⟨h1, h2⟩
      · exact .inl ⟨h1, tq_neg h2⟩
      · exact .inr ⟨.inl h1, tq_nonneg (by omega)⟩
      · exact .inr ⟨.inr h1, tq_nonneg (by omega)⟩
    have n1 := tq_num A C; have n2 := tq_num B D
    have r1 := tq_srung A C; have r2 := tq_srung B D
    have t1 := tq_lt A C; have t2 := tq_lt B D
    rw [← r1, ← r2] at hor
    clear hcs hta htb zC zD C1 D1 hA hC hB hD r1 r2 hf1 hf2
    generalize tq A C = FF at *
    generalize tq B D = GG at *
    generalize sgnI (A * (D : Int) + -B * (C : Int)) = c at *
    have HL := hid lA
    clear lA
    have HN1 := hid n1; have HN2 := hid n2; have HOR := hid hor; have HSG := hid hsg
    have HT1 := hid t1; have HT2 := hid t2
    clear n1 n2 hor hsg t1 t2
    have HX3 := hid (hf3.below HD); have HX4 := hid (hf4.below HD); have HWD := hid HD
    have HW := hid hf6
    clear hf3 hf4 hf6 HD
    obtain ⟨c0, c1, c2, -, -, -⟩ := HX3.out.open3
    obtain ⟨d0, d1, d2, -, -, -⟩ := HX4.out.open3
    go_wp2_with fail
    go_region_held3 (fun w' => w'.cell? ⟨gA, 0, none⟩ = some (.bool na) ∧ w'.cell? ⟨gA, 1, none⟩ = some (.slice p1 la.length p2) ∧ w'.cell? ⟨gA, 2, none⟩ = some (.slice p3 da.length p4) ∧ w'.cell? ⟨gB, 0, none⟩ = some (.bool nb) ∧ w'.cell? ⟨gB, 1, none⟩ = some (.slice q1 lb.length q2) ∧ w'.cell? ⟨gB, 2, none⟩ = some (.slice q3 db.length q4)) (first | (with_reducible exact cellsQ HX3.out HX4.out) | (with_reducible exact cellsQ XA3.out XB3.out) | (with_reducible exact cellsQ XA4.out XB4.out)) (first
      | (go_at_call 11
         refine (HTA.out _ (by with_reducible exact HWD.out)).mono ?_
         rintro e w3 ⟨rfl, hb3⟩
         clear HTA
         have HW3 := hid (step_below HWD.out hb3)
         have XA3 := hid (HX3.out.below hb3); have XB3 := hid (HX4.out.below hb3)
         clear hb3)
      | (go_at_call 11
         refine (HTB.out _ (by with_reducible exact HW3.out)).mono ?_
         rintro e w4 ⟨rfl, hb4⟩
         have HW4 := hid (step_below HW3.out hb4)
         have XA4 := hid (XA3.out.below hb4); have XB4 := hid (XB3.out.below hb4)
         clear hb4))
  all_goals
    have HC := hid (HCM.out _ HW4.out)
    obtain ⟨c0, c1, c2, -, -, -⟩ := XA4.out.open3
    obtain ⟨d0, d1, d2, -, -, -⟩ := XB4.out.open3
    go_wp2_with fail
    refine HC.out.mono ?_
    rintro e w5 ⟨rfl, hb5⟩
    have HWC := hid (step_below HW4.out hb5)
    have XAC := hid (XA4.out.below hb5)
    clear hb5 HC HCM XA4 XB4 HW4 XA3 XB3 HW3 HX3 HX4 HWD HTB c0 c1 c2 d0 d1 d2
    rcases HOR.out with ⟨hc, hk⟩ | ⟨hc, hk⟩ | ⟨hc, hk⟩
    · subst hc
      have f1 := gt_no hk
      clear hk HOR
      have HP := hid (HPL.out _ HWC.out)
      obtain ⟨z0, z1, z2, -, -, -⟩ := XAC.out.open3
      go_wp2_with fail
      refine HP.out.mono ?_
      rintro e w7 ⟨v7, rfl, hq7, hb7⟩
      have HW7 := hid (HW.out.trans ((step_below HWC.out hb7).mono HW.out.size))
      obtain ⟨s1, s2, s3, s4, rfl⟩ := hq7.form
      have HSI := hid (ref_sign hq7.num.1 (by have := HL.out; omega))
      rw [zval_plain] at HSI
      have hfd := field_num (zneg A) s1 s3 (zlim A).length s2 (limbs C).length s4
      clear hq7 hb7 HP z0 z1 z2
      go_wp2_with fail
      refine HSI.out.mono ?_
      rintro e w6 ⟨rfl, hb6⟩
      have HWZ := hid (HW7.out.trans (hb6.mono HW7.out.size))
      clear hb6 HSI hfd HW7
      rcases HSG.out with ⟨hs, hf | hf⟩ | ⟨hs, hf | hf⟩
      · have f2 : (FloatKind.f64.format.order FF 0 == some .lt) = true := lt_yes HN1.out (by decide) (by rw [show srung 0 = 0 by decide]; exact hf)
        have HFF := hid hf
        clear hf
        generalize sgnI A = s at *
        subst hs
        go_wp2_with fail
        go_ret
        exact ⟨by simp, HWZ.out⟩
      · subst hf
        generalize sgnI A = s at *
        subst hs
        have q1 := run_quo 30 w6 (x := 4607182418800017408) (y := 9223372036854775808) (r := 18442240474082181120) (by decide +kernel)
        have f2 : (FloatKind.f64.format.order 9223372036854775808 0 == some .lt) = false := by decide +kernel
        have f3 : (FloatKind.f64.format.order 9223372036854775808 0 == some .eq) = true := by decide +kernel
        have f4 : (FloatKind.f64.format.order 18442240474082181120 0 == some .lt) = true := by decide +kernel
        go_wp2_with fail
        go_ret
        exact ⟨by simp, HWZ.out⟩
      · have f2 : (FloatKind.f64.format.order FF 0 == some .gt) = true := gt_yes HN1.out (by decide) (by rw [show srung 0 = 0 by decide]; exact hf)
        generalize sgnI A = s at *
        have hs1 : s ≥ 0 := by omega
        have hs2 : ¬ s < 0 := by omega
        clear hs hf
        go_wp2_with fail
        go_ret
        exact ⟨by simp, HWZ.out⟩
      · subst hf
        generalize sgnI A = s at *
        have hs1 : s ≥ 0 := by omega
        have hs2 : ¬ s < 0 := by omega
        have q1 := run_quo 30 w6 (x := 4607182418800017408) (y := 0) (r := 9218868437227405312) (by decide +kernel)
        have f2 : (FloatKind.f64.format.order 0 0 == some .gt) = false := by decide +kernel
        have f3 : (FloatKind.f64.format.order 0 0 == some .eq) = true := by decide +kernel
        have f4 : (FloatKind.f64.format.order 9218868437227405312 0 == some .gt) = true := by decide +kernel
        clear hs
        go_wp2_with fail
        go_ret
        exact ⟨by simp, HWZ.out⟩
    · subst hc
      subst hk
      clear HOR
      have HLS := hid (law_same HT1.out HT1.out w5)
      rw [same_self HN1.out] at HLS
      go_wp2_with fail
      refine HLS.out.mono ?_
      rintro e w' ⟨rfl, rfl⟩
      clear HLS
      have HP := hid (HPL.out _ HWC.out)
      obtain ⟨z0, z1, z2, -, -, -⟩ := XAC.out.open3
      go_wp2_with fail
      refine HP.out.mono ?_
      rintro e w7 ⟨v7, rfl, hq7, hb7⟩
      have HW7 := hid (HW.out.trans ((step_below HWC.out hb7).mono HW.out.size))
      obtain ⟨s1, s2, s3, s4, rfl⟩ := hq7.form
      have HSI := hid (ref_sign hq7.num.1 (by have := HL.out; omega))
      rw [zval_plain] at HSI
      have hfd := field_num (zneg A) s1 s3 (zlim A).length s2 (limbs C).length s4
      clear hq7 hb7 HP z0 z1 z2
      go_wp2_with fail
      refine HSI.out.mono ?_
      rintro e w6 ⟨rfl, hb6⟩
      have HWZ := hid (HW7.out.trans (hb6.mono HW7.out.size))
      clear hb6 HSI hfd HW7
      rcases HSG.out with ⟨hs, hf | hf⟩ | ⟨hs, hf | hf⟩
      · have f2 : (FloatKind.f64.format.order FF 0 == some .lt) = true := lt_yes HN1.out (by decide) (by rw [show srung 0 = 0 by decide]; exact hf)
        have HFF := hid hf
        clear hf
        generalize sgnI A = s at *
        subst hs
        go_wp2_with fail
        go_ret
        exact ⟨by simp, HWZ.out⟩
      · subst hf
        generalize sgnI A = s at *
        subst hs
        have q1 := run_quo 30 w6 (x := 4607182418800017408) (y := 9223372036854775808) (r := 18442240474082181120) (by decide +kernel)
        have f2 : (FloatKind.f64.format.order 9223372036854775808 0 == some .lt) = false := by decide +kernel
        have f3 : (FloatKind.f64.format.order 9223372036854775808 0 == some .eq) = true := by decide +kernel
        have f4 : (FloatKind.f64.format.order 18442240474082181120 0 == some .lt) = true := by decide +kernel
        go_wp2_with fail
        go_ret
        exact ⟨by simp, HWZ.out⟩
      · have f2 : (FloatKind.f64.format.order FF 0 == some .gt) = true := gt_yes HN1.out (by decide) (by rw [show srung 0 = 0 by decide]; exact hf)
        generalize sgnI A = s at *
        have hs1 : s ≥ 0 := by omega
        have hs2 : ¬ s < 0 := by omega
        clear hs hf
        go_wp2_with fail
        go_ret
        exact ⟨by simp, HWZ.out⟩
      · subst hf
        generalize sgnI A = s at *
        have hs1 : s ≥ 0 := by omega
        have hs2 : ¬ s < 0 := by omega
        have q1 := run_quo 30 w6 (x := 4607182418800017408) (y := 0) (r := 9218868437227405312) (by decide +kernel)
        have f2 : (FloatKind.f64.format.order 0 0 == some .gt) = false := by decide +kernel
        have f3 : (FloatKind.f64.format.order 0 0 == some .eq) = true := by decide +kernel
        have f4 : (FloatKind.f64.format.order 9218868437227405312 0 == some .gt) = true := by decide +kernel
        clear hs
        go_wp2_with fail
        go_ret
        exact ⟨by simp, HWZ.out⟩
    · subst hc
      have f1 := lt_no hk
      clear hk HOR
      have HP := hid (HPL.out _ HWC.out)
      obtain ⟨z0, z1, z2, -, -, -⟩ := XAC.out.open3
      go_wp2_with fail
      refine HP.out.mono ?_
      rintro e w7 ⟨v7, rfl, hq7, hb7⟩
      have HW7 := hid (HW.out.trans ((step_below HWC.out hb7).mono HW.out.size))
      obtain ⟨s1, s2, s3, s4, rfl⟩ := hq7.form
      have HSI := hid (ref_sign hq7.num.1 (by have := HL.out; omega))
      rw [zval_plain] at HSI
      have hfd := field_num (zneg A) s1 s3 (zlim A).length s2 (limbs C).length s4
      clear hq7 hb7 HP z0 z1 z2
      go_wp2_with fail
      refine HSI.out.mono ?_
      rintro e w6 ⟨rfl, hb6⟩
      have HWZ := hid (HW7.out.trans (hb6.mono HW7.out.size))
      clear hb6 HSI hfd HW7
      rcases HSG.out with ⟨hs, hf | hf⟩ | ⟨hs, hf | hf⟩
      · have f2 : (FloatKind.f64.format.order FF 0 == some .lt) = true := lt_yes HN1.out (by decide) (by rw [show srung 0 = 0 by decide]; exact hf)
        have HFF := hid hf
        clear hf
        generalize sgnI A = s at *
        subst hs
        go_wp2_with fail
        go_ret
        exact ⟨by simp, HWZ.out⟩
      · subst hf
        generalize sgnI A = s at *
        subst hs
        have q1 := run_quo 30 w6 (x := 4607182418800017408) (y := 9223372036854775808) (r := 18442240474082181120) (by decide +kernel)
        have f2 : (FloatKind.f64.format.order 9223372036854775808 0 == some .lt) = false := by decide +kernel
        have f3 : (FloatKind.f64.format.order 9223372036854775808 0 == some .eq) = true := by decide +kernel
        have f4 : (FloatKind.f64.format.order 18442240474082181120 0 == some .lt) = true := by decide +kernel
        go_wp2_with fail
        go_ret
        exact ⟨by simp, HWZ.out⟩
      · have f2 : (FloatKind.f64.format.order FF 0 == some .gt) = true := gt_yes HN1.out (by decide) (by rw [show srung 0 = 0 by decide]; exact hf)
        generalize sgnI A = s at *
        have hs1 : s ≥ 0 := by omega
        have hs2 : ¬ s < 0 := by omega
        clear hs hf
        go_wp2_with fail
        go_ret
        exact ⟨by simp, HWZ.out⟩
      · subst hf
        generalize sgnI A = s at *
        have hs1 : s ≥ 0 := by omega
        have hs2 : ¬ s < 0 := by omega
        have q1 := run_quo 30 w6 (x := 4607182418800017408) (y := 0) (r := 9218868437227405312) (by decide +kernel)
        have f2 : (FloatKind.f64.format.order 0 0 == some .gt) = false := by decide +kernel
        have f3 : (FloatKind.f64.format.order 0 0 == some .eq) = true := by decide +kernel
        have f4 : (FloatKind.f64.format.order 9218868437227405312 0 == some .gt) = true := by decide +kernel
        clear hs
        go_wp2_with fail
        go_ret
        exact ⟨by simp, HWZ.out⟩

/-! ### The row's step -/
set_option maxRecDepth 100000 in
theorem contract (H : Type) (enc : TypeId × Value → H) (W : World) (base : Nat) (args : Array Value) (ds gs : List (DataW H)) (before : List MemPlace)
    (hval0 : ∀ (j : Nat) t v, Tryz.f7.params[j]? = some t → args[j]? = some v → Value.okWide Tryz.prog W .any base t v)
    (hW : DataW.Whole enc Tryz.prog Tryz.f7.params.toList Rows.approxRisesSpec.vars false W args.toList ds gs before)
    (hsz0 : (DataW.weightsEach Tryz.prog (Tryz.f7.params.toList ++ Rows.approxRisesSpec.plain.varTypes Tryz.prog) (ds ++ gs)).all (· ≤ reachBytes) = true) :
    Calls Tryz.prog 7 args W fun e W' => ∃ v, e = .returned v ∧ Rows.approxRisesSpec.post enc Tryz.prog Tryz.f7 false true false false W args v W' := by
  have hW' := hW
  obtain ⟨p, q, hA0, hV, rfl, hfz, hnd⟩ := hW
  have hA : DataW.TrodAll enc Tryz.prog W 0 (fun _ => true) true Tryz.f7.params.toList args.toList ds p := hA0
  have hval : ∀ (j : Nat) t v, Tryz.f7.params[j]? = some t → args[j]? = some v → Value.okWide Tryz.prog W .any base t v := hval0
  have hsz : (DataW.weightsEach Tryz.prog (Tryz.f7.params.toList ++ []) (ds ++ gs)).all (· ≤ reachBytes) = true := hsz0
  rw [Tryz.params7] at hA hval hsz
  obtain ⟨v0, vs0, d0, ds0, p0, q0, hargs, rfl, rfl, h0, r0⟩ := trodAll_cons hA
  obtain ⟨v1, vs1, d1, ds1, p1, q1, rfl, rfl, rfl, h1, r1⟩ := trodAll_cons r0
  obtain ⟨rfl, rfl, rfl⟩ := trodAll_nil r1
  obtain rfl : args = #[v0, v1] := by cases args; simp_all
  obtain ⟨rfl, rfl⟩ := trodVars_none hV
  obtain ⟨g0, l0, m0, s0, bl0, bm0⟩ := open_q (hval 0 26 v0 rfl rfl) h0 (sized_arg hsz (j := 0) (t := 26) rfl rfl)
  obtain ⟨g1, l1, m1, s1, bl1, bm1⟩ := open_q (hval 1 26 v1 rfl rfl) h1 (sized_arg hsz (j := 1) (t := 26) rfl rfl)
  refine (walk s0 bl0 bm0 s1 bl1 bm1).mono fun e W' ⟨he, hb⟩ => ?_
  subst he
  exact ⟨_, rfl, _, _, _, _, _, _, hW', trodAll_cons_mk (shut_bool Tryz.underlying4 _) trodAll_mk0, trodAll_cons_mk (Below.trod laidOut (by kernel_rfl) (of_decide_eq_true (by kernel_rfl)) h0 hb (fun x hx => by first | cases hx; done | (have := hW'.lt x (by simp [hx]); simpa using this))) (trodAll_cons_mk (Below.trod laidOut (by kernel_rfl) (of_decide_eq_true (by kernel_rfl)) h1 hb (fun x hx => by first | cases hx; done | (have := hW'.lt x (by simp [hx]); simpa using this))) (trodAll_mk0)), rfl, hb.frame _, fun h => by cases h⟩

set_option maxRecDepth 100000 in
theorem lifted (os : Os) (started : os.Started) (H : Type) (enc : TypeId × Value → H) :
    ReturnsInHanded {} Tryz.checked os 7 .any (Rows.approxRisesSpec.pre6 enc Tryz.prog Tryz.f7 Rows.approxRisesRow.domain false) (Rows.approxRisesSpec.post enc Tryz.prog Tryz.f7 false true false false) := by
  refine returnsInHanded_of_change_shaped (C := Tryz.checked) own started (by kernel_rfl) Tryz.func7
    (ChangeSpec.witness6 (enc := enc) (C := Tryz.checked) false ⟨#[], #[.agg #[.bool false, .slice none 0 0, .slice none 0 0], .agg #[.bool false, .slice none 0 0, .slice none 0 0]], []⟩ 8 (by kernel_rfl) (by kernel_rfl) (by kernel_rfl) (by kernel_rfl)) ?_
  intro W base args ds gs before hval0 hW _ hsz _ _
  exact contract H enc W base args ds gs before hval0 hW hsz

theorem holds : Rows.ApproxRisesSaid :=
  OpenClaim.holds_of_wide 7 Tryz.f7 rfl rfl rfl rfl rfl rfl rfl ⟨rfl, rfl, rfl, rfl, rfl⟩ rfl rfl rfl rfl rfl (by kernel_rfl) Tryz.func7 (by kernel_rfl)
    (of_decide_eq_true (by kernel_rfl)) (by unfold Func.isWrapper; first | (rw [if_pos (by decide +kernel)]; kernel_rfl) | (rw [if_neg (by decide +kernel)]; exact ⟨rfl, rfl⟩))
    (fun os started H enc _ => lifted os started H enc)
end Go.Proofs.YtcogldhjkjiodaaGreat.approxRises
