/- The document's Div of layer 3. -/
import Derived.Test.YtjnbonellgpjnaaGreatDa
import Derived.Test.YtjnbonellgpjnaaGreatKS
set_option linter.unusedVariables false
set_option linter.unusedSimpArgs false
namespace Go.Proofs.YtjnbonellgpjnaaGreat
open Go.RowKit

set_option maxRecDepth 100000 in
set_option maxHeartbeats 4000000 in
theorem ref_divQ {va vb : Value} {na nb : Bool} {la da lb db : List Nat} {w : World} (ha : SeesQ w va na la da) (hb : SeesQ w vb nb lb db) (h1 : la.length ≤ 1000) (h2 : da.length ≤ 1000) (h3 : lb.length ≤ 1000) (h4 : db.length ≤ 1000) (A B : Int) (C D K : Nat)
    (hA : qnum (zval na la) (val da) = A) (hC : qden (zval na la) (val da) = C) (hB : qnum (zval nb lb) (val db) = B) (hD : qden (zval nb lb) (val db) = D)
    (lA : (zlim A).length ≤ 1001) (lB : (zlim B).length ≤ 1001) (lC : (limbs C).length ≤ 1001) (lD : (limbs D).length ≤ 1001) (hBC : B * (C : Int) = (K : Int)) (hpos : 0 < K) :
    Calls Tryz.prog 37 #[va, vb] w fun e w' => FromIs w (qnum (A * (D : Int)) K) (qden (A * (D : Int)) K) e w' := by
  obtain ⟨N, hN⟩ : ∃ N, qnum (A * (D : Int)) K = N := ⟨_, rfl⟩
  obtain ⟨E, hE⟩ : ∃ E, qden (A * (D : Int)) K = E := ⟨_, rfl⟩
  rw [hN, hE]
  have HN := hid hN; have HE := hid hE
  clear hN hE
  have HPA := hid (fun (w' : World) (h : Below w.heap.size w w') => ref_plainQ (ha.below h) (by omega) (by omega))
  have HPB := hid (fun (w' : World) (h : Below w.heap.size w w') => ref_plainQ (hb.below h) (by omega) (by omega))
  rw [hA, hC] at HPA
  rw [hB, hD] at HPB
  obtain ⟨ao, ac, bo, bc, rfl⟩ := ha.form
  obtain ⟨co, cc, eo, ec, rfl⟩ := hb.form
  obtain ⟨y, hy⟩ : ∃ y, y = ((w.alloc (.cells #[.bool na, .slice ao la.length ac, .slice bo da.length bc] 26)).alloc (.cells #[.bool nb, .slice co lb.length cc, .slice eo db.length ec] 26)).alloc (.cells #[.bool false, .slice none 0 0, .slice none 0 0] 26) := ⟨_, rfl⟩
  have b : Below w.heap.size w y := by rw [hy]; exact (((Below.refl _ w).alloc (Nat.le_refl _) _).alloc (by simp) _).alloc (by simp; omega) _
  have xA : Blk y w.heap.size #[.bool na, .slice ao la.length ac, .slice bo da.length bc] := by rw [hy]; exact ((Blk.new w _ _).alloc _).alloc _
  have xB : Blk y (w.heap.size + 1) #[.bool nb, .slice co lb.length cc, .slice eo db.length ec] := by
    rw [hy]
    have := (Blk.new (w.alloc (.cells #[.bool na, .slice ao la.length ac, .slice bo da.length bc] 26)) #[.bool nb, .slice co lb.length cc, .slice eo db.length ec] 26).alloc (.cells #[.bool false, .slice none 0 0, .slice none 0 0] 26)
    rwa [Deep.nblk_alloc] at this
  have xR : Blk y (w.heap.size + 1 + 1) #[.bool false, .slice none 0 0, .slice none 0 0] := by
    rw [hy]
    have := Blk.new ((w.alloc (.cells #[.bool na, .slice ao la.length ac, .slice bo da.length bc] 26)).alloc (.cells #[.bool nb, .slice co lb.length cc, .slice eo db.length ec] 26)) #[.bool false, .slice none 0 0, .slice none 0 0] 26
    rwa [Deep.nblk_alloc, Deep.nblk_alloc] at this
  obtain ⟨gR, e3⟩ : ∃ g, g = w.heap.size + 1 + 1 := ⟨_, rfl⟩
  obtain ⟨gB, e2⟩ : ∃ g, g = w.heap.size + 1 := ⟨_, rfl⟩
  obtain ⟨gA, e1⟩ : ∃ g, g = w.heap.size := ⟨_, rfl⟩
  rw [← e3] at xR; rw [← e2] at xB; rw [← e1] at xA
  have HY := hid hy.symm; have E1 := hid e1.symm; have E2 := hid e2.symm; have E3 := hid e3.symm
  have ne1 : gA ≠ gB := by omega
  have ne2 : gA ≠ gR := by omega
  have ne3 : gB ≠ gR := by omega
  have g1 : w.heap.size ≤ gA := by omega
  have g2 : w.heap.size ≤ gB := by omega
  have g3 : w.heap.size ≤ gR := by omega
  have HG := hid g1; have HG2 := hid g2; have HG3 := hid g3
  have XA := hid xA; have XB := hid xB; have XR := hid xR
  have HBel := hid b
  have HS0 := hid b.drew
  have HPOS := hid hpos
  have HBC := hid hBC
  clear hy e1 e2 e3 xA xB xR b hA hB hC hD ha hb g1 g2 g3 hpos hBC
  go_enter Tryz.func37, Tryz.ntmps37
  go_wp2_with fail
  rw [HY.out, E3.out, E2.out, E1.out]
  clear HY E1 E2 E3
  obtain ⟨a0, a1, a2, a3, a4, a5⟩ := XA.out.open3
  obtain ⟨b0, b1, b2, b3, b4, b5⟩ := XB.out.open3
  have HY0 := hid (Below.refl y.heap.size y).drew
  go_region_with (first
    | (go_at_call 21
       refine (HPA.out _ (by with_reducible exact HS0.out)).mono ?_
       rintro e w1 ⟨v1, rfl, hq1, hb1⟩
       have HS1 : Hid (Below w.heap.size w w1) := hid (step_below HS0.out hb1)
       have hw1 := step_below HY0.out hb1
       have HW1 : Hid (Below y.heap.size y w1) := hid hw1
       clear a0 a1 a2 a3 a4 a5 b0 b1 b2 b3 b4 b5
       obtain ⟨b0, b1, b2, b3, b4, b5⟩ := (XB.out.below hw1).open3
       obtain ⟨p1, p2, p3, p4, rfl⟩ := hq1.form
       have HQ1 := hid hq1
       clear hq1 hb1 HPA hw1)
    | (go_at_call 21
       refine (HPB.out _ (by with_reducible exact HS1.out)).mono ?_
       rintro e w2 ⟨v2, rfl, hq2, hb2⟩
       have HS2 : Hid (Below w.heap.size w w2) := hid (step_below HS1.out hb2)
       have hy2 := step_below HW1.out hb2
       have ZA := XA.out.below hy2; have ZB := XB.out.below hy2; have ZR := XR.out.below hy2
       have HQ2 := hid (HQ1.out.below hb2)
       obtain ⟨q1, q2, q3, q4, rfl⟩ := hq2.form
       have HQ3 := hid hq2
       clear b0 b1 b2 b3 b4 b5
       obtain ⟨c0, c1, c2, c3, c4, c5⟩ := ZA.open3
       obtain ⟨d0, d1, d2, d3, d4, d5⟩ := (ZB.sto (Ne.symm ne1) (.bool (zneg A)) (.slice p1 (zlim A).length p2) (.slice p3 (limbs C).length p4)).open3
       have l1 := ZA.lt; have l2 := ZB.lt
       clear hq2 hb2 HPB hy2))
  all_goals
    refine atWorld (fun w' => (IsQ w' (.agg #[.bool (zneg A), .slice p1 (zlim A).length p2, .slice p3 (limbs C).length p4]) A C ∧ IsQ w' (.agg #[.bool (zneg B), .slice q1 (zlim B).length q2, .slice q3 (limbs D).length q4]) B D) ∧
      (Blk w' gA #[.bool (zneg A), .slice p1 (zlim A).length p2, .slice p3 (limbs C).length p4] ∧ Blk w' gB #[.bool (zneg B), .slice q1 (zlim B).length q2, .slice q3 (limbs D).length q4]) ∧ Blk w' gR #[.bool false, .slice none 0 0, .slice none 0 0] ∧ Below w.heap.size w w')
      ⟨⟨(HQ2.out.st ZA _ _ _).st (ZB.sto (Ne.symm ne1) _ _ _) _ _ _, (HQ3.out.st ZA _ _ _).st (ZB.sto (Ne.symm ne1) _ _ _) _ _ _⟩, ⟨(ZA.st _ _ _).sto ne1 _ _ _, (ZB.sto (Ne.symm ne1) _ _ _).st _ _ _⟩, (ZR.sto (Ne.symm ne2) _ _ _).sto (Ne.symm ne3) _ _ _, below_st (below_st HS2.out HG.out _ _ _) HG2.out _ _ _⟩ ?_
    rintro wf ⟨⟨hf1, hf2⟩, ⟨hf3, hf4⟩, hf5, hf6⟩
    clear ZA ZB ZR HQ1 HQ2 HQ3 c0 c1 c2 c3 c4 c5 d0 d1 d2 d3 d4 d5 l1 l2 HS2 HS1 HW1 XA XB XR HS0 HY0 HBel
  all_goals
    have HD := (Below.refl wf.heap.size wf).drew
    have DA := hf1.num.1.below HD; have DC := hf1.num.2.below HD; have DB := hf2.num.1.below HD; have DD := hf2.num.2.below HD
    have HDA := hid DA; have HDB := hid DB; have HDC := hid DC; have HDD := hid DD
    have HXA := hid (hf3.below HD); have HXB := hid (hf4.below HD); have HXR := hid (hf5.below HD)
    have HWs := hid hf6.drew
    have HQA := hid (hf1.below HD); have HQB := hid (hf2.below HD)
    have XAs := HXA; have XBs := HXB; have XRs := HXR
    have HLD := hid (show (zlim (D : Int)).length ≤ 1001 from lD); have HLC := hid (show (zlim (C : Int)).length ≤ 1001 from lC)
    have HL1 := hid (zlim_mul lA HLD.out); have HL2 := hid (zlim_mul lB HLC.out)
    clear hf1 hf2 hf3 hf4 hf5 hf6 HD DA DB DC DD
    obtain ⟨c0, c1, c2, -, -, -⟩ := HXA.out.open3
    obtain ⟨d0, d1, d2, -, -, -⟩ := HXB.out.open3
    go_wp2_with fail
    go_region_held3 (fun w' => w'.cell? ⟨gA, 0, none⟩ = some (.bool (zneg A)) ∧ w'.cell? ⟨gA, 1, none⟩ = some (.slice p1 (zlim A).length p2) ∧ w'.cell? ⟨gA, 2, none⟩ = some (.slice p3 (limbs C).length p4) ∧ w'.cell? ⟨gB, 0, none⟩ = some (.bool (zneg B)) ∧ w'.cell? ⟨gB, 1, none⟩ = some (.slice q1 (zlim B).length q2) ∧ w'.cell? ⟨gB, 2, none⟩ = some (.slice q3 (limbs D).length q4)) (first | (with_reducible exact cellsQ HXA.out HXB.out) | (with_reducible exact cellsQ XA3.out XB3.out) | (with_reducible exact cellsQ XA4.out XB4.out) | (with_reducible exact cellsQ XA5.out XB5.out) | (with_reducible exact cellsQ XA6.out XB6.out) | (with_reducible exact cellsQ XA7.out XB7.out) | (with_reducible exact cellsQ XA8.out XB8.out) | (with_reducible exact cellsQ XA9.out XB9.out) | exact cellsQ (XA9.out.sto ne2 _ _ _) (XB9.out.sto ne3 _ _ _)) (first
      | (go_at_call 78
         refine (ref_den HQB.out (by omega)).mono ?_
         rw [val_limbs]
         rintro e w3 ⟨v3, rfl, hz3, hb3⟩
         have HW3 := hid (step_below HWs.out hb3)
         have XA3 := hid (XAs.out.below hb3); have XB3 := hid (XBs.out.below hb3); have XR3 := hid (XRs.out.below hb3)
         have N3 := hid (HDA.out.below hb3); have M3 := hid (HQA.out.below hb3); have L3 := hid (HDB.out.below hb3); have O3 := hid (HDC.out.below hb3); have P3 := hid (HDD.out.below hb3)
         clear HQB
         have HR3 := hid hz3
         clear hz3 hb3)
      | (go_at_call 77
         refine (ref_mulZ N3.out HR3.out.sees (by omega) (by have := HLD.out; omega)).mono ?_
         rw [zval_plain, zval_plain]
         rintro e w4 ⟨v4, rfl, hz4, hb4⟩
         have HW4 := hid (step_below HW3.out hb4)
         have XA4 := hid (XA3.out.below hb4); have XB4 := hid (XB3.out.below hb4); have XR4 := hid (XR3.out.below hb4)
         have M4 := hid (M3.out.below hb4); have L4 := hid (L3.out.below hb4); have O4 := hid (O3.out.below hb4); have P4 := hid (P3.out.below hb4)
         clear N3
         have HR4 := hid hz4
         clear hz4 hb4)
      | (go_at_call 78
         refine (ref_den M4.out (by omega)).mono ?_
         rw [val_limbs]
         rintro e w5 ⟨v5, rfl, hz5, hb5⟩
         have HW5 := hid (step_below HW4.out hb5)
         have XA5 := hid (XA4.out.below hb5); have XB5 := hid (XB4.out.below hb5); have XR5 := hid (XR4.out.below hb5)
         have L5 := hid (L4.out.below hb5); have O5 := hid (O4.out.below hb5); have P5 := hid (P4.out.below hb5); have U5 := hid (HR4.out.below hb5)
         have HR5 := hid hz5
         clear hz5 hb5)
      | (go_at_call 77
         refine (ref_mulZ L5.out HR5.out.sees (by omega) (by have := HLC.out; omega)).mono ?_
         rw [zval_plain, zval_plain]
         rintro e w6 ⟨v6, rfl, hz6, hb6⟩
         have HW6 := hid (step_below HW5.out hb6)
         have XA6 := hid (XA5.out.below hb6); have XB6 := hid (XB5.out.below hb6); have XR6 := hid (XR5.out.below hb6)
         have O6 := hid (O5.out.below hb6); have P6 := hid (P5.out.below hb6); have U6 := hid (U5.out.below hb6)
         have HR6 := hid hz6
         clear hz6 hb6)
      | (go_at_call 75
         refine (ref_MakeQ (d := K) U6.out (by rw [← HBC.out]; exact HR6.out) HPOS.out (by have := HL1.out; omega) (by rw [← HBC.out]; have := HL2.out; omega)).mono ?_
         rw [HN.out, HE.out]
         rintro e w9 ⟨v9, rfl, hq5, hb9⟩
         have HW5 := hid (step_below HW6.out hb9)
         have XA9 := hid (XA6.out.below hb9); have XB9 := hid (XB6.out.below hb9); have XR5 := XR6.out.below hb9
         obtain ⟨r1, r2, r3, r4, rfl⟩ := hq5.form
         have HQ5 := hid hq5
         obtain ⟨s0, s1, s2, s3, s4, s5⟩ := XR5.open3
         have ls := XR5.lt
         clear hq5 hb9))
  all_goals
    obtain ⟨w7, hw7, hq7, hb7, k0, k1, k2⟩ := store3 HW5.out HG3.out XR5 HQ5.out
    rw [hw7]
    have HQ := hid hq7; have HB7 := hid hb7
    clear hw7 hq7 hb7 s0 s1 s2 s3 s4 s5 ls XR5 HQ5 HW5
    generalize zneg N = nb at *
    generalize zlim N = lN at *
    generalize limbs E = lE at *
    go_wp2_with fail
    exact bodyPost_ret (v := .tuple #[.agg #[.bool nb, .slice r1 lN.length r2, .slice r3 lE.length r4], .int .i64 0]) (by simp [results, Tryz.results37, go_sem, k0, k1, k2]) rfl ⟨_, rfl, HQ.out, HB7.out⟩
end Go.Proofs.YtjnbonellgpjnaaGreat
