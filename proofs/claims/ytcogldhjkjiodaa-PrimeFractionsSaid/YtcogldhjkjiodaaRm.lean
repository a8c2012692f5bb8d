/- The document's Mul of layer 3. -/
import Derived.Test.YtcogldhjkjiodaaKQ
import Derived.Test.YtcogldhjkjiodaaKW
import Derived.Test.YtcogldhjkjiodaaPm1
set_option linter.unusedVariables false
set_option linter.unusedSimpArgs false
namespace Go.Proofs.Ytcogldhjkjiodaa
open Go.RowKit

theorem Blk.st {w : World} {g : Nat} {a b c : Value} (h : Blk w g #[a, b, c]) (x y z : Value) : Blk (((w.setCell ⟨g, 0, none⟩ x).setCell ⟨g, 1, none⟩ y).setCell ⟨g, 2, none⟩ z) g #[x, y, z] := st3_blk h x y z
theorem Blk.sto {w : World} {g k : Nat} {cs : Array Value} (h : Blk w g cs) (hne : g ≠ k) (x y z : Value) : Blk (((w.setCell ⟨k, 0, none⟩ x).setCell ⟨k, 1, none⟩ y).setCell ⟨k, 2, none⟩ z) g cs := h.grown (st3_grown w k x y z) hne
theorem IsQ.st {w : World} {v : Value} {z : Int} {d : Nat} (h : IsQ w v z d) {g : Nat} {n0 : Bool} {p q : Option Addr} {i j k l : Nat} (hy : Blk w g #[.bool n0, .slice p i j, .slice q k l]) (x y u : Value) : IsQ (((w.setCell ⟨g, 0, none⟩ x).setCell ⟨g, 1, none⟩ y).setCell ⟨g, 2, none⟩ u) v z d := by
  obtain ⟨m, v', rfl, hm, hu⟩ := h
  exact ⟨m, v', rfl, hm.store hy (NoInt.three _ _ _ _ _ _ _) (st3_grown ..), hu.store hy (NoInt.three _ _ _ _ _ _ _) (st3_grown ..)⟩
theorem below_st {w W : World} {g : Nat} (h : Below w.heap.size w W) (hg : w.heap.size ≤ g) (x y z : Value) : Below w.heap.size w (((W.setCell ⟨g, 0, none⟩ x).setCell ⟨g, 1, none⟩ y).setCell ⟨g, 2, none⟩ z) := h.grown (st3_grown W g x y z) h.size (fun k e => by simp at e; omega)

theorem cellsQ {w : World} {g k : Nat} {a b c d e f : Value} (h : Blk w g #[a, b, c]) (i : Blk w k #[d, e, f]) : w.cell? ⟨g, 0, none⟩ = some a ∧ w.cell? ⟨g, 1, none⟩ = some b ∧ w.cell? ⟨g, 2, none⟩ = some c ∧ w.cell? ⟨k, 0, none⟩ = some d ∧ w.cell? ⟨k, 1, none⟩ = some e ∧ w.cell? ⟨k, 2, none⟩ = some f :=
  ⟨h.open3.1, h.open3.2.1, h.open3.2.2.1, i.open3.1, i.open3.2.1, i.open3.2.2.1⟩
theorem IsQ.num {w : World} {b : Bool} {ao : Option Addr} {la ca : Nat} {u : Value} {z : Int} {d : Nat} (h : IsQ w (.agg #[.bool b, .slice ao la ca, u]) z d) : SeesZ w (.agg #[.bool b, .slice ao la ca]) (zneg z) (zlim z) ∧ Sees w u (limbs d) := by
  obtain ⟨m, v, e, hm, hu⟩ := h
  simp only [Value.agg.injEq, Array.mk.injEq, List.cons.injEq, and_true] at e
  obtain ⟨e1, e2, e3⟩ := e
  subst e2; subst e3; rw [e1]
  exact ⟨⟨_, rfl, hm⟩, hu⟩

set_option maxRecDepth 100000 in
set_option maxHeartbeats 4000000 in
theorem ref_mulQ {va vb : Value} {na nb : Bool} {la da lb db : List Nat} {w : World} (ha : SeesQ w va na la da) (hb : SeesQ w vb nb lb db) (h1 : la.length ≤ 1000) (h2 : da.length ≤ 1000) (h3 : lb.length ≤ 1000) (h4 : db.length ≤ 1000) (A B : Int) (C D : Nat)
    (hA : qnum (zval na la) (val da) = A) (hC : qden (zval na la) (val da) = C) (hB : qnum (zval nb lb) (val db) = B) (hD : qden (zval nb lb) (val db) = D)
    (lA : (zlim A).length ≤ 1001) (lB : (zlim B).length ≤ 1001) (lC : (limbs C).length ≤ 1001) (lD : (limbs D).length ≤ 1001) (lAB : (zlim (A * B)).length ≤ 10000) (lCD : (limbs (C * D)).length ≤ 10000) (hpos : 0 < C * D) :
    Calls Try.prog 17 #[va, vb] w fun e w' => IsRat w (qnum (A * B) (C * D)) (qden (A * B) (C * D)) e w' := by
  obtain ⟨N, hN⟩ : ∃ N, qnum (A * B) (C * D) = N := ⟨_, rfl⟩
  obtain ⟨E, hE⟩ : ∃ E, qden (A * B) (C * D) = E := ⟨_, rfl⟩
  rw [hN, hE]
  have HN := hid hN; have HE := hid hE
  clear hN hE
  have HPA := hid (fun (w' : World) (h : Below w.heap.size w w') => ref_plainQ (ha.below h) (by omega) (by omega))
  have HPB := hid (fun (w' : World) (h : Below w.heap.size w w') => ref_plainQ (hb.below h) (by omega) (by omega))
  rw [hA, hC] at HPA
  rw [hB, hD] at HPB
  obtain ⟨ao, ac, bo, bc, rfl⟩ := ha.form
  obtain ⟨co, cc, eo, ec, rfl⟩ := hb.form
  obtain ⟨y, hy⟩ : ∃ y, y = ((w.alloc (.cells #[.bool na, .slice ao la.length ac, .slice bo da.length bc] 26)).alloc (.cells #[.bool nb, .slice co lb.length cc, .slice eo db.length ec] 26)).alloc (.cells #[.bool false, .slice none 0 0, .slice none 0 0] 26) := ⟨_, rfl⟩
  have b : Below w.heap.size w y := by rw [hy]; exact (((Below.refl _ w).alloc (Nat.le_refl _) _).alloc (by simp) _).alloc (by simp; omega) _
  have xA : Blk y w.heap.size #[.bool na, .slice ao la.length ac, .slice bo da.length bc] := by rw [hy]; exact ((Blk.new w _ _).alloc _).alloc _
  have xB : Blk y (w.heap.size + 1) #[.bool nb, .slice co lb.length cc, .slice eo db.length ec] := by
    rw [hy]
    have := (Blk.new (w.alloc (.cells #[.bool na, .slice ao la.length ac, .slice bo da.length bc] 26)) #[.bool nb, .slice co lb.length cc, .slice eo db.length ec] 26).alloc (.cells #[.bool false, .slice none 0 0, .slice none 0 0] 26)
    rwa [Deep.nblk_alloc] at this
  have xR : Blk y (w.heap.size + 1 + 1) #[.bool false, .slice none 0 0, .slice none 0 0] := by
    rw [hy]
    have := Blk.new ((w.alloc (.cells #[.bool na, .slice ao la.length ac, .slice bo da.length bc] 26)).alloc (.cells #[.bool nb, .slice co lb.length cc, .slice eo db.length ec] 26)) #[.bool false, .slice none 0 0, .slice none 0 0] 26
    rwa [Deep.nblk_alloc, Deep.nblk_alloc] at this
  obtain ⟨gR, e3⟩ : ∃ g, g = w.heap.size + 1 + 1 := ⟨_, rfl⟩
  obtain ⟨gB, e2⟩ : ∃ g, g = w.heap.size + 1 := ⟨_, rfl⟩
  obtain ⟨gA, e1⟩ : ∃ g, g = w.heap.size := ⟨_, rfl⟩
  rw [← e3] at xR; rw [← e2] at xB; rw [← e1] at xA
  have HY := hid hy.symm; have E1 := hid e1.symm; have E2 := hid e2.symm; have E3 := hid e3.symm
  have ne1 : gA ≠ gB := by omega
  have ne2 : gA ≠ gR := by omega
  have ne3 : gB ≠ gR := by omega
  have g1 : w.heap.size ≤ gA := by omega
  have g2 : w.heap.size ≤ gB := by omega
  have g3 : w.heap.size ≤ gR := by omega
  have HG := hid g1; have HG2 := hid g2; have HG3 := hid g3
  have XA := hid xA; have XB := hid xB; have XR := hid xR
  have HBel := hid b
  have HS0 := hid b.drew
  have HPOS := hid hpos
  have LAB := hid lAB; have LCD := hid lCD
  clear hy e1 e2 e3 xA xB xR b hA hB hC hD ha hb g1 g2 g3 hpos lAB lCD
  go_enter Try.func17, Try.ntmps17
  go_wp2_with fail
  rw [HY.out, E3.out, E2.out, E1.out]
  clear HY E1 E2 E3
  obtain ⟨a0, a1, a2, a3, a4, a5⟩ := XA.out.open3
  obtain ⟨b0, b1, b2, b3, b4, b5⟩ := XB.out.open3
  have HY0 := hid (Below.refl y.heap.size y).drew
  go_region_with (first
    | (go_at_call 16
       refine (HPA.out _ (by with_reducible exact HS0.out)).mono ?_
       rintro e w1 ⟨v1, rfl, hq1, hb1⟩
       have HS1 : Hid (Below w.heap.size w w1) := hid (step_below HS0.out hb1)
       have hw1 := step_below HY0.out hb1
       have HW1 : Hid (Below y.heap.size y w1) := hid hw1
       clear a0 a1 a2 a3 a4 a5 b0 b1 b2 b3 b4 b5
       obtain ⟨b0, b1, b2, b3, b4, b5⟩ := (XB.out.below hw1).open3
       obtain ⟨p1, p2, p3, p4, rfl⟩ := hq1.form
       have HQ1 := hid hq1
       clear hq1 hb1 HPA hw1)
    | (go_at_call 16
       refine (HPB.out _ (by with_reducible exact HS1.out)).mono ?_
       rintro e w2 ⟨v2, rfl, hq2, hb2⟩
       have HS2 : Hid (Below w.heap.size w w2) := hid (step_below HS1.out hb2)
       have hy2 := step_below HW1.out hb2
       have ZA := XA.out.below hy2; have ZB := XB.out.below hy2; have ZR := XR.out.below hy2
       have HQ2 := hid (HQ1.out.below hb2)
       obtain ⟨q1, q2, q3, q4, rfl⟩ := hq2.form
       have HQ3 := hid hq2
       clear b0 b1 b2 b3 b4 b5
       obtain ⟨c0, c1, c2, c3, c4, c5⟩ := ZA.open3
       obtain ⟨d0, d1, d2, d3, d4, d5⟩ := (ZB.sto (Ne.symm ne1) (.bool (zneg A)) (.slice p1 (zlim A).length p2) (.slice p3 (limbs C).length p4)).open3
       have l1 := ZA.lt; have l2 := ZB.lt
       clear hq2 hb2 HPB hy2))
  all_goals
    refine atWorld (fun w' => (IsQ w' (.agg #[.bool (zneg A), .slice p1 (zlim A).length p2, .slice p3 (limbs C).length p4]) A C ∧ IsQ w' (.agg #[.bool (zneg B), .slice q1 (zlim B).length q2, .slice q3 (limbs D).length q4]) B D) ∧
      (Blk w' gA #[.bool (zneg A), .slice p1 (zlim A).length p2, .slice p3 (limbs C).length p4] ∧ Blk w' gB #[.bool (zneg B), .slice q1 (zlim B).length q2, .slice q3 (limbs D).length q4]) ∧ Blk w' gR #[.bool false, .slice none 0 0, .slice none 0 0] ∧ Below w.heap.size w w')
      ⟨⟨(HQ2.out.st ZA _ _ _).st (ZB.sto (Ne.symm ne1) _ _ _) _ _ _, (HQ3.out.st ZA _ _ _).st (ZB.sto (Ne.symm ne1) _ _ _) _ _ _⟩, ⟨(ZA.st _ _ _).sto ne1 _ _ _, (ZB.sto (Ne.symm ne1) _ _ _).st _ _ _⟩, (ZR.sto (Ne.symm ne2) _ _ _).sto (Ne.symm ne3) _ _ _, below_st (below_st HS2.out HG.out _ _ _) HG2.out _ _ _⟩ ?_
    rintro wf ⟨⟨hf1, hf2⟩, ⟨hf3, hf4⟩, hf5, hf6⟩
    clear ZA ZB ZR HQ1 HQ2 HQ3 c0 c1 c2 c3 c4 c5 d0 d1 d2 d3 d4 d5 l1 l2 HS2 HS1 HW1 XA XB XR HS0 HY0 HBel
  all_goals
    have HD := (Below.refl wf.heap.size wf).drew
    have DA := hf1.num.1.below HD; have DC := hf1.num.2.below HD; have DB := hf2.num.1.below HD; have DD := hf2.num.2.below HD
    have HDA := hid DA; have HDB := hid DB; have HDC := hid DC; have HDD := hid DD
    have HXA := hid (hf3.below HD); have HXB := hid (hf4.below HD); have HXR := hid (hf5.below HD)
    have HW := hid hf6.drew
    clear hf1 hf2 hf3 hf4 hf5 hf6 HD DA DB DC DD
    obtain ⟨c0, c1, c2, -, -, -⟩ := HXA.out.open3
    obtain ⟨d0, d1, d2, -, -, -⟩ := HXB.out.open3
    go_wp2_with fail
    go_region_held3 (fun w' => w'.cell? ⟨gA, 0, none⟩ = some (.bool (zneg A)) ∧ w'.cell? ⟨gA, 1, none⟩ = some (.slice p1 (zlim A).length p2) ∧ w'.cell? ⟨gA, 2, none⟩ = some (.slice p3 (limbs C).length p4) ∧ w'.cell? ⟨gB, 0, none⟩ = some (.bool (zneg B)) ∧ w'.cell? ⟨gB, 1, none⟩ = some (.slice q1 (zlim B).length q2) ∧ w'.cell? ⟨gB, 2, none⟩ = some (.slice q3 (limbs D).length q4)) (first | (with_reducible exact cellsQ HXA.out HXB.out) | (with_reducible exact cellsQ XA3.out XB3.out) | (with_reducible exact cellsQ XA4.out XB4.out) | (with_reducible exact cellsQ XA5.out XB5.out) | exact cellsQ (XA5.out.sto ne2 _ _ _) (XB5.out.sto ne3 _ _ _)) (first
      | (go_at_call 13
         refine (ref_mulZ HDA.out HDB.out (by omega) (by omega)).mono ?_
         rw [zval_plain, zval_plain]
         rintro e w3 ⟨v3, rfl, hz3, hb3⟩
         have HW3 := hid (step_below HW.out hb3)
         have XA3 := hid (HXA.out.below hb3); have XB3 := hid (HXB.out.below hb3); have XR3 := hid (HXR.out.below hb3)
         have HDC3 := hid (HDC.out.below hb3); have HDD3 := hid (HDD.out.below hb3)
         have HZ3 := hid hz3
         clear hz3 hb3)
      | (go_at_call 36
         refine (ref_mul' HDC3.out HDD3.out (by omega) (by omega)).mono ?_
         rw [val_limbs, val_limbs]
         rintro e w4 ⟨v4, rfl, hs4, hb4⟩
         have HW4 := hid (step_below HW3.out hb4)
         have XA4 := hid (XA3.out.below hb4); have XB4 := hid (XB3.out.below hb4); have XR4 := hid (XR3.out.below hb4)
         have HZ4 := hid (HZ3.out.below hb4); have HS4 := hid hs4
         clear hs4 hb4)
      | (go_at_call 40
         refine (ref_over HZ4.out.sees HS4.out (by have := LAB.out; omega) (by have := LCD.out; omega) (by rw [val_limbs]; exact HPOS.out)).mono ?_
         rw [zval_plain, val_limbs, HN.out, HE.out]
         rintro e w5 ⟨v5, rfl, hq5, hb5⟩
         have HW5 := hid (step_below HW4.out hb5)
         have XA5 := hid (XA4.out.below hb5); have XB5 := hid (XB4.out.below hb5); have XR5 := XR4.out.below hb5
         obtain ⟨r1, r2, r3, r4, rfl⟩ := hq5.form
         have HQ5 := hid hq5
         obtain ⟨s0, s1, s2, s3, s4, s5⟩ := XR5.open3
         have ls := XR5.lt
         clear hq5 hb5))
  all_goals
    obtain ⟨w7, hw7, hq7, hb7, k0, k1, k2⟩ := store3 HW5.out HG3.out XR5 HQ5.out
    rw [hw7]
    have HQ := hid hq7; have HB7 := hid hb7
    clear hw7 hq7 hb7 s0 s1 s2 s3 s4 s5 ls XR5 HQ5 HW5
    generalize zneg N = nb at *
    generalize zlim N = lN at *
    generalize limbs E = lE at *
    go_wp2_with fail
    exact bodyPost_ret (v := .agg #[.bool nb, .slice r1 lN.length r2, .slice r3 lE.length r4]) (by simp [results, Try.results17, go_sem, k0, k1, k2]) rfl ⟨_, rfl, HQ.out, HB7.out⟩
end Go.Proofs.Ytcogldhjkjiodaa
