/- The document's Neg, Sub, Cmp of layer 3. -/
import Derived.Test.YtjnbonellgpjnaaGreatDb
set_option linter.unusedVariables false
set_option linter.unusedSimpArgs false
namespace Go.Proofs.YtjnbonellgpjnaaGreat
open Go.RowKit

theorem cells1 {w : World} {g : Nat} {a b c : Value} (h : Blk w g #[a, b, c]) : w.cell? ⟨g, 0, none⟩ = some a ∧ w.cell? ⟨g, 1, none⟩ = some b ∧ w.cell? ⟨g, 2, none⟩ = some c := ⟨h.open3.1, h.open3.2.1, h.open3.2.2.1⟩
theorem zval_notD (n : Bool) (l : List Nat) : zval (!n) l = -zval n l := by cases n <;> simp [zval]
theorem zlim_neg (A : Int) : zlim (-A) = zlim A := by unfold zlim; rw [Int.natAbs_neg]

set_option maxRecDepth 100000 in
set_option maxHeartbeats 2000000 in
theorem ref_negQ {v : Value} {n : Bool} {l d : List Nat} {w : World} (h : SeesQ w v n l d) (hl : l.length ≤ 1000) (hd : d.length ≤ 1000) :
    Calls Tryz.prog 45 #[v] w fun e w' => IsRat w (-(qnum (zval n l) (val d))) (qden (zval n l) (val d)) e w' := by
  have hlN := qnum_len (n := n) (l := l) (by obtain ⟨_, _, _, h1, _⟩ := h; exact h1.ok) (val d)
  obtain ⟨ao, ac, bo, bc, rfl⟩ := id h.form
  obtain ⟨y, hy⟩ : ∃ y, y = (w.alloc (.cells #[.bool n, .slice ao l.length ac, .slice bo d.length bc] 26)).alloc (.cells #[.bool false, .slice none 0 0, .slice none 0 0] 26) := ⟨_, rfl⟩
  have b : Below w.heap.size w y := by rw [hy]; exact ((Below.refl _ w).alloc (Nat.le_refl _) _).alloc (by simp) _
  have xA : Blk y w.heap.size #[.bool n, .slice ao l.length ac, .slice bo d.length bc] := by rw [hy]; exact (Blk.new w _ _).alloc _
  have xR : Blk y (w.heap.size + 1) #[.bool false, .slice none 0 0, .slice none 0 0] := by
    rw [hy]
    have := Blk.new (w.alloc (.cells #[.bool n, .slice ao l.length ac, .slice bo d.length bc] 26)) #[.bool false, .slice none 0 0, .slice none 0 0] 26
    rwa [Deep.nblk_alloc] at this
  have HC := hid (ref_plainQ (h.below b) (by omega) (by omega))
  obtain ⟨A, hA⟩ : ∃ z, qnum (zval n l) (val d) = z := ⟨_, rfl⟩
  obtain ⟨C, hC⟩ : ∃ z, qden (zval n l) (val d) = z := ⟨_, rfl⟩
  rw [hA] at HC hlN ⊢
  rw [hC] at HC ⊢
  obtain ⟨gR, e2⟩ : ∃ g, g = w.heap.size + 1 := ⟨_, rfl⟩
  obtain ⟨gA, e1⟩ : ∃ g, g = w.heap.size := ⟨_, rfl⟩
  rw [← e2] at xR; rw [← e1] at xA
  have ne2 : gA ≠ gR := by omega
  have g1 : w.heap.size ≤ gA := by omega
  have g3 : w.heap.size ≤ gR := by omega
  have HG := hid g1; have HG3 := hid g3
  have HY := hid hy.symm; have E1 := hid e1.symm; have E2 := hid e2.symm
  have XA := hid xA; have XR := hid xR; have HBel := hid b
  obtain ⟨a0, a1, a2, a3, a4, a5⟩ := xA.open3
  clear hy e1 e2 xA xR b hA hC h g1 g3
  obtain ⟨M, hM⟩ : ∃ M, -A = M := ⟨_, rfl⟩
  have HM := hid hM
  rw [hM]
  clear hM
  go_enter Tryz.func45, Tryz.ntmps45
  go_wp2_with fail
  rw [HY.out, E2.out, E1.out]
  clear HY E1 E2
  refine HC.out.mono ?_
  rintro e w1 ⟨v1, rfl, hq1, hb1⟩
  have ZA := XA.out.below hb1; have ZR := XR.out.below hb1
  have HW1 := HBel.out.trans (hb1.mono HBel.out.size)
  obtain ⟨p1, p2, p3, p4, rfl⟩ := hq1.form
  have HS : Hid (IsQ (((w1.setCell ⟨gA, 0, none⟩ (.bool (zneg A))).setCell ⟨gA, 1, none⟩ (.slice p1 (zlim A).length p2)).setCell ⟨gA, 2, none⟩ (.slice p3 (limbs C).length p4)) (.agg #[.bool (zneg A), .slice p1 (zlim A).length p2, .slice p3 (limbs C).length p4]) A C ∧
      Blk (((w1.setCell ⟨gA, 0, none⟩ (.bool (zneg A))).setCell ⟨gA, 1, none⟩ (.slice p1 (zlim A).length p2)).setCell ⟨gA, 2, none⟩ (.slice p3 (limbs C).length p4)) gA #[.bool (zneg A), .slice p1 (zlim A).length p2, .slice p3 (limbs C).length p4] ∧
      Blk (((w1.setCell ⟨gA, 0, none⟩ (.bool (zneg A))).setCell ⟨gA, 1, none⟩ (.slice p1 (zlim A).length p2)).setCell ⟨gA, 2, none⟩ (.slice p3 (limbs C).length p4)) gR #[.bool false, .slice none 0 0, .slice none 0 0] ∧
      Below w.heap.size w (((w1.setCell ⟨gA, 0, none⟩ (.bool (zneg A))).setCell ⟨gA, 1, none⟩ (.slice p1 (zlim A).length p2)).setCell ⟨gA, 2, none⟩ (.slice p3 (limbs C).length p4))) :=
    ⟨hq1.st ZA _ _ _, ZA.st _ _ _, ZR.sto (Ne.symm ne2) _ _ _, below_st HW1 HG.out _ _ _⟩
  clear hq1 hb1 HC HW1 a0 a1 a2 a3 a4 a5 XA XR HBel
  obtain ⟨a0, a1, a2, a3, a4, a5⟩ := ZA.open3
  have hltA := ZA.lt
  clear ZR
  go_wp2_with fail
  clear ZA a0 a1 a2 a3 a4 a5 hltA
  revert HS
  generalize (((w1.setCell ⟨gA, 0, none⟩ (.bool (zneg A))).setCell ⟨gA, 1, none⟩ (.slice p1 (zlim A).length p2)).setCell ⟨gA, 2, none⟩ (.slice p3 (limbs C).length p4)) = wf
  intro HS
  obtain ⟨hf1, hf3, hf5, hf6⟩ := HS.out
  have HD := (Below.refl wf.heap.size wf).drew
  have HDA := hid (hf1.num.1.below HD); have HDC := hid (hf1.num.2.below HD)
  have HXA := hid (hf3.below HD); have HXR := hid (hf5.below HD)
  have HW := hid hf6.drew
  clear hf1 hf3 hf5 hf6 HD HS
  obtain ⟨c0, c1, c2, -, -, -⟩ := HXA.out.open3
  go_region_held3 (fun w' => w'.cell? ⟨gA, 0, none⟩ = some (.bool (zneg A)) ∧ w'.cell? ⟨gA, 1, none⟩ = some (.slice p1 (zlim A).length p2) ∧ w'.cell? ⟨gA, 2, none⟩ = some (.slice p3 (limbs C).length p4)) (first | (with_reducible exact cells1 HXA.out) | (with_reducible exact cells1 XA3.out) | exact cells1 (XA3.out.sto ne2 _ _ _)) (first
    | (go_at_call 88
       refine (ref_negZ HDA.out (by omega)).mono ?_
       rw [zval_notD, zval_plain, HM.out]
       rintro e w3 ⟨v3, rfl, hz3, hb3⟩
       have HW5 := hid (step_below HW.out hb3)
       have XA3 := hid (HXA.out.below hb3); have XR5 := HXR.out.below hb3
       obtain ⟨r1, r2, rfl⟩ := hz3.form
       have HQ5 := hid (isQ_of hz3 (HDC.out.below hb3))
       obtain ⟨s0, s1, s2, s3, s4, s5⟩ := XR5.open3
       have ls := XR5.lt
       clear hz3 hb3))
  all_goals
    obtain ⟨w7, hw7, hq7, hb7, k0, k1, k2⟩ := store3 HW5.out HG3.out XR5 HQ5.out
    rw [hw7]
    have HQ := hid hq7; have HB7 := hid hb7
    clear hw7 hq7 hb7 s0 s1 s2 s3 s4 s5 ls XR5 HQ5 HW5
    generalize zneg M = nb at *
    generalize zlim M = lN at *
    generalize limbs C = lE at *
    go_wp2_with fail
    exact bodyPost_ret (v := .agg #[.bool nb, .slice r1 lN.length r2, .slice p3 lE.length p4]) (by simp [results, Tryz.results45, go_sem, k0, k1, k2]) rfl ⟨_, rfl, HQ.out, HB7.out⟩

set_option maxRecDepth 100000 in
set_option maxHeartbeats 2000000 in
theorem ref_subQ {va vb : Value} {na nb : Bool} {la da lb db : List Nat} {w : World} (ha : SeesQ w va na la da) (hb : SeesQ w vb nb lb db) (h1 : la.length ≤ 300) (h2 : da.length ≤ 300) (h3 : lb.length ≤ 300) (h4 : db.length ≤ 300) (A B : Int) (C D : Nat)
    (hA : qnum (zval na la) (val da) = A) (hC : qden (zval na la) (val da) = C) (hB : qnum (zval nb lb) (val db) = B) (hD : qden (zval nb lb) (val db) = D) :
    Calls Tryz.prog 18 #[va, vb] w fun e w' => IsRat w (qnum (A * (D : Int) + -B * (C : Int)) (C * D)) (qden (A * (D : Int) + -B * (C : Int)) (C * D)) e w' := by
  have lA := qnum_len (n := na) (l := la) (by obtain ⟨_, _, _, h1, _⟩ := ha; exact h1.ok) (val da)
  have lC := qden_len (m := da) (by obtain ⟨_, _, _, _, h1⟩ := ha; exact h1.ok) (zval na la)
  have lB := qnum_len (n := nb) (l := lb) (by obtain ⟨_, _, _, h1, _⟩ := hb; exact h1.ok) (val db)
  have lD := qden_len (m := db) (by obtain ⟨_, _, _, _, h1⟩ := hb; exact h1.ok) (zval nb lb)
  have zC := qden_ne (zval na la) (val da)
  have zD := qden_ne (zval nb lb) (val db)
  rw [hA] at lA; rw [hC] at lC zC; rw [hB] at lB; rw [hD] at lD zD
  have lB' : (zlim (-B)).length ≤ 301 := by rw [zlim_neg]; omega
  have m1 := zlim_mul (A := A) (B := (D : Int)) (m := 301) (n := 301) (by omega) (show (limbs D).length ≤ 301 by omega)
  have m2 := zlim_mul (A := -B) (B := (C : Int)) (m := 301) (n := 301) lB' (show (limbs C).length ≤ 301 by omega)
  have m3 := zlim_add m1 m2
  have m4 := limbs_mul (A := C) (B := D) (m := 301) (n := 301) (by omega) (by omega)
  have hpos : 0 < C * D := Nat.mul_pos (Nat.pos_of_ne_zero zC) (Nat.pos_of_ne_zero zD)
  have HPB := hid (fun (w' : World) (h : Below w.heap.size w w') => ref_negQ (hb.below h) (by omega) (by omega))
  rw [hB, hD] at HPB
  have k1 : qnum (-B) D = -B := by rw [← hB, ← hD]; exact qnum_neg_plain _ _
  have k2 : qden (-B) D = D := by rw [← hB, ← hD]; exact qden_neg_plain _ _
  have HADD : Hid (∀ (w' : World) (u : Value), Below w.heap.size w w' → IsQ w' u (-B) D → Calls Tryz.prog 38 #[va, u] w' fun e w'' => IsRat w' (qnum (A * (D : Int) + -B * (C : Int)) (C * D)) (qden (A * (D : Int) + -B * (C : Int)) (C * D)) e w'') := fun w' u hw hu =>
    ref_addQ (ha.below hw) hu (by omega) (by omega) (by omega) (by omega) A (-B) C D hA hC (by rw [zval_plain, val_limbs]; exact k1) (by rw [zval_plain, val_limbs]; exact k2) (by omega) (by omega) (by omega) (by omega) (by omega) (by omega) hpos
  obtain ⟨ao, ac, bo, bc, rfl⟩ := id ha.form
  obtain ⟨co, cc, eo, ec, rfl⟩ := id hb.form
  obtain ⟨N, hN⟩ : ∃ N, qnum (A * (D : Int) + -B * (C : Int)) (C * D) = N := ⟨_, rfl⟩
  obtain ⟨E, hE⟩ : ∃ E, qden (A * (D : Int) + -B * (C : Int)) (C * D) = E := ⟨_, rfl⟩
  rw [hN, hE] at HADD ⊢
  obtain ⟨y, hy⟩ : ∃ y, y = ((w.alloc (.cells #[.bool na, .slice ao la.length ac, .slice bo da.length bc] 26)).alloc (.cells #[.bool nb, .slice co lb.length cc, .slice eo db.length ec] 26)).alloc (.cells #[.bool false, .slice none 0 0, .slice none 0 0] 26) := ⟨_, rfl⟩
  have b : Below w.heap.size w y := by rw [hy]; exact (((Below.refl _ w).alloc (Nat.le_refl _) _).alloc (by simp) _).alloc (by simp; omega) _
  have xA : Blk y w.heap.size #[.bool na, .slice ao la.length ac, .slice bo da.length bc] := by rw [hy]; exact ((Blk.new w _ _).alloc _).alloc _
  have xB : Blk y (w.heap.size + 1) #[.bool nb, .slice co lb.length cc, .slice eo db.length ec] := by
    rw [hy]
    have := (Blk.new (w.alloc (.cells #[.bool na, .slice ao la.length ac, .slice bo da.length bc] 26)) #[.bool nb, .slice co lb.length cc, .slice eo db.length ec] 26).alloc (.cells #[.bool false, .slice none 0 0, .slice none 0 0] 26)
    rwa [Deep.nblk_alloc] at this
  have xR : Blk y (w.heap.size + 1 + 1) #[.bool false, .slice none 0 0, .slice none 0 0] := by
    rw [hy]
    have := Blk.new ((w.alloc (.cells #[.bool na, .slice ao la.length ac, .slice bo da.length bc] 26)).alloc (.cells #[.bool nb, .slice co lb.length cc, .slice eo db.length ec] 26)) #[.bool false, .slice none 0 0, .slice none 0 0] 26
    rwa [Deep.nblk_alloc, Deep.nblk_alloc] at this
  obtain ⟨gR, e3⟩ : ∃ g, g = w.heap.size + 1 + 1 := ⟨_, rfl⟩
  obtain ⟨gB, e2⟩ : ∃ g, g = w.heap.size + 1 := ⟨_, rfl⟩
  obtain ⟨gA, e1⟩ : ∃ g, g = w.heap.size := ⟨_, rfl⟩
  rw [← e3] at xR; rw [← e2] at xB; rw [← e1] at xA
  have HY := hid hy.symm; have E1 := hid e1.symm; have E2 := hid e2.symm; have E3 := hid e3.symm
  have ne2 : gA ≠ gR := by omega
  have ne3 : gB ≠ gR := by omega
  have g3 : w.heap.size ≤ gR := by omega
  have HG3 := hid g3
  have HD := (Below.refl y.heap.size y).drew
  have HXA := hid (xA.below HD); have HXB := hid (xB.below HD); have HXR := hid (xR.below HD)
  have HW := hid b.drew
  clear hy e1 e2 e3 xA xB xR b hA hC hB hD ha hb g3 hpos m1 m2 m3 m4 lA lB lC lD zC zD lB' k1 k2 hN hE HD
  obtain ⟨c0, c1, c2, -, -, -⟩ := HXA.out.open3
  obtain ⟨d0, d1, d2, -, -, -⟩ := HXB.out.open3
  go_enter Tryz.func18, Tryz.ntmps18
  go_wp2_with fail
  rw [HY.out, E3.out, E2.out, E1.out]
  clear HY E1 E2 E3
  go_region_held3 (fun w' => w'.cell? ⟨gA, 0, none⟩ = some (.bool na) ∧ w'.cell? ⟨gA, 1, none⟩ = some (.slice ao la.length ac) ∧ w'.cell? ⟨gA, 2, none⟩ = some (.slice bo da.length bc) ∧ w'.cell? ⟨gB, 0, none⟩ = some (.bool nb) ∧ w'.cell? ⟨gB, 1, none⟩ = some (.slice co lb.length cc) ∧ w'.cell? ⟨gB, 2, none⟩ = some (.slice eo db.length ec)) (first | (with_reducible exact cellsQ HXA.out HXB.out) | (with_reducible exact cellsQ XA3.out XB3.out) | (with_reducible exact cellsQ XA4.out XB4.out) | exact cellsQ (XA4.out.sto ne2 _ _ _) (XB4.out.sto ne3 _ _ _)) (first
    | (go_at_call 45
       refine (HPB.out _ (by with_reducible exact HW.out)).mono ?_
       rintro e w3 ⟨v3, rfl, hz3, hb3⟩
       have HW3 := hid (step_below HW.out hb3)
       have XA3 := hid (HXA.out.below hb3); have XB3 := hid (HXB.out.below hb3); have XR3 := hid (HXR.out.below hb3)
       have HZ3 := hid hz3
       clear hz3 hb3)
    | (go_at_call 38
       refine (HADD.out _ _ (by with_reducible exact HW3.out) (by exact HZ3.out)).mono ?_
       rintro e w4 ⟨v4, rfl, hq5, hb4⟩
       have HW5 := hid (step_below HW3.out hb4)
       have XA4 := hid (XA3.out.below hb4); have XB4 := hid (XB3.out.below hb4); have XR5 := XR3.out.below hb4
       obtain ⟨r1, r2, r3, r4, rfl⟩ := hq5.form
       have HQ5 := hid hq5
       obtain ⟨s0, s1, s2, s3, s4, s5⟩ := XR5.open3
       have ls := XR5.lt
       clear hq5 hb4))
  all_goals
    obtain ⟨w7, hw7, hq7, hb7, k0, k1, k2⟩ := store3 HW5.out HG3.out XR5 HQ5.out
    rw [hw7]
    have HQ := hid hq7; have HB7 := hid hb7
    clear hw7 hq7 hb7 s0 s1 s2 s3 s4 s5 ls XR5 HQ5 HW5
    generalize zneg N = nb2 at *
    generalize zlim N = lN at *
    generalize limbs E = lE at *
    go_wp2_with fail
    exact bodyPost_ret (v := .agg #[.bool nb2, .slice r1 lN.length r2, .slice r3 lE.length r4]) (by simp [results, Tryz.results18, go_sem, k0, k1, k2]) rfl ⟨_, rfl, HQ.out, HB7.out⟩

theorem sgnI_qq (z : Int) (d : Nat) : sgnI (qnum (qnum z d) (qden z d)) = sgnI (qnum z d) := by rw [qnum_plain]

set_option maxRecDepth 100000 in
set_option maxHeartbeats 2000000 in
theorem ref_cmpQ {va vb : Value} {na nb : Bool} {la da lb db : List Nat} {w : World} (ha : SeesQ w va na la da) (hb : SeesQ w vb nb lb db) (h1 : la.length ≤ 300) (h2 : da.length ≤ 300) (h3 : lb.length ≤ 300) (h4 : db.length ≤ 300) (A B : Int) (C D : Nat)
    (hA : qnum (zval na la) (val da) = A) (hC : qden (zval na la) (val da) = C) (hB : qnum (zval nb lb) (val db) = B) (hD : qden (zval nb lb) (val db) = D) :
    Calls Tryz.prog 19 #[va, vb] w fun e w' => e = .returned (.int .i64 (sgnI (qnum (A * (D : Int) + -B * (C : Int)) (C * D)))) ∧ Below w.heap.size w w' := by
  have lA := qnum_len (n := na) (l := la) (by obtain ⟨_, _, _, h1, _⟩ := ha; exact h1.ok) (val da)
  have lC := qden_len (m := da) (by obtain ⟨_, _, _, _, h1⟩ := ha; exact h1.ok) (zval na la)
  have lB := qnum_len (n := nb) (l := lb) (by obtain ⟨_, _, _, h1, _⟩ := hb; exact h1.ok) (val db)
  have lD := qden_len (m := db) (by obtain ⟨_, _, _, _, h1⟩ := hb; exact h1.ok) (zval nb lb)
  rw [hA] at lA; rw [hC] at lC; rw [hB] at lB; rw [hD] at lD
  have m1 := zlim_mul (A := A) (B := (D : Int)) (m := 301) (n := 301) (by omega) (show (limbs D).length ≤ 301 by omega)
  have m2 := zlim_mul (A := -B) (B := (C : Int)) (m := 301) (n := 301) (by rw [zlim_neg]; omega) (show (limbs C).length ≤ 301 by omega)
  have m3 := zlim_add m1 m2
  have m4 := limbs_mul (A := C) (B := D) (m := 301) (n := 301) (by omega) (by omega)
  have m5 := qnum_lenD (A * (D : Int) + -B * (C : Int)) (C * D)
  have m6 := qden_lenD (A * (D : Int) + -B * (C : Int)) (C * D)
  obtain ⟨ao, ac, bo, bc, rfl⟩ := id ha.form
  obtain ⟨co, cc, eo, ec, rfl⟩ := id hb.form
  obtain ⟨y, hy⟩ : ∃ y, y = (w.alloc (.cells #[.bool na, .slice ao la.length ac, .slice bo da.length bc] 26)).alloc (.cells #[.bool nb, .slice co lb.length cc, .slice eo db.length ec] 26) := ⟨_, rfl⟩
  have b : Below w.heap.size w y := by rw [hy]; exact ((Below.refl _ w).alloc (Nat.le_refl _) _).alloc (by simp) _
  have xA : Blk y w.heap.size #[.bool na, .slice ao la.length ac, .slice bo da.length bc] := by rw [hy]; exact (Blk.new w _ _).alloc _
  have xB : Blk y (w.heap.size + 1) #[.bool nb, .slice co lb.length cc, .slice eo db.length ec] := by
    rw [hy]
    have := Blk.new (w.alloc (.cells #[.bool na, .slice ao la.length ac, .slice bo da.length bc] 26)) #[.bool nb, .slice co lb.length cc, .slice eo db.length ec] 26
    rwa [Deep.nblk_alloc] at this
  obtain ⟨gB, e2⟩ : ∃ g, g = w.heap.size + 1 := ⟨_, rfl⟩
  obtain ⟨gA, e1⟩ : ∃ g, g = w.heap.size := ⟨_, rfl⟩
  rw [← e2] at xB; rw [← e1] at xA
  have HY := hid hy.symm; have E1 := hid e1.symm; have E2 := hid e2.symm
  have HBel := hid b
  have HC := hid (ref_subQ (ha.below b) (hb.below b) h1 h2 h3 h4 A B C D hA hC hB hD)
  obtain ⟨N, hN⟩ : ∃ N, qnum (A * (D : Int) + -B * (C : Int)) (C * D) = N := ⟨_, rfl⟩
  obtain ⟨E, hE⟩ : ∃ E, qden (A * (D : Int) + -B * (C : Int)) (C * D) = E := ⟨_, rfl⟩
  have hP : qnum N E = N := by rw [← hN, ← hE]; exact qnum_plain _ _
  rw [hN, hE] at HC
  rw [hN] at m5 ⊢
  rw [hE] at m6
  have HP := hid hP
  have L1 := hid (show (zlim N).length ≤ 100000 by omega); have L2 := hid (show (limbs E).length ≤ 100000 by omega)
  obtain ⟨a0, a1, a2, -, -, -⟩ := xA.open3
  obtain ⟨b0, b1, b2, -, -, -⟩ := xB.open3
  clear hy e1 e2 xA xB b ha hb hN hE hP m1 m2 m3 m4 m5 m6 hA hB hC hD
  go_enter Tryz.func19, Tryz.ntmps19
  go_wp2_with fail
  rw [HY.out, E2.out, E1.out]
  refine HC.out.mono ?_
  rintro e w1 ⟨v1, rfl, hq, hb1⟩
  have HB1 := hid (HBel.out.trans (hb1.mono HBel.out.size))
  obtain ⟨r1, r2, r3, r4, rfl⟩ := hq.form
  have HS := hid (ref_signQ hq L1.out L2.out)
  rw [zval_plain, val_limbs, HP.out] at HS
  clear hq hb1 HC a0 a1 a2 b0 b1 b2
  go_wp2_with fail
  refine HS.out.mono ?_
  rintro e w2 ⟨rfl, hb2⟩
  have HB2 := hid (HB1.out.trans (hb2.mono HB1.out.size))
  clear hb2
  go_wp2_with fail
  go_ret
  exact ⟨rfl, HB2.out⟩
end Go.Proofs.YtjnbonellgpjnaaGreat
