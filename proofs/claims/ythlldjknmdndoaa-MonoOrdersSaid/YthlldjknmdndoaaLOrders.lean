/- For every ring and all its monomials a, b, c: Cmp of b, a is the negative of Cmp of a, b, which is 0 just if they are the same; where a is no more than b and b no more than c, a is no more than c; 1 is no more than a. Conditions: none. -/
import Derived.Test.YthlldjknmdndoaaMoX
import Derived.Deep.RegionHeld3
import Derived.Deep.RegionLaw
set_option linter.unusedVariables false
set_option linter.unusedSimpArgs false
namespace Go.Proofs.Ythlldjknmdndoaa.monoOrders
open Go.ChangeShapes Go.WideShapes Go.ChangeAt Go.RowKit Go.Joins

set_option maxRecDepth 100000 in
set_option maxHeartbeats 4000000 in
theorem walk {v a b c : Value} {ns : List ByteArray} {o f : Int} {x z u : List Int} {w : World} (hr : SeesR w v ns o f) (ha : SeesI w a x) (hb : SeesI w b z) (hc : SeesI w c u) : Calls Try.prog 7 #[v, a, b, c] w fun e w' => e = .returned (.bool true) ∧ Below w.heap.size w w' := by
  obtain ⟨m, rfl, hm⟩ := hr
  have HR : Hid (∀ w1, Below w.heap.size w w1 → SeesR w1 (.agg #[m, .int .i64 o, .int .i64 f]) ns o f) := fun w1 h => ⟨m, rfl, hm.below h⟩
  have Ha : Hid (∀ w1, Below w.heap.size w w1 → SeesI w1 a x) := fun w1 h => SeesI.below ha h
  have hla := ha.len
  have Hb : Hid (∀ w1, Below w.heap.size w w1 → SeesI w1 b z) := fun w1 h => SeesI.below hb h
  have hlb := hb.len
  have Hc : Hid (∀ w1, Below w.heap.size w w1 → SeesI w1 c u) := fun w1 h => SeesI.below hc h
  have hlc := hc.len
  have hln := hm.len
  have B0 := hidP (boxR_below (w := w) m (.int .i64 o) (.int .i64 f))
  have HX := hidP (Box3.new w m (.int .i64 o) (.int .i64 f) 24)
  have C0 := hidP awake6
  obtain ⟨g, hg⟩ : ∃ g, g = w.heap.size := ⟨_, rfl⟩
  rw [← hg] at HX
  have HG := hidP hg
  clear hg
  obtain ⟨N, cn, rfl, hcn⟩ := SeesF.form hm
  obtain ⟨ap, ac, rfl, hac⟩ := SeesF.form ha
  obtain ⟨bp, bc, rfl, hbc⟩ := SeesF.form hb
  obtain ⟨cp, cc, rfl, hcc⟩ := SeesF.form hc
  clear hm ha hb hc
  by_cases h20 : (ns.length : Int) > 20
  · go_enter Try.func7, Try.ntmps7
    go_wp2_with fail
    try rw [← HG.out]
    refine (C0.out _).mono ?_
    rintro e w1 ⟨rfl, hb1⟩
    have B1 := hidP (step_below B0.out hb1)
    replace HX := hidP (HX.out.below hb1)
    try clear c0 c1 c2
    obtain ⟨c0, c1, c2⟩ := HX.out.cells
    clear hb1
    go_wp2
    go_ret
    exact ⟨rfl, B1.out⟩
  by_cases qx : rightB ns o f x = false
  · have Rx := hidP qx
    clear  qx
    go_enter Try.func7, Try.ntmps7
    go_wp2_with fail
    try rw [← HG.out]
    refine (C0.out _).mono ?_
    rintro e w1 ⟨rfl, hb1⟩
    have B1 := hidP (step_below B0.out hb1)
    replace HX := hidP (HX.out.below hb1)
    try clear c0 c1 c2
    obtain ⟨c0, c1, c2⟩ := HX.out.cells
    clear hb1
    go_wp2_with fail
    refine (right_is (HR.out _ B1.out) (Ha.out _ B1.out) Rx.out).mono ?_
    rintro e w2 ⟨rfl, hb2⟩
    have B2 := hidP (step_below B1.out hb2)
    replace HX := hidP (HX.out.below hb2)
    try clear c0 c1 c2
    obtain ⟨c0, c1, c2⟩ := HX.out.cells
    clear hb2
    go_wp2
    go_ret
    exact ⟨rfl, B2.out⟩
  have rx : rightB ns o f x = true := by simpa using qx
  clear qx
  by_cases qz : rightB ns o f z = false
  · have Rz := hidP qz
    have Rx := hidP rx
    clear rx qz
    go_enter Try.func7, Try.ntmps7
    go_wp2_with fail
    try rw [← HG.out]
    refine (C0.out _).mono ?_
    rintro e w1 ⟨rfl, hb1⟩
    have B1 := hidP (step_below B0.out hb1)
    replace HX := hidP (HX.out.below hb1)
    try clear c0 c1 c2
    obtain ⟨c0, c1, c2⟩ := HX.out.cells
    clear hb1
    go_wp2_with fail
    refine (right_is (HR.out _ B1.out) (Ha.out _ B1.out) Rx.out).mono ?_
    rintro e w2 ⟨rfl, hb2⟩
    have B2 := hidP (step_below B1.out hb2)
    replace HX := hidP (HX.out.below hb2)
    try clear c0 c1 c2
    obtain ⟨c0, c1, c2⟩ := HX.out.cells
    clear hb2
    go_wp2_with fail
    refine (right_is (HR.out _ B2.out) (Hb.out _ B2.out) Rz.out).mono ?_
    rintro e w3 ⟨rfl, hb3⟩
    have B3 := hidP (step_below B2.out hb3)
    replace HX := hidP (HX.out.below hb3)
    try clear c0 c1 c2
    obtain ⟨c0, c1, c2⟩ := HX.out.cells
    clear hb3
    go_wp2
    go_ret
    exact ⟨rfl, B3.out⟩
  have rz : rightB ns o f z = true := by simpa using qz
  clear qz
  by_cases qu : rightB ns o f u = false
  · have Ru := hidP qu
    have Rx := hidP rx
    have Rz := hidP rz
    clear rx rz qu
    go_enter Try.func7, Try.ntmps7
    go_wp2_with fail
    try rw [← HG.out]
    refine (C0.out _).mono ?_
    rintro e w1 ⟨rfl, hb1⟩
    have B1 := hidP (step_below B0.out hb1)
    replace HX := hidP (HX.out.below hb1)
    try clear c0 c1 c2
    obtain ⟨c0, c1, c2⟩ := HX.out.cells
    clear hb1
    go_wp2_with fail
    refine (right_is (HR.out _ B1.out) (Ha.out _ B1.out) Rx.out).mono ?_
    rintro e w2 ⟨rfl, hb2⟩
    have B2 := hidP (step_below B1.out hb2)
    replace HX := hidP (HX.out.below hb2)
    try clear c0 c1 c2
    obtain ⟨c0, c1, c2⟩ := HX.out.cells
    clear hb2
    go_wp2_with fail
    refine (right_is (HR.out _ B2.out) (Hb.out _ B2.out) Rz.out).mono ?_
    rintro e w3 ⟨rfl, hb3⟩
    have B3 := hidP (step_below B2.out hb3)
    replace HX := hidP (HX.out.below hb3)
    try clear c0 c1 c2
    obtain ⟨c0, c1, c2⟩ := HX.out.cells
    clear hb3
    go_wp2_with fail
    refine (right_is (HR.out _ B3.out) (Hc.out _ B3.out) Ru.out).mono ?_
    rintro e w4 ⟨rfl, hb4⟩
    have B4 := hidP (step_below B3.out hb4)
    replace HX := hidP (HX.out.below hb4)
    try clear c0 c1 c2
    obtain ⟨c0, c1, c2⟩ := HX.out.cells
    clear hb4
    go_wp2
    go_ret
    exact ⟨rfl, B4.out⟩
  have ru : rightB ns o f u = true := by simpa using qu
  clear qu
  have hxn : x.length ≤ 6 := by have := (rightB_iff.1 rx).1; have := ringB_len (rightB_iff.1 rx).2.2; omega
  have hzero := cmpR_zero rx rz
  have hswap := cmpR_swap rx rz
  have hone := cmpR_one rx
  have htr := cmpR_trans rx rz ru
  have hrg := cmpR_range ns o f x z
  obtain ⟨X, hX⟩ : ∃ X, cmpR ns o f x z = X := ⟨_, rfl⟩
  obtain ⟨Y, hY⟩ : ∃ Y, cmpR ns o f z u = Y := ⟨_, rfl⟩
  obtain ⟨Z, hZ⟩ : ∃ Z, cmpR ns o f x u = Z := ⟨_, rfl⟩
  obtain ⟨O, hO⟩ : ∃ O, cmpR ns o f (List.replicate x.length 0) x = O := ⟨_, rfl⟩
  rw [hX] at hzero hswap htr hrg
  rw [hY] at htr
  rw [hZ] at htr
  rw [hO] at hone
  have Rx := hidP rx; have Rz := hidP rz; have Ru := hidP ru; have HO := hidP hO; have HX1 := hidP hX; have HY1 := hidP hY; have HZ1 := hidP hZ; have HSW := hidP hswap; have HZE := hidP hzero
  clear rx rz ru hO hX hY hZ hswap hzero
  have hmk := run_make_row' (P := Try.prog) 25 3 (.int .i64 0) 8 Try.underlying25 info_int rfl .i64 .i64 x.length (by omega) (by omega)
  have HN6 := hidP hxn
  rcases hrg with rfl | rfl | rfl
  · have HW2 : Hid (cmpR ns o f z x = 1) := by show _ = _; rw [HSW.out] <;> rfl
    have HSm : Hid (decide (x = z) = false) := by
      show _ = _
      exact decide_eq_false (fun h => absurd (HZE.out.2 h) (by decide))
    clear HSW HZE
    by_cases hy : Y ≤ 0
    · have hz : ¬ Z > 0 := by have := htr (by decide) hy; omega
      clear htr
      go_enter Try.func7, Try.ntmps7
      go_wp2_with fail
      try rw [← HG.out]
      refine (C0.out _).mono ?_
      rintro e w1 ⟨rfl, hb1⟩
      have B1 := hidP (step_below B0.out hb1)
      replace HX := hidP (HX.out.below hb1)
      try clear c0 c1 c2
      obtain ⟨c0, c1, c2⟩ := HX.out.cells
      clear hb1
      go_wp2_with fail
      refine (right_is (HR.out _ B1.out) (Ha.out _ B1.out) Rx.out).mono ?_
      rintro e w2 ⟨rfl, hb2⟩
      have B2 := hidP (step_below B1.out hb2)
      replace HX := hidP (HX.out.below hb2)
      try clear c0 c1 c2
      obtain ⟨c0, c1, c2⟩ := HX.out.cells
      clear hb2
      go_wp2_with fail
      refine (right_is (HR.out _ B2.out) (Hb.out _ B2.out) Rz.out).mono ?_
      rintro e w3 ⟨rfl, hb3⟩
      have B3 := hidP (step_below B2.out hb3)
      replace HX := hidP (HX.out.below hb3)
      try clear c0 c1 c2
      obtain ⟨c0, c1, c2⟩ := HX.out.cells
      clear hb3
      go_wp2_with fail
      refine (right_is (HR.out _ B3.out) (Hc.out _ B3.out) Ru.out).mono ?_
      rintro e w4 ⟨rfl, hb4⟩
      have B4 := hidP (step_below B3.out hb4)
      replace HX := hidP (HX.out.below hb4)
      try clear c0 c1 c2
      obtain ⟨c0, c1, c2⟩ := HX.out.cells
      clear hb4
      go_wp2
      have HD := hidP ((Below.refl w4.heap.size w4).drew)
      go_region_held3 (fun w' => w'.cell? ⟨g, 0, none⟩ = some (.slice N ns.length cn) ∧ w'.cell? ⟨g, 1, none⟩ = some (.int .i64 o) ∧ w'.cell? ⟨g, 2, none⟩ = some (.int .i64 f) ∧ Hid (Below w4.heap.size w4 w')) (exact ⟨by assumption, by assumption, by assumption, by assumption⟩) (first
        | (go_at_call 19
           refine (cmp_is (HR.out _ (step_below B4.out (Hid.out (by assumption)))) (by first | exact Ha.out _ (step_below B4.out (Hid.out (by assumption))) | exact Hb.out _ (step_below B4.out (Hid.out (by assumption)))) (by first | exact Hb.out _ (step_below B4.out (Hid.out (by assumption))) | exact Hc.out _ (step_below B4.out (Hid.out (by assumption)))) (by first | exact HX1.out | exact HY1.out | exact HZ1.out)).mono ?_
           rintro e wx ⟨rfl, hb⟩
           have hbn := hidP (step_below (w := w4) (Hid.out (by assumption)) hb)
           obtain ⟨d0, d1, d2⟩ := (HX.out.below hbn.out).cells
           clear hb))
      all_goals
        go_wp2_with fail
        refine (cmp_is (HR.out _ (step_below B4.out (Hid.out (by assumption)))) (Hb.out _ (step_below B4.out (Hid.out (by assumption)))) (Ha.out _ (step_below B4.out (Hid.out (by assumption)))) HW2.out).mono ?_
        rintro e wy ⟨rfl, hb⟩
        have BY := hidP (step_below (step_below B4.out (Hid.out (by assumption))) hb)
        have hbz := hidP (step_below (w := w4) (Hid.out (by assumption)) hb)
        obtain ⟨e0, e1, e2⟩ := (HX.out.below hbz.out).cells
        clear hb
        go_wp2_with fail
        refine (same_is (Ha.out _ BY.out) (Hb.out _ BY.out) HSm.out).mono ?_
        rintro e wz ⟨rfl, hb⟩
        have BZ := hidP (step_below BY.out hb)
        have hbq := hidP (step_below hbz.out hb)
        obtain ⟨q0, q1, q2⟩ := (HX.out.below hbq.out).cells
        have HRow := hidP (RowI.made wz x.length)
        have hal : Below wz.heap.size wz (wz.alloc (.cells (madeCells #[.int .i64 0] x.length) 3)) := (Below.refl _ _).alloc (Nat.le_refl _) _
        have BA := hidP (step_below BZ.out hal)
        obtain ⟨a0, a1, a2⟩ := ((HX.out.below hbq.out).below hal).cells
        clear hb hal
        go_wp2_with fail
        refine (cmp_is (HR.out _ BA.out) (made_sees HRow.out HN6.out) (Ha.out _ BA.out) HO.out).mono ?_
        rintro e wv ⟨rfl, hb⟩
        have BV := hidP (step_below BA.out hb)
        clear hb
        go_wp2
        go_ret
        exact ⟨ret_bool (by first | rfl | (simp; done) | (simp; omega)), BV.out⟩
    · clear htr
      go_enter Try.func7, Try.ntmps7
      go_wp2_with fail
      try rw [← HG.out]
      refine (C0.out _).mono ?_
      rintro e w1 ⟨rfl, hb1⟩
      have B1 := hidP (step_below B0.out hb1)
      replace HX := hidP (HX.out.below hb1)
      try clear c0 c1 c2
      obtain ⟨c0, c1, c2⟩ := HX.out.cells
      clear hb1
      go_wp2_with fail
      refine (right_is (HR.out _ B1.out) (Ha.out _ B1.out) Rx.out).mono ?_
      rintro e w2 ⟨rfl, hb2⟩
      have B2 := hidP (step_below B1.out hb2)
      replace HX := hidP (HX.out.below hb2)
      try clear c0 c1 c2
      obtain ⟨c0, c1, c2⟩ := HX.out.cells
      clear hb2
      go_wp2_with fail
      refine (right_is (HR.out _ B2.out) (Hb.out _ B2.out) Rz.out).mono ?_
      rintro e w3 ⟨rfl, hb3⟩
      have B3 := hidP (step_below B2.out hb3)
      replace HX := hidP (HX.out.below hb3)
      try clear c0 c1 c2
      obtain ⟨c0, c1, c2⟩ := HX.out.cells
      clear hb3
      go_wp2_with fail
      refine (right_is (HR.out _ B3.out) (Hc.out _ B3.out) Ru.out).mono ?_
      rintro e w4 ⟨rfl, hb4⟩
      have B4 := hidP (step_below B3.out hb4)
      replace HX := hidP (HX.out.below hb4)
      try clear c0 c1 c2
      obtain ⟨c0, c1, c2⟩ := HX.out.cells
      clear hb4
      go_wp2
      have HD := hidP ((Below.refl w4.heap.size w4).drew)
      go_region_held3 (fun w' => w'.cell? ⟨g, 0, none⟩ = some (.slice N ns.length cn) ∧ w'.cell? ⟨g, 1, none⟩ = some (.int .i64 o) ∧ w'.cell? ⟨g, 2, none⟩ = some (.int .i64 f) ∧ Hid (Below w4.heap.size w4 w')) (exact ⟨by assumption, by assumption, by assumption, by assumption⟩) (first
        | (go_at_call 19
           refine (cmp_is (HR.out _ (step_below B4.out (Hid.out (by assumption)))) (by first | exact Ha.out _ (step_below B4.out (Hid.out (by assumption))) | exact Hb.out _ (step_below B4.out (Hid.out (by assumption)))) (by first | exact Hb.out _ (step_below B4.out (Hid.out (by assumption))) | exact Hc.out _ (step_below B4.out (Hid.out (by assumption)))) (by first | exact HX1.out | exact HY1.out | exact HZ1.out)).mono ?_
           rintro e wx ⟨rfl, hb⟩
           have hbn := hidP (step_below (w := w4) (Hid.out (by assumption)) hb)
           obtain ⟨d0, d1, d2⟩ := (HX.out.below hbn.out).cells
           clear hb))
      all_goals
        go_wp2_with fail
        refine (cmp_is (HR.out _ (step_below B4.out (Hid.out (by assumption)))) (Hb.out _ (step_below B4.out (Hid.out (by assumption)))) (Ha.out _ (step_below B4.out (Hid.out (by assumption)))) HW2.out).mono ?_
        rintro e wy ⟨rfl, hb⟩
        have BY := hidP (step_below (step_below B4.out (Hid.out (by assumption))) hb)
        have hbz := hidP (step_below (w := w4) (Hid.out (by assumption)) hb)
        obtain ⟨e0, e1, e2⟩ := (HX.out.below hbz.out).cells
        clear hb
        go_wp2_with fail
        refine (same_is (Ha.out _ BY.out) (Hb.out _ BY.out) HSm.out).mono ?_
        rintro e wz ⟨rfl, hb⟩
        have BZ := hidP (step_below BY.out hb)
        have hbq := hidP (step_below hbz.out hb)
        obtain ⟨q0, q1, q2⟩ := (HX.out.below hbq.out).cells
        have HRow := hidP (RowI.made wz x.length)
        have hal : Below wz.heap.size wz (wz.alloc (.cells (madeCells #[.int .i64 0] x.length) 3)) := (Below.refl _ _).alloc (Nat.le_refl _) _
        have BA := hidP (step_below BZ.out hal)
        obtain ⟨a0, a1, a2⟩ := ((HX.out.below hbq.out).below hal).cells
        clear hb hal
        go_wp2_with fail
        refine (cmp_is (HR.out _ BA.out) (made_sees HRow.out HN6.out) (Ha.out _ BA.out) HO.out).mono ?_
        rintro e wv ⟨rfl, hb⟩
        have BV := hidP (step_below BA.out hb)
        clear hb
        go_wp2
        go_ret
        exact ⟨ret_bool (by first | rfl | (simp; done) | (simp; omega)), BV.out⟩
  · have HW2 : Hid (cmpR ns o f z x = 0) := by show _ = _; rw [HSW.out] <;> rfl
    have HSm : Hid (decide (x = z) = true) := by
      show _ = _
      exact decide_eq_true (HZE.out.1 rfl)
    clear HSW HZE
    by_cases hy : Y ≤ 0
    · have hz : ¬ Z > 0 := by have := htr (by decide) hy; omega
      clear htr
      go_enter Try.func7, Try.ntmps7
      go_wp2_with fail
      try rw [← HG.out]
      refine (C0.out _).mono ?_
      rintro e w1 ⟨rfl, hb1⟩
      have B1 := hidP (step_below B0.out hb1)
      replace HX := hidP (HX.out.below hb1)
      try clear c0 c1 c2
      obtain ⟨c0, c1, c2⟩ := HX.out.cells
      clear hb1
      go_wp2_with fail
      refine (right_is (HR.out _ B1.out) (Ha.out _ B1.out) Rx.out).mono ?_
      rintro e w2 ⟨rfl, hb2⟩
      have B2 := hidP (step_below B1.out hb2)
      replace HX := hidP (HX.out.below hb2)
      try clear c0 c1 c2
      obtain ⟨c0, c1, c2⟩ := HX.out.cells
      clear hb2
      go_wp2_with fail
      refine (right_is (HR.out _ B2.out) (Hb.out _ B2.out) Rz.out).mono ?_
      rintro e w3 ⟨rfl, hb3⟩
      have B3 := hidP (step_below B2.out hb3)
      replace HX := hidP (HX.out.below hb3)
      try clear c0 c1 c2
      obtain ⟨c0, c1, c2⟩ := HX.out.cells
      clear hb3
      go_wp2_with fail
      refine (right_is (HR.out _ B3.out) (Hc.out _ B3.out) Ru.out).mono ?_
      rintro e w4 ⟨rfl, hb4⟩
      have B4 := hidP (step_below B3.out hb4)
      replace HX := hidP (HX.out.below hb4)
      try clear c0 c1 c2
      obtain ⟨c0, c1, c2⟩ := HX.out.cells
      clear hb4
      go_wp2
      have HD := hidP ((Below.refl w4.heap.size w4).drew)
      go_region_held3 (fun w' => w'.cell? ⟨g, 0, none⟩ = some (.slice N ns.length cn) ∧ w'.cell? ⟨g, 1, none⟩ = some (.int .i64 o) ∧ w'.cell? ⟨g, 2, none⟩ = some (.int .i64 f) ∧ Hid (Below w4.heap.size w4 w')) (exact ⟨by assumption, by assumption, by assumption, by assumption⟩) (first
        | (go_at_call 19
           refine (cmp_is (HR.out _ (step_below B4.out (Hid.out (by assumption)))) (by first | exact Ha.out _ (step_below B4.out (Hid.out (by assumption))) | exact Hb.out _ (step_below B4.out (Hid.out (by assumption)))) (by first | exact Hb.out _ (step_below B4.out (Hid.out (by assumption))) | exact Hc.out _ (step_below B4.out (Hid.out (by assumption)))) (by first | exact HX1.out | exact HY1.out | exact HZ1.out)).mono ?_
           rintro e wx ⟨rfl, hb⟩
           have hbn := hidP (step_below (w := w4) (Hid.out (by assumption)) hb)
           obtain ⟨d0, d1, d2⟩ := (HX.out.below hbn.out).cells
           clear hb))
      all_goals
        go_wp2_with fail
        refine (cmp_is (HR.out _ (step_below B4.out (Hid.out (by assumption)))) (Hb.out _ (step_below B4.out (Hid.out (by assumption)))) (Ha.out _ (step_below B4.out (Hid.out (by assumption)))) HW2.out).mono ?_
        rintro e wy ⟨rfl, hb⟩
        have BY := hidP (step_below (step_below B4.out (Hid.out (by assumption))) hb)
        have hbz := hidP (step_below (w := w4) (Hid.out (by assumption)) hb)
        obtain ⟨e0, e1, e2⟩ := (HX.out.below hbz.out).cells
        clear hb
        go_wp2_with fail
        refine (same_is (Ha.out _ BY.out) (Hb.out _ BY.out) HSm.out).mono ?_
        rintro e wz ⟨rfl, hb⟩
        have BZ := hidP (step_below BY.out hb)
        have hbq := hidP (step_below hbz.out hb)
        obtain ⟨q0, q1, q2⟩ := (HX.out.below hbq.out).cells
        have HRow := hidP (RowI.made wz x.length)
        have hal : Below wz.heap.size wz (wz.alloc (.cells (madeCells #[.int .i64 0] x.length) 3)) := (Below.refl _ _).alloc (Nat.le_refl _) _
        have BA := hidP (step_below BZ.out hal)
        obtain ⟨a0, a1, a2⟩ := ((HX.out.below hbq.out).below hal).cells
        clear hb hal
        go_wp2_with fail
        refine (cmp_is (HR.out _ BA.out) (made_sees HRow.out HN6.out) (Ha.out _ BA.out) HO.out).mono ?_
        rintro e wv ⟨rfl, hb⟩
        have BV := hidP (step_below BA.out hb)
        clear hb
        go_wp2
        go_ret
        exact ⟨ret_bool (by first | rfl | (simp; done) | (simp; omega)), BV.out⟩
    · clear htr
      go_enter Try.func7, Try.ntmps7
      go_wp2_with fail
      try rw [← HG.out]
      refine (C0.out _).mono ?_
      rintro e w1 ⟨rfl, hb1⟩
      have B1 := hidP (step_below B0.out hb1)
      replace HX := hidP (HX.out.below hb1)
      try clear c0 c1 c2
      obtain ⟨c0, c1, c2⟩ := HX.out.cells
      clear hb1
      go_wp2_with fail
      refine (right_is (HR.out _ B1.out) (Ha.out _ B1.out) Rx.out).mono ?_
      rintro e w2 ⟨rfl, hb2⟩
      have B2 := hidP (step_below B1.out hb2)
      replace HX := hidP (HX.out.below hb2)
      try clear c0 c1 c2
      obtain ⟨c0, c1, c2⟩ := HX.out.cells
      clear hb2
      go_wp2_with fail
      refine (right_is (HR.out _ B2.out) (Hb.out _ B2.out) Rz.out).mono ?_
      rintro e w3 ⟨rfl, hb3⟩
      have B3 := hidP (step_below B2.out hb3)
      replace HX := hidP (HX.out.below hb3)
      try clear c0 c1 c2
      obtain ⟨c0, c1, c2⟩ := HX.out.cells
      clear hb3
      go_wp2_with fail
      refine (right_is (HR.out _ B3.out) (Hc.out _ B3.out) Ru.out).mono ?_
      rintro e w4 ⟨rfl, hb4⟩
      have B4 := hidP (step_below B3.out hb4)
      replace HX := hidP (HX.out.below hb4)
      try clear c0 c1 c2
      obtain ⟨c0, c1, c2⟩ := HX.out.cells
      clear hb4
      go_wp2
      have HD := hidP ((Below.refl w4.heap.size w4).drew)
      go_region_held3 (fun w' => w'.cell? ⟨g, 0, none⟩ = some (.slice N ns.length cn) ∧ w'.cell? ⟨g, 1, none⟩ = some (.int .i64 o) ∧ w'.cell? ⟨g, 2, none⟩ = some (.int .i64 f) ∧ Hid (Below w4.heap.size w4 w')) (exact ⟨by assumption, by assumption, by assumption, by assumption⟩) (first
        | (go_at_call 19
           refine (cmp_is (HR.out _ (step_below B4.out (Hid.out (by assumption)))) (by first | exact Ha.out _ (step_below B4.out (Hid.out (by assumption))) | exact Hb.out _ (step_below B4.out (Hid.out (by assumption)))) (by first | exact Hb.out _ (step_below B4.out (Hid.out (by assumption))) | exact Hc.out _ (step_below B4.out (Hid.out (by assumption)))) (by first | exact HX1.out | exact HY1.out | exact HZ1.out)).mono ?_
           rintro e wx ⟨rfl, hb⟩
           have hbn := hidP (step_below (w := w4) (Hid.out (by assumption)) hb)
           obtain ⟨d0, d1, d2⟩ := (HX.out.below hbn.out).cells
           clear hb))
      all_goals
        go_wp2_with fail
        refine (cmp_is (HR.out _ (step_below B4.out (Hid.out (by assumption)))) (Hb.out _ (step_below B4.out (Hid.out (by assumption)))) (Ha.out _ (step_below B4.out (Hid.out (by assumption)))) HW2.out).mono ?_
        rintro e wy ⟨rfl, hb⟩
        have BY := hidP (step_below (step_below B4.out (Hid.out (by assumption))) hb)
        have hbz := hidP (step_below (w := w4) (Hid.out (by assumption)) hb)
        obtain ⟨e0, e1, e2⟩ := (HX.out.below hbz.out).cells
        clear hb
        go_wp2_with fail
        refine (same_is (Ha.out _ BY.out) (Hb.out _ BY.out) HSm.out).mono ?_
        rintro e wz ⟨rfl, hb⟩
        have BZ := hidP (step_below BY.out hb)
        have hbq := hidP (step_below hbz.out hb)
        obtain ⟨q0, q1, q2⟩ := (HX.out.below hbq.out).cells
        have HRow := hidP (RowI.made wz x.length)
        have hal : Below wz.heap.size wz (wz.alloc (.cells (madeCells #[.int .i64 0] x.length) 3)) := (Below.refl _ _).alloc (Nat.le_refl _) _
        have BA := hidP (step_below BZ.out hal)
        obtain ⟨a0, a1, a2⟩ := ((HX.out.below hbq.out).below hal).cells
        clear hb hal
        go_wp2_with fail
        refine (cmp_is (HR.out _ BA.out) (made_sees HRow.out HN6.out) (Ha.out _ BA.out) HO.out).mono ?_
        rintro e wv ⟨rfl, hb⟩
        have BV := hidP (step_below BA.out hb)
        clear hb
        go_wp2
        go_ret
        exact ⟨ret_bool (by first | rfl | (simp; done) | (simp; omega)), BV.out⟩
  · have HW2 : Hid (cmpR ns o f z x = -1) := by show _ = _; rw [HSW.out] <;> rfl
    have HSm : Hid (decide (x = z) = false) := by
      show _ = _
      exact decide_eq_false (fun h => absurd (HZE.out.2 h) (by decide))
    clear HSW HZE
    clear htr
    go_enter Try.func7, Try.ntmps7
    go_wp2_with fail
    try rw [← HG.out]
    refine (C0.out _).mono ?_
    rintro e w1 ⟨rfl, hb1⟩
    have B1 := hidP (step_below B0.out hb1)
    replace HX := hidP (HX.out.below hb1)
    try clear c0 c1 c2
    obtain ⟨c0, c1, c2⟩ := HX.out.cells
    clear hb1
    go_wp2_with fail
    refine (right_is (HR.out _ B1.out) (Ha.out _ B1.out) Rx.out).mono ?_
    rintro e w2 ⟨rfl, hb2⟩
    have B2 := hidP (step_below B1.out hb2)
    replace HX := hidP (HX.out.below hb2)
    try clear c0 c1 c2
    obtain ⟨c0, c1, c2⟩ := HX.out.cells
    clear hb2
    go_wp2_with fail
    refine (right_is (HR.out _ B2.out) (Hb.out _ B2.out) Rz.out).mono ?_
    rintro e w3 ⟨rfl, hb3⟩
    have B3 := hidP (step_below B2.out hb3)
    replace HX := hidP (HX.out.below hb3)
    try clear c0 c1 c2
    obtain ⟨c0, c1, c2⟩ := HX.out.cells
    clear hb3
    go_wp2_with fail
    refine (right_is (HR.out _ B3.out) (Hc.out _ B3.out) Ru.out).mono ?_
    rintro e w4 ⟨rfl, hb4⟩
    have B4 := hidP (step_below B3.out hb4)
    replace HX := hidP (HX.out.below hb4)
    try clear c0 c1 c2
    obtain ⟨c0, c1, c2⟩ := HX.out.cells
    clear hb4
    go_wp2
    have HD := hidP ((Below.refl w4.heap.size w4).drew)
    go_region_held3 (fun w' => w'.cell? ⟨g, 0, none⟩ = some (.slice N ns.length cn) ∧ w'.cell? ⟨g, 1, none⟩ = some (.int .i64 o) ∧ w'.cell? ⟨g, 2, none⟩ = some (.int .i64 f) ∧ Hid (Below w4.heap.size w4 w')) (exact ⟨by assumption, by assumption, by assumption, by assumption⟩) (first
      | (go_at_call 19
         refine (cmp_is (HR.out _ (step_below B4.out (Hid.out (by assumption)))) (by first | exact Ha.out _ (step_below B4.out (Hid.out (by assumption))) | exact Hb.out _ (step_below B4.out (Hid.out (by assumption)))) (by first | exact Hb.out _ (step_below B4.out (Hid.out (by assumption))) | exact Hc.out _ (step_below B4.out (Hid.out (by assumption)))) (by first | exact HX1.out | exact HY1.out | exact HZ1.out)).mono ?_
         rintro e wx ⟨rfl, hb⟩
         have hbn := hidP (step_below (w := w4) (Hid.out (by assumption)) hb)
         obtain ⟨d0, d1, d2⟩ := (HX.out.below hbn.out).cells
         clear hb))
    all_goals
      go_wp2_with fail
      refine (cmp_is (HR.out _ (step_below B4.out (Hid.out (by assumption)))) (Hb.out _ (step_below B4.out (Hid.out (by assumption)))) (Ha.out _ (step_below B4.out (Hid.out (by assumption)))) HW2.out).mono ?_
      rintro e wy ⟨rfl, hb⟩
      have BY := hidP (step_below (step_below B4.out (Hid.out (by assumption))) hb)
      have hbz := hidP (step_below (w := w4) (Hid.out (by assumption)) hb)
      obtain ⟨e0, e1, e2⟩ := (HX.out.below hbz.out).cells
      clear hb
      go_wp2_with fail
      refine (same_is (Ha.out _ BY.out) (Hb.out _ BY.out) HSm.out).mono ?_
      rintro e wz ⟨rfl, hb⟩
      have BZ := hidP (step_below BY.out hb)
      have hbq := hidP (step_below hbz.out hb)
      obtain ⟨q0, q1, q2⟩ := (HX.out.below hbq.out).cells
      have HRow := hidP (RowI.made wz x.length)
      have hal : Below wz.heap.size wz (wz.alloc (.cells (madeCells #[.int .i64 0] x.length) 3)) := (Below.refl _ _).alloc (Nat.le_refl _) _
      have BA := hidP (step_below BZ.out hal)
      obtain ⟨a0, a1, a2⟩ := ((HX.out.below hbq.out).below hal).cells
      clear hb hal
      go_wp2_with fail
      refine (cmp_is (HR.out _ BA.out) (made_sees HRow.out HN6.out) (Ha.out _ BA.out) HO.out).mono ?_
      rintro e wv ⟨rfl, hb⟩
      have BV := hidP (step_below BA.out hb)
      clear hb
      go_wp2
      go_ret
      exact ⟨ret_bool (by first | rfl | (simp; done) | (simp; omega)), BV.out⟩

/-! ### The row's step -/
set_option maxRecDepth 100000 in
theorem contract (H : Type) (enc : TypeId × Value → H) (W : World) (base : Nat) (args : Array Value) (ds gs : List (DataW H)) (before : List MemPlace)
    (hval0 : ∀ (j : Nat) t v, Try.f7.params[j]? = some t → args[j]? = some v → Value.okWide Try.prog W .any base t v)
    (hW : DataW.Whole enc Try.prog Try.f7.params.toList Rows.monoOrdersSpec.vars false W args.toList ds gs before)
    (hsz0 : (DataW.weightsEach Try.prog (Try.f7.params.toList ++ Rows.monoOrdersSpec.plain.varTypes Try.prog) (ds ++ gs)).all (· ≤ reachBytes) = true) :
    Calls Try.prog 7 args W fun e W' => ∃ v, e = .returned v ∧ Rows.monoOrdersSpec.post enc Try.prog Try.f7 false true false false W args v W' := by
  have hW' := hW
  obtain ⟨p, q, hA0, hV, rfl, hfz, hnd⟩ := hW
  have hA : DataW.TrodAll enc Try.prog W 0 (fun _ => true) true Try.f7.params.toList args.toList ds p := hA0
  have hval : ∀ (j : Nat) t v, Try.f7.params[j]? = some t → args[j]? = some v → Value.okWide Try.prog W .any base t v := hval0
  have hsz : (DataW.weightsEach Try.prog (Try.f7.params.toList ++ []) (ds ++ gs)).all (· ≤ reachBytes) = true := hsz0
  rw [Try.params7] at hA hval hsz
  obtain ⟨v0, vs0, d0, ds0, p0, q0, hargs, rfl, rfl, h0, r0⟩ := trodAll_cons hA
  obtain ⟨v1, vs1, d1, ds1, p1, q1, rfl, rfl, rfl, h1, r1⟩ := trodAll_cons r0
  obtain ⟨v2, vs2, d2, ds2, p2, q2, rfl, rfl, rfl, h2, r2⟩ := trodAll_cons r1
  obtain ⟨v3, vs3, d3, ds3, p3, q3, rfl, rfl, rfl, h3, r3⟩ := trodAll_cons r2
  obtain ⟨rfl, rfl, rfl⟩ := trodAll_nil r3
  obtain rfl : args = #[v0, v1, v2, v3] := by cases args; simp_all
  obtain ⟨rfl, rfl⟩ := trodVars_none hV
  obtain ⟨l0, o0, f0, s0⟩ := open_ring (hval 0 24 v0 rfl rfl) h0 (fun parts e => by subst e; exact sized_part hsz (j := 0) (t := 24) rfl rfl)
  obtain ⟨l1, s1⟩ := open_il (hval 1 25 v1 rfl rfl) h1 (fun elems spare e => by subst e; exact sized_slice hsz (j := 1) (t := 25) (e := 3) rfl rfl Try.underlying25)
  obtain ⟨l2, s2⟩ := open_il (hval 2 25 v2 rfl rfl) h2 (fun elems spare e => by subst e; exact sized_slice hsz (j := 2) (t := 25) (e := 3) rfl rfl Try.underlying25)
  obtain ⟨l3, s3⟩ := open_il (hval 3 25 v3 rfl rfl) h3 (fun elems spare e => by subst e; exact sized_slice hsz (j := 3) (t := 25) (e := 3) rfl rfl Try.underlying25)
  refine (walk s0 s1 s2 s3).mono fun e W' ⟨he, hb⟩ => ?_
  subst he
  exact ⟨_, rfl, _, _, _, _, _, _, hW', trodAll_cons_mk (shut_bool Try.underlying4 _) trodAll_mk0, trodAll_cons_mk (Below.trod laidOut (by kernel_rfl) (of_decide_eq_true (by kernel_rfl)) h0 hb (fun x hx => by first | cases hx; done | (have := hW'.lt x (by simp [hx]); simpa using this))) (trodAll_cons_mk (Below.trod laidOut (by kernel_rfl) (of_decide_eq_true (by kernel_rfl)) h1 hb (fun x hx => by first | cases hx; done | (have := hW'.lt x (by simp [hx]); simpa using this))) (trodAll_cons_mk (Below.trod laidOut (by kernel_rfl) (of_decide_eq_true (by kernel_rfl)) h2 hb (fun x hx => by first | cases hx; done | (have := hW'.lt x (by simp [hx]); simpa using this))) (trodAll_cons_mk (Below.trod laidOut (by kernel_rfl) (of_decide_eq_true (by kernel_rfl)) h3 hb (fun x hx => by first | cases hx; done | (have := hW'.lt x (by simp [hx]); simpa using this))) (trodAll_mk0)))), rfl, hb.frame _, fun h => by cases h⟩

set_option maxRecDepth 100000 in
theorem lifted (os : Os) (started : os.Started) (H : Type) (enc : TypeId × Value → H) :
    ReturnsInHanded {} Try.checked os 7 .any (Rows.monoOrdersSpec.pre6 enc Try.prog Try.f7 Rows.monoOrdersRow.domain false) (Rows.monoOrdersSpec.post enc Try.prog Try.f7 false true false false) := by
  refine returnsInHanded_of_change_shaped (C := Try.checked) own started (by kernel_rfl) Try.func7
    (ChangeSpec.witness6 (enc := enc) (C := Try.checked) false ⟨#[], #[.agg #[.slice none 0 0, .int .i64 0, .int .i64 0], .slice none 0 0, .slice none 0 0, .slice none 0 0], []⟩ 8 (by kernel_rfl) (by kernel_rfl) (by kernel_rfl) (by kernel_rfl)) ?_
  intro W base args ds gs before hval0 hW _ hsz _ _
  exact contract H enc W base args ds gs before hval0 hW hsz

theorem holds : Rows.MonoOrdersSaid :=
  OpenClaim.holds_of_wide 7 Try.f7 rfl rfl rfl rfl rfl rfl rfl ⟨rfl, rfl, rfl, rfl, rfl⟩ rfl rfl rfl rfl rfl (by kernel_rfl) Try.func7 (by kernel_rfl)
    (of_decide_eq_true (by kernel_rfl)) (by unfold Func.isWrapper; first | (rw [if_pos (by decide +kernel)]; kernel_rfl) | (rw [if_neg (by decide +kernel)]; exact ⟨rfl, rfl⟩))
    (fun os started H enc _ => lifted os started H enc)
end Go.Proofs.Ythlldjknmdndoaa.monoOrders
