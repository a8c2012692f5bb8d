/- For every ring and all its monomials a, b, c: where a*c and b*c are monomials, they compare as a and b do. Conditions: none. -/
import Derived.Test.YthlldjknmdndoaaMoX
import Derived.Deep.RegionHeld3
import Derived.Deep.RegionLaw
set_option linter.unusedVariables false
set_option linter.unusedSimpArgs false
namespace Go.Proofs.Ythlldjknmdndoaa.monoKeeps
open Go.ChangeShapes Go.WideShapes Go.ChangeAt Go.RowKit Go.Joins

set_option maxRecDepth 100000 in
set_option maxHeartbeats 4000000 in
theorem walk {v a b c : Value} {ns : List ByteArray} {o f : Int} {x z u : List Int} {w : World} (hr : SeesR w v ns o f) (ha : SeesI w a x) (hb : SeesI w b z) (hc : SeesI w c u) : Calls Try.prog 8 #[v, a, b, c] w fun e w' => e = .returned (.bool true) ∧ Below w.heap.size w w' := by
  obtain ⟨m, rfl, hm⟩ := hr
  have HR : Hid (∀ w1, Below w.heap.size w w1 → SeesR w1 (.agg #[m, .int .i64 o, .int .i64 f]) ns o f) := fun w1 h => ⟨m, rfl, hm.below h⟩
  have Ha : Hid (∀ w1, Below w.heap.size w w1 → SeesI w1 a x) := fun w1 h => SeesI.below ha h
  have hla := ha.len
  have Hb : Hid (∀ w1, Below w.heap.size w w1 → SeesI w1 b z) := fun w1 h => SeesI.below hb h
  have hlb := hb.len
  have Hc : Hid (∀ w1, Below w.heap.size w w1 → SeesI w1 c u) := fun w1 h => SeesI.below hc h
  have hlc := hc.len
  have hln := hm.len
  have B0 := hidP (boxR_below (w := w) m (.int .i64 o) (.int .i64 f))
  have HX := hidP (Box3.new w m (.int .i64 o) (.int .i64 f) 24)
  have C0 := hidP awake6
  obtain ⟨g, hg⟩ : ∃ g, g = w.heap.size := ⟨_, rfl⟩
  rw [← hg] at HX
  have HG := hidP hg
  clear hg
  obtain ⟨N, cn, rfl, hcn⟩ := SeesF.form hm
  obtain ⟨ap, ac, rfl, hac⟩ := SeesF.form ha
  obtain ⟨bp, bc, rfl, hbc⟩ := SeesF.form hb
  obtain ⟨cp, cc, rfl, hcc⟩ := SeesF.form hc
  clear hm ha hb hc
  by_cases h20 : (ns.length : Int) > 20
  · go_enter Try.func8, Try.ntmps8
    go_wp2_with fail
    try rw [← HG.out]
    refine (C0.out _).mono ?_
    rintro e w1 ⟨rfl, hb1⟩
    have B1 := hidP (step_below B0.out hb1)
    replace HX := hidP (HX.out.below hb1)
    try clear c0 c1 c2
    obtain ⟨c0, c1, c2⟩ := HX.out.cells
    clear hb1
    go_wp2
    go_ret
    exact ⟨rfl, B1.out⟩
  by_cases qx : rightB ns o f x = false
  · have Rx := hidP qx
    clear  qx
    go_enter Try.func8, Try.ntmps8
    go_wp2_with fail
    try rw [← HG.out]
    refine (C0.out _).mono ?_
    rintro e w1 ⟨rfl, hb1⟩
    have B1 := hidP (step_below B0.out hb1)
    replace HX := hidP (HX.out.below hb1)
    try clear c0 c1 c2
    obtain ⟨c0, c1, c2⟩ := HX.out.cells
    clear hb1
    go_wp2_with fail
    refine (right_is (HR.out _ B1.out) (Ha.out _ B1.out) Rx.out).mono ?_
    rintro e w2 ⟨rfl, hb2⟩
    have B2 := hidP (step_below B1.out hb2)
    replace HX := hidP (HX.out.below hb2)
    try clear c0 c1 c2
    obtain ⟨c0, c1, c2⟩ := HX.out.cells
    clear hb2
    go_wp2
    go_ret
    exact ⟨rfl, B2.out⟩
  have rx : rightB ns o f x = true := by simpa using qx
  clear qx
  by_cases qz : rightB ns o f z = false
  · have Rz := hidP qz
    have Rx := hidP rx
    clear rx qz
    go_enter Try.func8, Try.ntmps8
    go_wp2_with fail
    try rw [← HG.out]
    refine (C0.out _).mono ?_
    rintro e w1 ⟨rfl, hb1⟩
    have B1 := hidP (step_below B0.out hb1)
    replace HX := hidP (HX.out.below hb1)
    try clear c0 c1 c2
    obtain ⟨c0, c1, c2⟩ := HX.out.cells
    clear hb1
    go_wp2_with fail
    refine (right_is (HR.out _ B1.out) (Ha.out _ B1.out) Rx.out).mono ?_
    rintro e w2 ⟨rfl, hb2⟩
    have B2 := hidP (step_below B1.out hb2)
    replace HX := hidP (HX.out.below hb2)
    try clear c0 c1 c2
    obtain ⟨c0, c1, c2⟩ := HX.out.cells
    clear hb2
    go_wp2_with fail
    refine (right_is (HR.out _ B2.out) (Hb.out _ B2.out) Rz.out).mono ?_
    rintro e w3 ⟨rfl, hb3⟩
    have B3 := hidP (step_below B2.out hb3)
    replace HX := hidP (HX.out.below hb3)
    try clear c0 c1 c2
    obtain ⟨c0, c1, c2⟩ := HX.out.cells
    clear hb3
    go_wp2
    go_ret
    exact ⟨rfl, B3.out⟩
  have rz : rightB ns o f z = true := by simpa using qz
  clear qz
  by_cases qu : rightB ns o f u = false
  · have Ru := hidP qu
    have Rx := hidP rx
    have Rz := hidP rz
    clear rx rz qu
    go_enter Try.func8, Try.ntmps8
    go_wp2_with fail
    try rw [← HG.out]
    refine (C0.out _).mono ?_
    rintro e w1 ⟨rfl, hb1⟩
    have B1 := hidP (step_below B0.out hb1)
    replace HX := hidP (HX.out.below hb1)
    try clear c0 c1 c2
    obtain ⟨c0, c1, c2⟩ := HX.out.cells
    clear hb1
    go_wp2_with fail
    refine (right_is (HR.out _ B1.out) (Ha.out _ B1.out) Rx.out).mono ?_
    rintro e w2 ⟨rfl, hb2⟩
    have B2 := hidP (step_below B1.out hb2)
    replace HX := hidP (HX.out.below hb2)
    try clear c0 c1 c2
    obtain ⟨c0, c1, c2⟩ := HX.out.cells
    clear hb2
    go_wp2_with fail
    refine (right_is (HR.out _ B2.out) (Hb.out _ B2.out) Rz.out).mono ?_
    rintro e w3 ⟨rfl, hb3⟩
    have B3 := hidP (step_below B2.out hb3)
    replace HX := hidP (HX.out.below hb3)
    try clear c0 c1 c2
    obtain ⟨c0, c1, c2⟩ := HX.out.cells
    clear hb3
    go_wp2_with fail
    refine (right_is (HR.out _ B3.out) (Hc.out _ B3.out) Ru.out).mono ?_
    rintro e w4 ⟨rfl, hb4⟩
    have B4 := hidP (step_below B3.out hb4)
    replace HX := hidP (HX.out.below hb4)
    try clear c0 c1 c2
    obtain ⟨c0, c1, c2⟩ := HX.out.cells
    clear hb4
    go_wp2
    go_ret
    exact ⟨rfl, B4.out⟩
  have ru : rightB ns o f u = true := by simpa using qu
  clear qu
  have hxn : x.length ≤ 4096 := by have := (rightB_iff.1 rx).1; omega
  have hzn : z.length ≤ 4096 := by have := (rightB_iff.1 rz).1; omega
  have Rx := hidP rx; have Rz := hidP rz; have Ru := hidP ru
  cases m1 : opB gMul x u with
  | false =>
    have M1 := hidP m1
    cases m2 : opB gMul z u with
    | false =>
      have M2 := hidP m2
      clear m1 m2 rx rz ru
      go_enter Try.func8, Try.ntmps8
      go_wp2_with fail
      try rw [← HG.out]
      refine (C0.out _).mono ?_
      rintro e w1 ⟨rfl, hb1⟩
      have B1 := hidP (step_below B0.out hb1)
      replace HX := hidP (HX.out.below hb1)
      try clear c0 c1 c2
      obtain ⟨c0, c1, c2⟩ := HX.out.cells
      clear hb1
      go_wp2_with fail
      refine (right_is (HR.out _ B1.out) (Ha.out _ B1.out) Rx.out).mono ?_
      rintro e w2 ⟨rfl, hb2⟩
      have B2 := hidP (step_below B1.out hb2)
      replace HX := hidP (HX.out.below hb2)
      try clear c0 c1 c2
      obtain ⟨c0, c1, c2⟩ := HX.out.cells
      clear hb2
      go_wp2_with fail
      refine (right_is (HR.out _ B2.out) (Hb.out _ B2.out) Rz.out).mono ?_
      rintro e w3 ⟨rfl, hb3⟩
      have B3 := hidP (step_below B2.out hb3)
      replace HX := hidP (HX.out.below hb3)
      try clear c0 c1 c2
      obtain ⟨c0, c1, c2⟩ := HX.out.cells
      clear hb3
      go_wp2_with fail
      refine (right_is (HR.out _ B3.out) (Hc.out _ B3.out) Ru.out).mono ?_
      rintro e w4 ⟨rfl, hb4⟩
      have B4 := hidP (step_below B3.out hb4)
      replace HX := hidP (HX.out.below hb4)
      try clear c0 c1 c2
      obtain ⟨c0, c1, c2⟩ := HX.out.cells
      clear hb4
      go_wp2_with fail
      refine (tells_false (mono_Mul (Ha.out _ B4.out) (Hc.out _ B4.out) hxn) M1.out).mono ?_
      rintro e w5 ⟨ao, cap, rfl, hb5⟩
      have B5 := hidP (step_below B4.out hb5)
      replace HX := hidP (HX.out.below hb5)
      try clear c0 c1 c2
      obtain ⟨c0, c1, c2⟩ := HX.out.cells
      clear hb5
      go_wp2_with fail
      refine (tells_false (mono_Mul (Hb.out _ B5.out) (Hc.out _ B5.out) hzn) M2.out).mono ?_
      rintro e w6 ⟨ao2, cap2, rfl, hb6⟩
      have B6 := hidP (step_below B5.out hb6)
      replace HX := hidP (HX.out.below hb6)
      try clear c0 c1 c2
      obtain ⟨c0, c1, c2⟩ := HX.out.cells
      clear hb6
      go_wp2
      go_ret
      exact ⟨rfl, B6.out⟩
    | true =>
      have M2 := hidP m2
      have E2 := hidP (opL_some m2)
      clear m1 m2 rx rz ru
      go_enter Try.func8, Try.ntmps8
      go_wp2_with fail
      try rw [← HG.out]
      refine (C0.out _).mono ?_
      rintro e w1 ⟨rfl, hb1⟩
      have B1 := hidP (step_below B0.out hb1)
      replace HX := hidP (HX.out.below hb1)
      try clear c0 c1 c2
      obtain ⟨c0, c1, c2⟩ := HX.out.cells
      clear hb1
      go_wp2_with fail
      refine (right_is (HR.out _ B1.out) (Ha.out _ B1.out) Rx.out).mono ?_
      rintro e w2 ⟨rfl, hb2⟩
      have B2 := hidP (step_below B1.out hb2)
      replace HX := hidP (HX.out.below hb2)
      try clear c0 c1 c2
      obtain ⟨c0, c1, c2⟩ := HX.out.cells
      clear hb2
      go_wp2_with fail
      refine (right_is (HR.out _ B2.out) (Hb.out _ B2.out) Rz.out).mono ?_
      rintro e w3 ⟨rfl, hb3⟩
      have B3 := hidP (step_below B2.out hb3)
      replace HX := hidP (HX.out.below hb3)
      try clear c0 c1 c2
      obtain ⟨c0, c1, c2⟩ := HX.out.cells
      clear hb3
      go_wp2_with fail
      refine (right_is (HR.out _ B3.out) (Hc.out _ B3.out) Ru.out).mono ?_
      rintro e w4 ⟨rfl, hb4⟩
      have B4 := hidP (step_below B3.out hb4)
      replace HX := hidP (HX.out.below hb4)
      try clear c0 c1 c2
      obtain ⟨c0, c1, c2⟩ := HX.out.cells
      clear hb4
      go_wp2_with fail
      refine (tells_false (mono_Mul (Ha.out _ B4.out) (Hc.out _ B4.out) hxn) M1.out).mono ?_
      rintro e w5 ⟨ao, cap, rfl, hb5⟩
      have B5 := hidP (step_below B4.out hb5)
      replace HX := hidP (HX.out.below hb5)
      try clear c0 c1 c2
      obtain ⟨c0, c1, c2⟩ := HX.out.cells
      clear hb5
      go_wp2_with fail
      refine (tells_true (mono_Mul (Hb.out _ B5.out) (Hc.out _ B5.out) hzn) M2.out E2.out).mono ?_
      rintro e w6 ⟨q, rfl, hq, hb6⟩
      have B6 := hidP (step_below B5.out hb6)
      replace HX := hidP (HX.out.below hb6)
      try clear c0 c1 c2
      obtain ⟨c0, c1, c2⟩ := HX.out.cells
      clear hb6
      have Q := hidP hq
      clear hq
      go_wp2
      go_ret
      exact ⟨rfl, B6.out⟩
  | true =>
    have M1 := hidP m1
    have E1 := hidP (opL_some m1)
    cases m2 : opB gMul z u with
    | false =>
      have M2 := hidP m2
      clear m1 m2 rx rz ru
      go_enter Try.func8, Try.ntmps8
      go_wp2_with fail
      try rw [← HG.out]
      refine (C0.out _).mono ?_
      rintro e w1 ⟨rfl, hb1⟩
      have B1 := hidP (step_below B0.out hb1)
      replace HX := hidP (HX.out.below hb1)
      try clear c0 c1 c2
      obtain ⟨c0, c1, c2⟩ := HX.out.cells
      clear hb1
      go_wp2_with fail
      refine (right_is (HR.out _ B1.out) (Ha.out _ B1.out) Rx.out).mono ?_
      rintro e w2 ⟨rfl, hb2⟩
      have B2 := hidP (step_below B1.out hb2)
      replace HX := hidP (HX.out.below hb2)
      try clear c0 c1 c2
      obtain ⟨c0, c1, c2⟩ := HX.out.cells
      clear hb2
      go_wp2_with fail
      refine (right_is (HR.out _ B2.out) (Hb.out _ B2.out) Rz.out).mono ?_
      rintro e w3 ⟨rfl, hb3⟩
      have B3 := hidP (step_below B2.out hb3)
      replace HX := hidP (HX.out.below hb3)
      try clear c0 c1 c2
      obtain ⟨c0, c1, c2⟩ := HX.out.cells
      clear hb3
      go_wp2_with fail
      refine (right_is (HR.out _ B3.out) (Hc.out _ B3.out) Ru.out).mono ?_
      rintro e w4 ⟨rfl, hb4⟩
      have B4 := hidP (step_below B3.out hb4)
      replace HX := hidP (HX.out.below hb4)
      try clear c0 c1 c2
      obtain ⟨c0, c1, c2⟩ := HX.out.cells
      clear hb4
      go_wp2_with fail
      refine (tells_true (mono_Mul (Ha.out _ B4.out) (Hc.out _ B4.out) hxn) M1.out E1.out).mono ?_
      rintro e w5 ⟨p, rfl, hp, hb5⟩
      have B5 := hidP (step_below B4.out hb5)
      replace HX := hidP (HX.out.below hb5)
      try clear c0 c1 c2
      obtain ⟨c0, c1, c2⟩ := HX.out.cells
      clear hb5
      have P := hidP hp
      clear hp
      go_wp2_with fail
      refine (tells_false (mono_Mul (Hb.out _ B5.out) (Hc.out _ B5.out) hzn) M2.out).mono ?_
      rintro e w6 ⟨ao2, cap2, rfl, hb6⟩
      have B6 := hidP (step_below B5.out hb6)
      replace P := hidP (P.out.below hb6)
      replace HX := hidP (HX.out.below hb6)
      try clear c0 c1 c2
      obtain ⟨c0, c1, c2⟩ := HX.out.cells
      clear hb6
      go_wp2
      go_ret
      exact ⟨rfl, B6.out⟩
    | true =>
      have M2 := hidP m2
      have e1 := opL_some m1
      have e2 := opL_some m2
      have hK := cmpR_mul rx rz ru m1 m2
      obtain ⟨r, hr⟩ : ∃ r, cmpR ns o f x z = r := ⟨_, rfl⟩
      obtain ⟨sx, hsx⟩ : ∃ s, List.zipWith gMul x u = s := ⟨_, rfl⟩
      obtain ⟨sz, hsz⟩ : ∃ s, List.zipWith gMul z u = s := ⟨_, rfl⟩
      rw [hr, hsx, hsz] at hK
      rw [hsx] at e1
      rw [hsz] at e2
      clear E1
      have E1 := hidP e1; have E2 := hidP e2
      have HK := hidP hK; have HRr := hidP hr
      clear m1 m2 rx rz ru hK hr hsx hsz e1 e2
      go_enter Try.func8, Try.ntmps8
      go_wp2_with fail
      try rw [← HG.out]
      refine (C0.out _).mono ?_
      rintro e w1 ⟨rfl, hb1⟩
      have B1 := hidP (step_below B0.out hb1)
      replace HX := hidP (HX.out.below hb1)
      try clear c0 c1 c2
      obtain ⟨c0, c1, c2⟩ := HX.out.cells
      clear hb1
      go_wp2_with fail
      refine (right_is (HR.out _ B1.out) (Ha.out _ B1.out) Rx.out).mono ?_
      rintro e w2 ⟨rfl, hb2⟩
      have B2 := hidP (step_below B1.out hb2)
      replace HX := hidP (HX.out.below hb2)
      try clear c0 c1 c2
      obtain ⟨c0, c1, c2⟩ := HX.out.cells
      clear hb2
      go_wp2_with fail
      refine (right_is (HR.out _ B2.out) (Hb.out _ B2.out) Rz.out).mono ?_
      rintro e w3 ⟨rfl, hb3⟩
      have B3 := hidP (step_below B2.out hb3)
      replace HX := hidP (HX.out.below hb3)
      try clear c0 c1 c2
      obtain ⟨c0, c1, c2⟩ := HX.out.cells
      clear hb3
      go_wp2_with fail
      refine (right_is (HR.out _ B3.out) (Hc.out _ B3.out) Ru.out).mono ?_
      rintro e w4 ⟨rfl, hb4⟩
      have B4 := hidP (step_below B3.out hb4)
      replace HX := hidP (HX.out.below hb4)
      try clear c0 c1 c2
      obtain ⟨c0, c1, c2⟩ := HX.out.cells
      clear hb4
      go_wp2_with fail
      refine (tells_true (mono_Mul (Ha.out _ B4.out) (Hc.out _ B4.out) hxn) M1.out E1.out).mono ?_
      rintro e w5 ⟨p, rfl, hp, hb5⟩
      have B5 := hidP (step_below B4.out hb5)
      replace HX := hidP (HX.out.below hb5)
      try clear c0 c1 c2
      obtain ⟨c0, c1, c2⟩ := HX.out.cells
      clear hb5
      have P := hidP hp
      clear hp
      go_wp2_with fail
      refine (tells_true (mono_Mul (Hb.out _ B5.out) (Hc.out _ B5.out) hzn) M2.out E2.out).mono ?_
      rintro e w6 ⟨q, rfl, hq, hb6⟩
      have B6 := hidP (step_below B5.out hb6)
      replace P := hidP (P.out.below hb6)
      replace HX := hidP (HX.out.below hb6)
      try clear c0 c1 c2
      obtain ⟨c0, c1, c2⟩ := HX.out.cells
      clear hb6
      have Q := hidP hq
      clear hq
      go_wp2
      obtain ⟨pa, pc, rfl, hpc⟩ := SeesF.form P.out
      obtain ⟨qa, qc, rfl, hqc⟩ := SeesF.form Q.out
      have HD := hidP ((Below.refl w6.heap.size w6).drew)
      go_region_held3 (fun w' => w'.cell? ⟨g, 0, none⟩ = some (.slice N ns.length cn) ∧ w'.cell? ⟨g, 1, none⟩ = some (.int .i64 o) ∧ w'.cell? ⟨g, 2, none⟩ = some (.int .i64 f) ∧ Hid (Below w6.heap.size w6 w')) (exact ⟨by assumption, by assumption, by assumption, by assumption⟩) (first
        | (go_at_call 19
           refine (cmp_is (r := r) (HR.out _ (step_below B6.out (Hid.out (by assumption)))) (by first | exact P.out.below (Hid.out (by assumption)) | exact Ha.out _ (step_below B6.out (Hid.out (by assumption)))) (by first | exact Q.out.below (Hid.out (by assumption)) | exact Hb.out _ (step_below B6.out (Hid.out (by assumption)))) (by first | exact HK.out | exact HRr.out)).mono ?_
           rintro e wx ⟨rfl, hb⟩
           have hbn := hidP (step_below (w := w6) (Hid.out (by assumption)) hb)
           obtain ⟨d0, d1, d2⟩ := (HX.out.below hbn.out).cells
           clear hb))
      all_goals
        go_wp2
        go_ret
        exact ⟨rfl, step_below B6.out (Hid.out (by assumption))⟩

/-! ### The row's step -/
set_option maxRecDepth 100000 in
theorem contract (H : Type) (enc : TypeId × Value → H) (W : World) (base : Nat) (args : Array Value) (ds gs : List (DataW H)) (before : List MemPlace)
    (hval0 : ∀ (j : Nat) t v, Try.f8.params[j]? = some t → args[j]? = some v → Value.okWide Try.prog W .any base t v)
    (hW : DataW.Whole enc Try.prog Try.f8.params.toList Rows.monoKeepsSpec.vars false W args.toList ds gs before)
    (hsz0 : (DataW.weightsEach Try.prog (Try.f8.params.toList ++ Rows.monoKeepsSpec.plain.varTypes Try.prog) (ds ++ gs)).all (· ≤ reachBytes) = true) :
    Calls Try.prog 8 args W fun e W' => ∃ v, e = .returned v ∧ Rows.monoKeepsSpec.post enc Try.prog Try.f8 false true false false W args v W' := by
  have hW' := hW
  obtain ⟨p, q, hA0, hV, rfl, hfz, hnd⟩ := hW
  have hA : DataW.TrodAll enc Try.prog W 0 (fun _ => true) true Try.f8.params.toList args.toList ds p := hA0
  have hval : ∀ (j : Nat) t v, Try.f8.params[j]? = some t → args[j]? = some v → Value.okWide Try.prog W .any base t v := hval0
  have hsz : (DataW.weightsEach Try.prog (Try.f8.params.toList ++ []) (ds ++ gs)).all (· ≤ reachBytes) = true := hsz0
  rw [Try.params8] at hA hval hsz
  obtain ⟨v0, vs0, d0, ds0, p0, q0, hargs, rfl, rfl, h0, r0⟩ := trodAll_cons hA
  obtain ⟨v1, vs1, d1, ds1, p1, q1, rfl, rfl, rfl, h1, r1⟩ := trodAll_cons r0
  obtain ⟨v2, vs2, d2, ds2, p2, q2, rfl, rfl, rfl, h2, r2⟩ := trodAll_cons r1
  obtain ⟨v3, vs3, d3, ds3, p3, q3, rfl, rfl, rfl, h3, r3⟩ := trodAll_cons r2
  obtain ⟨rfl, rfl, rfl⟩ := trodAll_nil r3
  obtain rfl : args = #[v0, v1, v2, v3] := by cases args; simp_all
  obtain ⟨rfl, rfl⟩ := trodVars_none hV
  obtain ⟨l0, o0, f0, s0⟩ := open_ring (hval 0 24 v0 rfl rfl) h0 (fun parts e => by subst e; exact sized_part hsz (j := 0) (t := 24) rfl rfl)
  obtain ⟨l1, s1⟩ := open_il (hval 1 25 v1 rfl rfl) h1 (fun elems spare e => by subst e; exact sized_slice hsz (j := 1) (t := 25) (e := 3) rfl rfl Try.underlying25)
  obtain ⟨l2, s2⟩ := open_il (hval 2 25 v2 rfl rfl) h2 (fun elems spare e => by subst e; exact sized_slice hsz (j := 2) (t := 25) (e := 3) rfl rfl Try.underlying25)
  obtain ⟨l3, s3⟩ := open_il (hval 3 25 v3 rfl rfl) h3 (fun elems spare e => by subst e; exact sized_slice hsz (j := 3) (t := 25) (e := 3) rfl rfl Try.underlying25)
  refine (walk s0 s1 s2 s3).mono fun e W' ⟨he, hb⟩ => ?_
  subst he
  exact ⟨_, rfl, _, _, _, _, _, _, hW', trodAll_cons_mk (shut_bool Try.underlying4 _) trodAll_mk0, trodAll_cons_mk (Below.trod laidOut (by kernel_rfl) (of_decide_eq_true (by kernel_rfl)) h0 hb (fun x hx => by first | cases hx; done | (have := hW'.lt x (by simp [hx]); simpa using this))) (trodAll_cons_mk (Below.trod laidOut (by kernel_rfl) (of_decide_eq_true (by kernel_rfl)) h1 hb (fun x hx => by first | cases hx; done | (have := hW'.lt x (by simp [hx]); simpa using this))) (trodAll_cons_mk (Below.trod laidOut (by kernel_rfl) (of_decide_eq_true (by kernel_rfl)) h2 hb (fun x hx => by first | cases hx; done | (have := hW'.lt x (by simp [hx]); simpa using this))) (trodAll_cons_mk (Below.trod laidOut (by kernel_rfl) (of_decide_eq_true (by kernel_rfl)) h3 hb (fun x hx => by first | cases hx; done | (have := hW'.lt x (by simp [hx]); simpa using this))) (trodAll_mk0)))), rfl, hb.frame _, fun h => by cases h⟩

set_option maxRecDepth 100000 in
theorem lifted (os : Os) (started : os.Started) (H : Type) (enc : TypeId × Value → H) :
    ReturnsInHanded {} Try.checked os 8 .any (Rows.monoKeepsSpec.pre6 enc Try.prog Try.f8 Rows.monoKeepsRow.domain false) (Rows.monoKeepsSpec.post enc Try.prog Try.f8 false true false false) := by
  refine returnsInHanded_of_change_shaped (C := Try.checked) own started (by kernel_rfl) Try.func8
    (ChangeSpec.witness6 (enc := enc) (C := Try.checked) false ⟨#[], #[.agg #[.slice none 0 0, .int .i64 0, .int .i64 0], .slice none 0 0, .slice none 0 0, .slice none 0 0], []⟩ 8 (by kernel_rfl) (by kernel_rfl) (by kernel_rfl) (by kernel_rfl)) ?_
  intro W base args ds gs before hval0 hW _ hsz _ _
  exact contract H enc W base args ds gs before hval0 hW hsz

theorem holds : Rows.MonoKeepsSaid :=
  OpenClaim.holds_of_wide 8 Try.f8 rfl rfl rfl rfl rfl rfl rfl ⟨rfl, rfl, rfl, rfl, rfl⟩ rfl rfl rfl rfl rfl (by kernel_rfl) Try.func8 (by kernel_rfl)
    (of_decide_eq_true (by kernel_rfl)) (by unfold Func.isWrapper; first | (rw [if_pos (by decide +kernel)]; kernel_rfl) | (rw [if_neg (by decide +kernel)]; exact ⟨rfl, rfl⟩))
    (fun os started H enc _ => lifted os started H enc)
end Go.Proofs.Ythlldjknmdndoaa.monoKeeps
