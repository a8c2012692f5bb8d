/- For every ring of at most 20 names and every list of at most 1000 ints: mono.Check, mono.Right and mono.Degree answer what the document's do; for greater ones awake alone. Conditions: none. -/
import Derived.Test.YthlldjknmdndoaaMoX
import Derived.Deep.RegionHeld3
import Derived.Deep.RegionLaw
set_option linter.unusedVariables false
set_option linter.unusedSimpArgs false
namespace Go.Proofs.Ythlldjknmdndoaa.monoChecks
open Go.ChangeShapes Go.WideShapes Go.ChangeAt Go.RowKit Go.Joins

set_option maxRecDepth 100000 in
set_option maxHeartbeats 4000000 in
theorem walk {v a : Value} {ns : List ByteArray} {o f : Int} {x : List Int} {w : World} (hr : SeesR w v ns o f) (ha : SeesI w a x) : Calls Try.prog 3 #[v, a] w fun e w' => e = .returned (.bool true) ∧ Below w.heap.size w w' := by
  obtain ⟨m, rfl, hm⟩ := hr
  have HR : Hid (∀ w1, Below w.heap.size w w1 → SeesR w1 (.agg #[m, .int .i64 o, .int .i64 f]) ns o f) := fun w1 h => ⟨m, rfl, hm.below h⟩
  have Ha : Hid (∀ w1, Below w.heap.size w w1 → SeesI w1 a x) := fun w1 h => SeesI.below ha h
  have hla := ha.len
  have hln := hm.len
  have B0 := hidP (boxR_below (w := w) m (.int .i64 o) (.int .i64 f))
  have HX := hidP (Box3.new w m (.int .i64 o) (.int .i64 f) 24)
  have C0 := hidP awake6
  obtain ⟨g, hg⟩ : ∃ g, g = w.heap.size := ⟨_, rfl⟩
  rw [← hg] at HX
  have HG := hidP hg
  clear hg
  obtain ⟨N, cn, rfl, hcn⟩ := SeesF.form hm
  obtain ⟨ap, ac, rfl, hac⟩ := SeesF.form ha
  clear hm ha
  by_cases h20 : (ns.length : Int) > 20
  · go_enter Try.func3, Try.ntmps3
    go_wp2_with fail
    try rw [← HG.out]
    refine (C0.out _).mono ?_
    rintro e w1 ⟨rfl, hb1⟩
    have B1 := hidP (step_below B0.out hb1)
    replace HX := hidP (HX.out.below hb1)
    try clear c0 c1 c2
    obtain ⟨c0, c1, c2⟩ := HX.out.cells
    clear hb1
    go_wp2
    go_ret
    exact ⟨rfl, B1.out⟩
  by_cases h1000 : (x.length : Int) > 1000
  · go_enter Try.func3, Try.ntmps3
    go_wp2_with fail
    try rw [← HG.out]
    refine (C0.out _).mono ?_
    rintro e w1 ⟨rfl, hb1⟩
    have B1 := hidP (step_below B0.out hb1)
    replace HX := hidP (HX.out.below hb1)
    try clear c0 c1 c2
    obtain ⟨c0, c1, c2⟩ := HX.out.cells
    clear hb1
    go_wp2
    go_ret
    exact ⟨rfl, B1.out⟩
  · skip
    obtain ⟨c, hc⟩ : ∃ c, checkN ns o f = c := ⟨_, rfl⟩
    obtain ⟨r, hr⟩ : ∃ r, rightB ns o f x = r := ⟨_, rfl⟩
    obtain ⟨d, hd⟩ : ∃ d, degL x = d := ⟨_, rfl⟩
    have K1 : Hid (∀ w1, Below w.heap.size w w1 → Calls Try.prog 13 #[.agg #[.slice N ns.length cn, .int .i64 o, .int .i64 f]] w1 fun e w' => e = .returned (.int .i64 c) ∧ Below w1.heap.size w1 w') := fun w1 h => by have := mono_Check (HR.out w1 h); rwa [hc] at this
    have K2 : Hid (∀ w1, Below w.heap.size w w1 → Calls Try.prog 14 #[.agg #[.slice N ns.length cn, .int .i64 o, .int .i64 f]] w1 fun e w' => e = .returned (.int .i64 c) ∧ Below w1.heap.size w1 w') := fun w1 h => by have := ref_Check (HR.out w1 h); rwa [hc] at this
    have K3 : Hid (∀ w1, Below w.heap.size w w1 → Calls Try.prog 15 #[.agg #[.slice N ns.length cn, .int .i64 o, .int .i64 f], .slice ap x.length ac] w1 fun e w' => e = .returned (.bool r) ∧ Below w1.heap.size w1 w') := fun w1 h => by have := mono_Right (HR.out w1 h) (Ha.out w1 h); rwa [hr] at this
    have K4 : Hid (∀ w1, Below w.heap.size w w1 → Calls Try.prog 16 #[.agg #[.slice N ns.length cn, .int .i64 o, .int .i64 f], .slice ap x.length ac] w1 fun e w' => e = .returned (.bool r) ∧ Below w1.heap.size w1 w') := fun w1 h => by have := ref_Right (HR.out w1 h) (Ha.out w1 h); rwa [hr] at this
    have K5 : Hid (∀ w1, Below w.heap.size w w1 → Calls Try.prog 17 #[.slice ap x.length ac] w1 fun e w' => e = .returned (.int .i64 d) ∧ Below w1.heap.size w1 w') := fun w1 h => degree_below (Ha.out w1 h) hd
    have K6 : Hid (∀ w1, Below w.heap.size w w1 → Calls Try.prog 18 #[.slice ap x.length ac] w1 fun e w' => e = .returned (.int .i64 d) ∧ Below w1.heap.size w1 w') := fun w1 h => degree_below_ref (Ha.out w1 h) hd
    clear hc hr hd
    go_enter Try.func3, Try.ntmps3
    go_wp2
    try rw [← HG.out]
    obtain ⟨y, hy⟩ : ∃ x, x = w.alloc (.cells #[.slice N ns.length cn, .int .i64 o, .int .i64 f] 24) := ⟨_, rfl⟩
    rw [← hy] at B0 HX
    rw [← hy]
    obtain ⟨c0, c1, c2⟩ := HX.out.cells
    have HD := hidP ((Below.refl y.heap.size y).drew)
    clear hy HG
    go_region_held3 (fun w' => w'.cell? ⟨g, 0, none⟩ = some (.slice N ns.length cn) ∧ w'.cell? ⟨g, 1, none⟩ = some (.int .i64 o) ∧ w'.cell? ⟨g, 2, none⟩ = some (.int .i64 f) ∧ Hid (Below y.heap.size y w')) (exact ⟨by assumption, by assumption, by assumption, by assumption⟩) (first
      | (go_at_call 12
         refine (C0.out _).mono ?_
         rintro e wx ⟨rfl, hb⟩
         have hbn := hidP (step_below (w := y) (Hid.out (by assumption)) hb)
         obtain ⟨d0, d1, d2⟩ := (HX.out.below hbn.out).cells
         clear hb)
      | (go_at_call 13
         refine (K1.out _ (step_below B0.out (Hid.out (by assumption)))).mono ?_
         rintro e wx ⟨rfl, hb⟩
         have hbn := hidP (step_below (w := y) (Hid.out (by assumption)) hb)
         obtain ⟨d0, d1, d2⟩ := (HX.out.below hbn.out).cells
         clear hb)
      | (go_at_call 14
         refine (K2.out _ (step_below B0.out (Hid.out (by assumption)))).mono ?_
         rintro e wx ⟨rfl, hb⟩
         have hbn := hidP (step_below (w := y) (Hid.out (by assumption)) hb)
         obtain ⟨d0, d1, d2⟩ := (HX.out.below hbn.out).cells
         clear hb)
      | (go_at_call 15
         refine (K3.out _ (step_below B0.out (Hid.out (by assumption)))).mono ?_
         rintro e wx ⟨rfl, hb⟩
         have hbn := hidP (step_below (w := y) (Hid.out (by assumption)) hb)
         obtain ⟨d0, d1, d2⟩ := (HX.out.below hbn.out).cells
         clear hb)
      | (go_at_call 16
         refine (K4.out _ (step_below B0.out (Hid.out (by assumption)))).mono ?_
         rintro e wx ⟨rfl, hb⟩
         have hbn := hidP (step_below (w := y) (Hid.out (by assumption)) hb)
         obtain ⟨d0, d1, d2⟩ := (HX.out.below hbn.out).cells
         clear hb)
      | (go_at_call 17
         refine (K5.out _ (step_below B0.out (Hid.out (by assumption)))).mono ?_
         rintro e wx ⟨rfl, hb⟩
         have hbn := hidP (step_below (w := y) (Hid.out (by assumption)) hb)
         obtain ⟨d0, d1, d2⟩ := (HX.out.below hbn.out).cells
         clear hb)
      | (go_at_call 18
         refine (K6.out _ (step_below B0.out (Hid.out (by assumption)))).mono ?_
         rintro e wx ⟨rfl, hb⟩
         have hbn := hidP (step_below (w := y) (Hid.out (by assumption)) hb)
         obtain ⟨d0, d1, d2⟩ := (HX.out.below hbn.out).cells
         clear hb))
    all_goals
      go_wp2
      go_ret
      exact ⟨rfl, step_below B0.out (Hid.out (by assumption))⟩

/-! ### The row's step -/
set_option maxRecDepth 100000 in
theorem contract (H : Type) (enc : TypeId × Value → H) (W : World) (base : Nat) (args : Array Value) (ds gs : List (DataW H)) (before : List MemPlace)
    (hval0 : ∀ (j : Nat) t v, Try.f3.params[j]? = some t → args[j]? = some v → Value.okWide Try.prog W .any base t v)
    (hW : DataW.Whole enc Try.prog Try.f3.params.toList Rows.monoChecksSpec.vars false W args.toList ds gs before)
    (hsz0 : (DataW.weightsEach Try.prog (Try.f3.params.toList ++ Rows.monoChecksSpec.plain.varTypes Try.prog) (ds ++ gs)).all (· ≤ reachBytes) = true) :
    Calls Try.prog 3 args W fun e W' => ∃ v, e = .returned v ∧ Rows.monoChecksSpec.post enc Try.prog Try.f3 false true false false W args v W' := by
  have hW' := hW
  obtain ⟨p, q, hA0, hV, rfl, hfz, hnd⟩ := hW
  have hA : DataW.TrodAll enc Try.prog W 0 (fun _ => true) true Try.f3.params.toList args.toList ds p := hA0
  have hval : ∀ (j : Nat) t v, Try.f3.params[j]? = some t → args[j]? = some v → Value.okWide Try.prog W .any base t v := hval0
  have hsz : (DataW.weightsEach Try.prog (Try.f3.params.toList ++ []) (ds ++ gs)).all (· ≤ reachBytes) = true := hsz0
  rw [Try.params3] at hA hval hsz
  obtain ⟨v0, vs0, d0, ds0, p0, q0, hargs, rfl, rfl, h0, r0⟩ := trodAll_cons hA
  obtain ⟨v1, vs1, d1, ds1, p1, q1, rfl, rfl, rfl, h1, r1⟩ := trodAll_cons r0
  obtain ⟨rfl, rfl, rfl⟩ := trodAll_nil r1
  obtain rfl : args = #[v0, v1] := by cases args; simp_all
  obtain ⟨rfl, rfl⟩ := trodVars_none hV
  obtain ⟨l0, o0, f0, s0⟩ := open_ring (hval 0 24 v0 rfl rfl) h0 (fun parts e => by subst e; exact sized_part hsz (j := 0) (t := 24) rfl rfl)
  obtain ⟨l1, s1⟩ := open_il (hval 1 25 v1 rfl rfl) h1 (fun elems spare e => by subst e; exact sized_slice hsz (j := 1) (t := 25) (e := 3) rfl rfl Try.underlying25)
  refine (walk s0 s1).mono fun e W' ⟨he, hb⟩ => ?_
  subst he
  exact ⟨_, rfl, _, _, _, _, _, _, hW', trodAll_cons_mk (shut_bool Try.underlying4 _) trodAll_mk0, trodAll_cons_mk (Below.trod laidOut (by kernel_rfl) (of_decide_eq_true (by kernel_rfl)) h0 hb (fun x hx => by first | cases hx; done | (have := hW'.lt x (by simp [hx]); simpa using this))) (trodAll_cons_mk (Below.trod laidOut (by kernel_rfl) (of_decide_eq_true (by kernel_rfl)) h1 hb (fun x hx => by first | cases hx; done | (have := hW'.lt x (by simp [hx]); simpa using this))) (trodAll_mk0)), rfl, hb.frame _, fun h => by cases h⟩

set_option maxRecDepth 100000 in
theorem lifted (os : Os) (started : os.Started) (H : Type) (enc : TypeId × Value → H) :
    ReturnsInHanded {} Try.checked os 3 .any (Rows.monoChecksSpec.pre6 enc Try.prog Try.f3 Rows.monoChecksRow.domain false) (Rows.monoChecksSpec.post enc Try.prog Try.f3 false true false false) := by
  refine returnsInHanded_of_change_shaped (C := Try.checked) own started (by kernel_rfl) Try.func3
    (ChangeSpec.witness6 (enc := enc) (C := Try.checked) false ⟨#[], #[.agg #[.slice none 0 0, .int .i64 0, .int .i64 0], .slice none 0 0], []⟩ 8 (by kernel_rfl) (by kernel_rfl) (by kernel_rfl) (by kernel_rfl)) ?_
  intro W base args ds gs before hval0 hW _ hsz _ _
  exact contract H enc W base args ds gs before hval0 hW hsz

theorem holds : Rows.MonoChecksSaid :=
  OpenClaim.holds_of_wide 3 Try.f3 rfl rfl rfl rfl rfl rfl rfl ⟨rfl, rfl, rfl, rfl, rfl⟩ rfl rfl rfl rfl rfl (by kernel_rfl) Try.func3 (by kernel_rfl)
    (of_decide_eq_true (by kernel_rfl)) (by unfold Func.isWrapper; first | (rw [if_pos (by decide +kernel)]; kernel_rfl) | (rw [if_neg (by decide +kernel)]; exact ⟨rfl, rfl⟩))
    (fun os started H enc _ => lifted os started H enc)
end Go.Proofs.Ythlldjknmdndoaa.monoChecks
