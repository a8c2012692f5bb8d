/- For all lists of ints f, g of at most 30 each and all ints c, p: modular.Plain, Add, Sub and Scale answer what the document's do, by any p; for longer lists awake alone. Conditions: none. -/
import Derived.Test.YtbmneibliekfdaaJb1
set_option linter.unusedVariables false
set_option linter.unusedSimpArgs false
namespace Go.Proofs.Ytbmneibliekfdaa.modularAdds
open Go.ChangeShapes Go.WideShapes Go.ChangeAt Go.RowKit Go.Joins

set_option maxRecDepth 100000 in
set_option maxHeartbeats 4000000 in
theorem walk {a b : Value} {f g : List Int} {c p : Int} {w : World} (ha : SeesI w a f) (hb : SeesI w b g) (hc : (Lit.int .i64 c).wf = true) (hp : (Lit.int .i64 p).wf = true) : Calls Try.prog 3 #[a, b, .int .i64 c, .int .i64 p] w fun e w' => e = .returned (.bool true) ∧ Below w.heap.size w w' := by
  obtain ⟨c1, c2⟩ := int_bounds5 hc
  obtain ⟨p1, p2⟩ := int_bounds5 hp
  have Ha : Hid (∀ w1, Below w.heap.size w w1 → SeesI w1 a f) := fun w1 h => SeesI.below ha h
  have Hb : Hid (∀ w1, Below w.heap.size w w1 → SeesI w1 b g) := fun w1 h => SeesI.below hb h
  have B0 := hidP (Below.refl w.heap.size w)
  have C0 := hidP awake10
  obtain ⟨ap, ac, rfl, hac⟩ := SeesF.form ha
  obtain ⟨bp, bc, rfl, hbc⟩ := SeesF.form hb
  clear ha hb hc hp
  by_cases z0 : (f.length : Int) > 30
  · go_enter Try.func3, Try.ntmps3
    go_wp2_with fail
    refine (C0.out _).mono ?_
    rintro e w1 ⟨rfl, hb1⟩
    have B1 := hidP (step_below B0.out hb1)
    clear hb1
    go_wp2_with fail
    go_ret
    exact ⟨rfl, B1.out⟩
  by_cases z1 : (g.length : Int) > 30
  · go_enter Try.func3, Try.ntmps3
    go_wp2_with fail
    refine (C0.out _).mono ?_
    rintro e w1 ⟨rfl, hb1⟩
    have B1 := hidP (step_below B0.out hb1)
    clear hb1
    go_wp2_with fail
    go_ret
    exact ⟨rfl, B1.out⟩
  have l0 : f.length ≤ 30 := by omega
  have L0 : f.length ≤ 4096 := by omega
  have l1 : g.length ≤ 30 := by omega
  have L1 : g.length ≤ 4096 := by omega
  go_enter Try.func3, Try.ntmps3
  go_wp2_with fail
  refine (C0.out _).mono ?_
  rintro e w1 ⟨rfl, hb1⟩
  have B1 := hidP (step_below B0.out hb1)
  clear hb1
  go_wp2_with fail
  refine (modZ_Plain (Ha.out _ B1.out) (by omega) p1 p2).mono ?_
  rintro e w2 ⟨v0, rfl, hv0, hb2⟩
  have B2 := hidP (step_below B1.out hb2)
  clear hb2
  have S1 := hidP hv0
  clear hv0
  go_wp2_with fail
  refine (ref_PlainZ (Ha.out _ B2.out) (by omega) p1 p2).mono ?_
  rintro e w3 ⟨u0, rfl, hu0, hb3⟩
  have B3 := hidP (step_below B2.out hb3)
  replace S1 := hidP (S1.out.below hb3)
  clear hb3
  have S2 := hidP hu0
  clear hu0
  go_wp2_with fail
  refine (same_is S1.out S2.out (r := true) (decide_eq_true rfl)).mono ?_
  rintro e w4 ⟨rfl, hb4⟩
  have B4 := hidP (step_below B3.out hb4)
  replace S1 := hidP (S1.out.below hb4)
  replace S2 := hidP (S2.out.below hb4)
  clear hb4
  clear S1 S2
  go_wp2_with fail
  refine (modZ_Add (Ha.out _ B4.out) (Hb.out _ B4.out) (by omega) (by omega) p1 p2).mono ?_
  rintro e w5 ⟨v1, rfl, hv1, hb5⟩
  have B5 := hidP (step_below B4.out hb5)
  clear hb5
  have S1 := hidP hv1
  clear hv1
  go_wp2_with fail
  refine (ref_Add (Ha.out _ B5.out) (Hb.out _ B5.out) (by omega) (by omega) p1 p2).mono ?_
  rintro e w6 ⟨u1, rfl, hu1, hb6⟩
  have B6 := hidP (step_below B5.out hb6)
  replace S1 := hidP (S1.out.below hb6)
  clear hb6
  have S2 := hidP hu1
  clear hu1
  go_wp2_with fail
  refine (same_is S1.out S2.out (r := true) (decide_eq_true rfl)).mono ?_
  rintro e w7 ⟨rfl, hb7⟩
  have B7 := hidP (step_below B6.out hb7)
  replace S1 := hidP (S1.out.below hb7)
  replace S2 := hidP (S2.out.below hb7)
  clear hb7
  clear S1 S2
  go_wp2_with fail
  refine (modZ_Sub (Ha.out _ B7.out) (Hb.out _ B7.out) (by omega) (by omega) p1 p2).mono ?_
  rintro e w8 ⟨v2, rfl, hv2, hb8⟩
  have B8 := hidP (step_below B7.out hb8)
  clear hb8
  have S1 := hidP hv2
  clear hv2
  go_wp2_with fail
  refine (ref_Sub (Ha.out _ B8.out) (Hb.out _ B8.out) (by omega) (by omega) p1 p2).mono ?_
  rintro e w9 ⟨u2, rfl, hu2, hb9⟩
  have B9 := hidP (step_below B8.out hb9)
  replace S1 := hidP (S1.out.below hb9)
  clear hb9
  have S2 := hidP hu2
  clear hu2
  go_wp2_with fail
  refine (same_is S1.out S2.out (r := true) (decide_eq_true rfl)).mono ?_
  rintro e w10 ⟨rfl, hb10⟩
  have B10 := hidP (step_below B9.out hb10)
  replace S1 := hidP (S1.out.below hb10)
  replace S2 := hidP (S2.out.below hb10)
  clear hb10
  clear S1 S2
  go_wp2_with fail
  refine (modZ_Scale (Ha.out _ B10.out) (by omega) p1 p2).mono ?_
  rintro e w11 ⟨v3, rfl, hv3, hb11⟩
  have B11 := hidP (step_below B10.out hb11)
  clear hb11
  have S1 := hidP hv3
  clear hv3
  go_wp2_with fail
  refine (ref_Scale (Ha.out _ B11.out) (by omega) p1 p2).mono ?_
  rintro e w12 ⟨u3, rfl, hu3, hb12⟩
  have B12 := hidP (step_below B11.out hb12)
  replace S1 := hidP (S1.out.below hb12)
  clear hb12
  have S2 := hidP hu3
  clear hu3
  go_wp2_with fail
  refine (same_is S1.out S2.out (r := true) (decide_eq_true rfl)).mono ?_
  rintro e w13 ⟨rfl, hb13⟩
  have B13 := hidP (step_below B12.out hb13)
  replace S1 := hidP (S1.out.below hb13)
  replace S2 := hidP (S2.out.below hb13)
  clear hb13
  clear S1 S2
  go_wp2_with fail
  go_ret
  exact ⟨rfl, B13.out⟩

/-! ### The row's step -/
set_option maxRecDepth 100000 in
theorem contract (H : Type) (enc : TypeId × Value → H) (W : World) (base : Nat) (args : Array Value) (ds gs : List (DataW H)) (before : List MemPlace)
    (hval0 : ∀ (j : Nat) t v, Try.f3.params[j]? = some t → args[j]? = some v → Value.okWide Try.prog W .any base t v)
    (hW : DataW.Whole enc Try.prog Try.f3.params.toList Rows.modularAddsSpec.vars false W args.toList ds gs before)
    (hsz0 : (DataW.weightsEach Try.prog (Try.f3.params.toList ++ Rows.modularAddsSpec.plain.varTypes Try.prog) (ds ++ gs)).all (· ≤ reachBytes) = true) :
    Calls Try.prog 3 args W fun e W' => ∃ v, e = .returned v ∧ Rows.modularAddsSpec.post enc Try.prog Try.f3 false true false false W args v W' := by
  have hW' := hW
  obtain ⟨p, q, hA0, hV, rfl, hfz, hnd⟩ := hW
  have hA : DataW.TrodAll enc Try.prog W 0 (fun _ => true) true Try.f3.params.toList args.toList ds p := hA0
  have hval : ∀ (j : Nat) t v, Try.f3.params[j]? = some t → args[j]? = some v → Value.okWide Try.prog W .any base t v := hval0
  have hsz : (DataW.weightsEach Try.prog (Try.f3.params.toList ++ []) (ds ++ gs)).all (· ≤ reachBytes) = true := hsz0
  rw [Try.params3] at hA hval hsz
  obtain ⟨v0, vs0, d0, ds0, p0, q0, hargs, rfl, rfl, h0, r0⟩ := trodAll_cons hA
  obtain ⟨v1, vs1, d1, ds1, p1, q1, rfl, rfl, rfl, h1, r1⟩ := trodAll_cons r0
  obtain ⟨v2, vs2, d2, ds2, p2, q2, rfl, rfl, rfl, h2, r2⟩ := trodAll_cons r1
  obtain ⟨v3, vs3, d3, ds3, p3, q3, rfl, rfl, rfl, h3, r3⟩ := trodAll_cons r2
  obtain ⟨rfl, rfl, rfl⟩ := trodAll_nil r3
  obtain rfl : args = #[v0, v1, v2, v3] := by cases args; simp_all
  obtain ⟨rfl, rfl⟩ := trodVars_none hV
  obtain ⟨l0, s0⟩ := open_il (hval 0 22 v0 rfl rfl) h0 (fun elems spare e => by subst e; exact sized_slice hsz (j := 0) (t := 22) (e := 3) rfl rfl Try.underlying22)
  obtain ⟨l1, s1⟩ := open_il (hval 1 22 v1 rfl rfl) h1 (fun elems spare e => by subst e; exact sized_slice hsz (j := 1) (t := 22) (e := 3) rfl rfl Try.underlying22)
  have k2 := h2
  obtain ⟨n2, rfl, rfl, rfl, wn2⟩ := open_int Try.underlying3 (hval 2 3 v2 rfl rfl) h2
  have k3 := h3
  obtain ⟨n3, rfl, rfl, rfl, wn3⟩ := open_int Try.underlying3 (hval 3 3 v3 rfl rfl) h3
  refine (walk s0 s1 wn2 wn3).mono fun e W' ⟨he, hb⟩ => ?_
  subst he
  exact ⟨_, rfl, _, _, _, _, _, _, hW', trodAll_cons_mk (shut_bool Try.underlying4 _) trodAll_mk0, trodAll_cons_mk (Below.trod laidOut (by kernel_rfl) (of_decide_eq_true (by kernel_rfl)) h0 hb (fun x hx => by first | cases hx; done | (have := hW'.lt x (by simp [hx]); simpa using this))) (trodAll_cons_mk (Below.trod laidOut (by kernel_rfl) (of_decide_eq_true (by kernel_rfl)) h1 hb (fun x hx => by first | cases hx; done | (have := hW'.lt x (by simp [hx]); simpa using this))) (trodAll_cons_mk (Below.trod laidOut (by kernel_rfl) (of_decide_eq_true (by kernel_rfl)) k2 hb (fun x hx => by first | cases hx; done | (have := hW'.lt x (by simp [hx]); simpa using this))) (trodAll_cons_mk (Below.trod laidOut (by kernel_rfl) (of_decide_eq_true (by kernel_rfl)) k3 hb (fun x hx => by first | cases hx; done | (have := hW'.lt x (by simp [hx]); simpa using this))) (trodAll_mk0)))), rfl, hb.frame _, fun h => by cases h⟩

set_option maxRecDepth 100000 in
theorem lifted (os : Os) (started : os.Started) (H : Type) (enc : TypeId × Value → H) :
    ReturnsInHanded {} Try.checked os 3 .any (Rows.modularAddsSpec.pre6 enc Try.prog Try.f3 Rows.modularAddsRow.domain false) (Rows.modularAddsSpec.post enc Try.prog Try.f3 false true false false) := by
  refine returnsInHanded_of_change_shaped (C := Try.checked) own started (by kernel_rfl) Try.func3
    (ChangeSpec.witness6 (enc := enc) (C := Try.checked) false ⟨#[], #[.slice none 0 0, .slice none 0 0, .int .i64 0, .int .i64 0], []⟩ 8 (by kernel_rfl) (by kernel_rfl) (by kernel_rfl) (by kernel_rfl)) ?_
  intro W base args ds gs before hval0 hW _ hsz _ _
  exact contract H enc W base args ds gs before hval0 hW hsz

theorem holds : Rows.ModularAddsSaid :=
  OpenClaim.holds_of_wide 3 Try.f3 rfl rfl rfl rfl rfl rfl rfl ⟨rfl, rfl, rfl, rfl, rfl⟩ rfl rfl rfl rfl rfl (by kernel_rfl) Try.func3 (by kernel_rfl)
    (of_decide_eq_true (by kernel_rfl)) (by unfold Func.isWrapper; first | (rw [if_pos (by decide +kernel)]; kernel_rfl) | (rw [if_neg (by decide +kernel)]; exact ⟨rfl, rfl⟩))
    (fun os started H enc _ => lifted os started H enc)
end Go.Proofs.Ytbmneibliekfdaa.modularAdds
