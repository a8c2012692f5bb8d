/- For all lists of ints f, g of at most 12 each, every int n and every int p that is no prime: modular.DivMod and Pow refuse with ErrPrime, Eval answers 0, Plain, Mul, Gcd, Monic and Deriv the empty list. Conditions: none. -/
import Derived.Test.YtbmneibliekfdaaJb2
set_option linter.unusedVariables false
set_option linter.unusedSimpArgs false
namespace Go.Proofs.Ytbmneibliekfdaa.modularNone
open Go.ChangeShapes Go.WideShapes Go.ChangeAt Go.RowKit Go.Joins

set_option maxRecDepth 100000 in
set_option maxHeartbeats 4000000 in
theorem walk {a b : Value} {f g : List Int} {n p : Int} {w : World} (ha : SeesI w a f) (hb : SeesI w b g) (hn : (Lit.int .i64 n).wf = true) (hp : (Lit.int .i64 p).wf = true) : Calls Try.prog 5 #[a, b, .int .i64 n, .int .i64 p] w fun e w' => e = .returned (.bool true) ∧ Below w.heap.size w w' := by
  obtain ⟨n1, n2⟩ := int_bounds5 hn
  obtain ⟨p1, p2⟩ := int_bounds5 hp
  have Ha : Hid (∀ w1, Below w.heap.size w w1 → SeesI w1 a f) := fun w1 h => SeesI.below ha h
  have Hb : Hid (∀ w1, Below w.heap.size w w1 → SeesI w1 b g) := fun w1 h => SeesI.below hb h
  have B0 := hidP (Below.refl w.heap.size w)
  have C0 := hidP awake10
  obtain ⟨ap, ac, rfl, hac⟩ := SeesF.form ha
  obtain ⟨bp, bc, rfl, hbc⟩ := SeesF.form hb
  clear ha hb hn hp
  cases hp : isP p with
  | true =>
    have IS := hidP fun w => ref_isP p p1 p2 w
    rw [hp] at IS
    clear hp p1 p2
    go_enter Try.func5, Try.ntmps5
    go_wp2_with fail
    refine (C0.out _).mono ?_
    rintro e w1 ⟨rfl, hb1⟩
    have B1 := hidP (step_below B0.out hb1)
    clear hb1
    go_wp2_with fail
    refine (IS.out _).mono ?_
    rintro e w2 ⟨rfl, hb2⟩
    have B2 := hidP (step_below B1.out hb2)
    clear hb2
    go_wp2_with fail
    go_ret
    exact ⟨rfl, B2.out⟩
  | false =>
    have IS := hidP fun w => ref_isP p p1 p2 w
    rw [hp] at IS
    have HP := hidP hp
    clear hp
    by_cases z0 : (f.length : Int) > 12
    · go_enter Try.func5, Try.ntmps5
      go_wp2_with fail
      refine (C0.out _).mono ?_
      rintro e w1 ⟨rfl, hb1⟩
      have B1 := hidP (step_below B0.out hb1)
      clear hb1
      go_wp2_with fail
      refine (IS.out _).mono ?_
      rintro e w2 ⟨rfl, hb2⟩
      have B2 := hidP (step_below B1.out hb2)
      clear hb2
      go_wp2_with fail
      go_ret
      exact ⟨rfl, B2.out⟩
    by_cases z1 : (g.length : Int) > 12
    · go_enter Try.func5, Try.ntmps5
      go_wp2_with fail
      refine (C0.out _).mono ?_
      rintro e w1 ⟨rfl, hb1⟩
      have B1 := hidP (step_below B0.out hb1)
      clear hb1
      go_wp2_with fail
      refine (IS.out _).mono ?_
      rintro e w2 ⟨rfl, hb2⟩
      have B2 := hidP (step_below B1.out hb2)
      clear hb2
      go_wp2_with fail
      go_ret
      exact ⟨rfl, B2.out⟩
    go_enter Try.func5, Try.ntmps5
    go_wp2_with fail
    refine (C0.out _).mono ?_
    rintro e w1 ⟨rfl, hb1⟩
    have B1 := hidP (step_below B0.out hb1)
    clear hb1
    go_wp2_with fail
    refine (IS.out _).mono ?_
    rintro e w2 ⟨rfl, hb2⟩
    have B2 := hidP (step_below B1.out hb2)
    clear hb2
    go_wp2_with fail
    refine (none_DivMod p1 p2 HP.out).mono ?_
    rintro e w3 ⟨rfl, hb3⟩
    have B3 := hidP (step_below B2.out hb3)
    clear hb3
    go_wp2_with fail
    refine (none_Pow p1 p2 HP.out).mono ?_
    rintro e w4 ⟨rfl, hb4⟩
    have B4 := hidP (step_below B3.out hb4)
    clear hb4
    go_wp2_with fail
    refine (none_Eval p1 p2 HP.out).mono ?_
    rintro e w5 ⟨rfl, hb5⟩
    have B5 := hidP (step_below B4.out hb5)
    clear hb5
    go_wp2_with fail
    refine (none_Plain p1 p2 HP.out).mono ?_
    rintro e w6 ⟨rfl, hb6⟩
    have B6 := hidP (step_below B5.out hb6)
    clear hb6
    go_wp2_with fail
    refine (none_Mul p1 p2 HP.out).mono ?_
    rintro e w7 ⟨rfl, hb7⟩
    have B7 := hidP (step_below B6.out hb7)
    clear hb7
    go_wp2_with fail
    refine (none_Gcd p1 p2 HP.out).mono ?_
    rintro e w8 ⟨rfl, hb8⟩
    have B8 := hidP (step_below B7.out hb8)
    clear hb8
    go_wp2_with fail
    refine (none_Monic p1 p2 HP.out).mono ?_
    rintro e w9 ⟨rfl, hb9⟩
    have B9 := hidP (step_below B8.out hb9)
    clear hb9
    go_wp2_with fail
    refine (none_Deriv p1 p2 HP.out).mono ?_
    rintro e w10 ⟨rfl, hb10⟩
    have B10 := hidP (step_below B9.out hb10)
    clear hb10
    go_wp2_with fail
    go_ret
    exact ⟨rfl, B10.out⟩

/-! ### The row's step -/
set_option maxRecDepth 100000 in
theorem contract (H : Type) (enc : TypeId × Value → H) (W : World) (base : Nat) (args : Array Value) (ds gs : List (DataW H)) (before : List MemPlace)
    (hval0 : ∀ (j : Nat) t v, Try.f5.params[j]? = some t → args[j]? = some v → Value.okWide Try.prog W .any base t v)
    (hW : DataW.Whole enc Try.prog Try.f5.params.toList Rows.modularNoneSpec.vars false W args.toList ds gs before)
    (hsz0 : (DataW.weightsEach Try.prog (Try.f5.params.toList ++ Rows.modularNoneSpec.plain.varTypes Try.prog) (ds ++ gs)).all (· ≤ reachBytes) = true) :
    Calls Try.prog 5 args W fun e W' => ∃ v, e = .returned v ∧ Rows.modularNoneSpec.post enc Try.prog Try.f5 false true false false W args v W' := by
  have hW' := hW
  obtain ⟨p, q, hA0, hV, rfl, hfz, hnd⟩ := hW
  have hA : DataW.TrodAll enc Try.prog W 0 (fun _ => true) true Try.f5.params.toList args.toList ds p := hA0
  have hval : ∀ (j : Nat) t v, Try.f5.params[j]? = some t → args[j]? = some v → Value.okWide Try.prog W .any base t v := hval0
  have hsz : (DataW.weightsEach Try.prog (Try.f5.params.toList ++ []) (ds ++ gs)).all (· ≤ reachBytes) = true := hsz0
  rw [Try.params5] at hA hval hsz
  obtain ⟨v0, vs0, d0, ds0, p0, q0, hargs, rfl, rfl, h0, r0⟩ := trodAll_cons hA
  obtain ⟨v1, vs1, d1, ds1, p1, q1, rfl, rfl, rfl, h1, r1⟩ := trodAll_cons r0
  obtain ⟨v2, vs2, d2, ds2, p2, q2, rfl, rfl, rfl, h2, r2⟩ := trodAll_cons r1
  obtain ⟨v3, vs3, d3, ds3, p3, q3, rfl, rfl, rfl, h3, r3⟩ := trodAll_cons r2
  obtain ⟨rfl, rfl, rfl⟩ := trodAll_nil r3
  obtain rfl : args = #[v0, v1, v2, v3] := by cases args; simp_all
  obtain ⟨rfl, rfl⟩ := trodVars_none hV
  obtain ⟨l0, s0⟩ := open_il (hval 0 22 v0 rfl rfl) h0 (fun elems spare e => by subst e; exact sized_slice hsz (j := 0) (t := 22) (e := 3) rfl rfl Try.underlying22)
  obtain ⟨l1, s1⟩ := open_il (hval 1 22 v1 rfl rfl) h1 (fun elems spare e => by subst e; exact sized_slice hsz (j := 1) (t := 22) (e := 3) rfl rfl Try.underlying22)
  have k2 := h2
  obtain ⟨n2, rfl, rfl, rfl, wn2⟩ := open_int Try.underlying3 (hval 2 3 v2 rfl rfl) h2
  have k3 := h3
  obtain ⟨n3, rfl, rfl, rfl, wn3⟩ := open_int Try.underlying3 (hval 3 3 v3 rfl rfl) h3
  refine (walk s0 s1 wn2 wn3).mono fun e W' ⟨he, hb⟩ => ?_
  subst he
  exact ⟨_, rfl, _, _, _, _, _, _, hW', trodAll_cons_mk (shut_bool Try.underlying4 _) trodAll_mk0, trodAll_cons_mk (Below.trod laidOut (by kernel_rfl) (of_decide_eq_true (by kernel_rfl)) h0 hb (fun x hx => by first | cases hx; done | (have := hW'.lt x (by simp [hx]); simpa using this))) (trodAll_cons_mk (Below.trod laidOut (by kernel_rfl) (of_decide_eq_true (by kernel_rfl)) h1 hb (fun x hx => by first | cases hx; done | (have := hW'.lt x (by simp [hx]); simpa using this))) (trodAll_cons_mk (Below.trod laidOut (by kernel_rfl) (of_decide_eq_true (by kernel_rfl)) k2 hb (fun x hx => by first | cases hx; done | (have := hW'.lt x (by simp [hx]); simpa using this))) (trodAll_cons_mk (Below.trod laidOut (by kernel_rfl) (of_decide_eq_true (by kernel_rfl)) k3 hb (fun x hx => by first | cases hx; done | (have := hW'.lt x (by simp [hx]); simpa using this))) (trodAll_mk0)))), rfl, hb.frame _, fun h => by cases h⟩

set_option maxRecDepth 100000 in
theorem lifted (os : Os) (started : os.Started) (H : Type) (enc : TypeId × Value → H) :
    ReturnsInHanded {} Try.checked os 5 .any (Rows.modularNoneSpec.pre6 enc Try.prog Try.f5 Rows.modularNoneRow.domain false) (Rows.modularNoneSpec.post enc Try.prog Try.f5 false true false false) := by
  refine returnsInHanded_of_change_shaped (C := Try.checked) own started (by kernel_rfl) Try.func5
    (ChangeSpec.witness6 (enc := enc) (C := Try.checked) false ⟨#[], #[.slice none 0 0, .slice none 0 0, .int .i64 0, .int .i64 0], []⟩ 8 (by kernel_rfl) (by kernel_rfl) (by kernel_rfl) (by kernel_rfl)) ?_
  intro W base args ds gs before hval0 hW _ hsz _ _
  exact contract H enc W base args ds gs before hval0 hW hsz

theorem holds : Rows.ModularNoneSaid :=
  OpenClaim.holds_of_wide 5 Try.f5 rfl rfl rfl rfl rfl rfl rfl ⟨rfl, rfl, rfl, rfl, rfl⟩ rfl rfl rfl rfl rfl (by kernel_rfl) Try.func5 (by kernel_rfl)
    (of_decide_eq_true (by kernel_rfl)) (by unfold Func.isWrapper; first | (rw [if_pos (by decide +kernel)]; kernel_rfl) | (rw [if_neg (by decide +kernel)]; exact ⟨rfl, rfl⟩))
    (fun os started H enc _ => lifted os started H enc)
end Go.Proofs.Ytbmneibliekfdaa.modularNone
