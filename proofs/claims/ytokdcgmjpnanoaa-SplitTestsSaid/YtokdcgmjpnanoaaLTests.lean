/- For every list of at most 7 ints and the prime that is picked for p: split.Irreducible answers what the document's Rabin test does, and false by any int that is no prime; for longer lists awake alone. Conditions: none. -/
import Derived.Test.YtokdcgmjpnanoaaSqY

set_option linter.unusedVariables false
set_option linter.unusedSimpArgs false
namespace Go.Proofs.Ytokdcgmjpnanoaa.splitTests
open Go.ChangeShapes Go.WideShapes Go.ChangeAt Go.RowKit Go.Joins

theorem irr_b (q : Nat) (f : List Int) : ∃ b : Bool, ∀ w e w', IrrTells q f w e w' → e = .returned (.bool b) ∧ Below w.heap.size w w' := by
  by_cases h : Irr q (monF q f)
  · refine ⟨true, fun w e w' ⟨b, he, hb, h2⟩ => ⟨by rw [he, hb.2 h], h2⟩⟩
  · refine ⟨false, fun w e w' ⟨b, he, hb, h2⟩ => ⟨?_, h2⟩⟩
    cases b with
    | false => exact he
    | true => exact absurd (hb.1 rfl) h

set_option maxRecDepth 100000 in
set_option maxHeartbeats 4000000 in
theorem walk {a : Value} {f : List Int} {p : Int} {w : World} (ha : SeesI w a f) (hp : (Lit.int .i64 p).wf = true) : Calls Try.prog 4 #[a, .int .i64 p] w fun e w' => e = .returned (.bool true) ∧ Below w.heap.size w w' := by
  obtain ⟨p1, p2⟩ := int_bounds5 hp
  have Ha : Hid (∀ w1, Below w.heap.size w w1 → SeesI w1 a f) := fun w1 h => SeesI.below ha h
  have B0 := hidP (Below.refl w.heap.size w)
  have C0 := hidP awake11
  obtain ⟨ap, ac, rfl, hac⟩ := SeesF.form ha
  clear ha hp
  by_cases z0 : (f.length : Int) > 7
  · go_enter Try.func4, Try.ntmps4
    go_wp2_with fail
    refine (C0.out _).mono ?_
    rintro e w1 ⟨rfl, hb1⟩
    have B1 := hidP (step_below B0.out hb1)
    clear hb1
    go_wp2_with fail
    go_ret
    exact ⟨rfl, B1.out⟩
  have l0 : f.length ≤ 7 := by omega
  have L0 : f.length ≤ 4096 := by omega
  cases hp : isP p
  · have IS := hidP fun w => ref_isP p p1 p2 w
    rw [hp] at IS
    have HP := hidP hp
    clear hp
    go_enter Try.func4, Try.ntmps4
    go_wp2_with fail
    refine (law_Pick p p1 p2 _).mono ?_
    rintro e w1 ⟨q, rfl, hq, hb1⟩
    have B1 := hidP (step_below B0.out hb1)
    clear hb1
    have HQ := hidP hq
    clear hq
    obtain ⟨bb, hbb⟩ := irr_b q f
    have CI1 : Hid (∀ w1, Below w.heap.size w w1 → Calls Try.prog 12 #[.slice ap f.length ac, .int .i64 q] w1 fun e w' => e = .returned (.bool bb) ∧ Below w1.heap.size w1 w') := fun w1 h => (mod_Irreducible (Ha.out w1 h) (by omega) HQ.out).mono (hbb w1)
    have CI2 : Hid (∀ w1, Below w.heap.size w w1 → Calls Try.prog 13 #[.slice ap f.length ac, .int .i64 q] w1 fun e w' => e = .returned (.bool bb) ∧ Below w1.heap.size w1 w') := fun w1 h => (ref_Irreducible (Ha.out w1 h) (by omega) HQ.out).mono (hbb w1)
    clear hbb
    cases bb
    · skip
      go_wp2_with fail
      refine (C0.out _).mono ?_
      rintro e w2 ⟨rfl, hb2⟩
      have B2 := hidP (step_below B1.out hb2)
      clear hb2
      go_wp2_with fail
      refine (CI1.out _ B2.out).mono ?_
      rintro e w3 ⟨rfl, hb3⟩
      have B3 := hidP (step_below B2.out hb3)
      clear hb3
      go_wp2_with fail
      refine (CI2.out _ B3.out).mono ?_
      rintro e w4 ⟨rfl, hb4⟩
      have B4 := hidP (step_below B3.out hb4)
      clear hb4
      go_wp2_with fail
      refine (IS.out _).mono ?_
      rintro e w5 ⟨rfl, hb5⟩
      have B5 := hidP (step_below B4.out hb5)
      clear hb5
      go_wp2_with fail
      refine (none_Irreducible p1 p2 HP.out).mono ?_
      rintro e w6 ⟨rfl, hb6⟩
      have B6 := hidP (step_below B5.out hb6)
      clear hb6
      go_wp2_with fail
      go_ret
      exact ⟨rfl, B6.out⟩
    · skip
      go_wp2_with fail
      refine (C0.out _).mono ?_
      rintro e w2 ⟨rfl, hb2⟩
      have B2 := hidP (step_below B1.out hb2)
      clear hb2
      go_wp2_with fail
      refine (CI1.out _ B2.out).mono ?_
      rintro e w3 ⟨rfl, hb3⟩
      have B3 := hidP (step_below B2.out hb3)
      clear hb3
      go_wp2_with fail
      refine (CI2.out _ B3.out).mono ?_
      rintro e w4 ⟨rfl, hb4⟩
      have B4 := hidP (step_below B3.out hb4)
      clear hb4
      go_wp2_with fail
      refine (IS.out _).mono ?_
      rintro e w5 ⟨rfl, hb5⟩
      have B5 := hidP (step_below B4.out hb5)
      clear hb5
      go_wp2_with fail
      refine (none_Irreducible p1 p2 HP.out).mono ?_
      rintro e w6 ⟨rfl, hb6⟩
      have B6 := hidP (step_below B5.out hb6)
      clear hb6
      go_wp2_with fail
      go_ret
      exact ⟨rfl, B6.out⟩
  · have IS := hidP fun w => ref_isP p p1 p2 w
    rw [hp] at IS
    clear hp
    go_enter Try.func4, Try.ntmps4
    go_wp2_with fail
    refine (law_Pick p p1 p2 _).mono ?_
    rintro e w1 ⟨q, rfl, hq, hb1⟩
    have B1 := hidP (step_below B0.out hb1)
    clear hb1
    have HQ := hidP hq
    clear hq
    obtain ⟨bb, hbb⟩ := irr_b q f
    have CI1 : Hid (∀ w1, Below w.heap.size w w1 → Calls Try.prog 12 #[.slice ap f.length ac, .int .i64 q] w1 fun e w' => e = .returned (.bool bb) ∧ Below w1.heap.size w1 w') := fun w1 h => (mod_Irreducible (Ha.out w1 h) (by omega) HQ.out).mono (hbb w1)
    have CI2 : Hid (∀ w1, Below w.heap.size w w1 → Calls Try.prog 13 #[.slice ap f.length ac, .int .i64 q] w1 fun e w' => e = .returned (.bool bb) ∧ Below w1.heap.size w1 w') := fun w1 h => (ref_Irreducible (Ha.out w1 h) (by omega) HQ.out).mono (hbb w1)
    clear hbb
    cases bb
    · skip
      go_wp2_with fail
      refine (C0.out _).mono ?_
      rintro e w2 ⟨rfl, hb2⟩
      have B2 := hidP (step_below B1.out hb2)
      clear hb2
      go_wp2_with fail
      refine (CI1.out _ B2.out).mono ?_
      rintro e w3 ⟨rfl, hb3⟩
      have B3 := hidP (step_below B2.out hb3)
      clear hb3
      go_wp2_with fail
      refine (CI2.out _ B3.out).mono ?_
      rintro e w4 ⟨rfl, hb4⟩
      have B4 := hidP (step_below B3.out hb4)
      clear hb4
      go_wp2_with fail
      refine (IS.out _).mono ?_
      rintro e w5 ⟨rfl, hb5⟩
      have B5 := hidP (step_below B4.out hb5)
      clear hb5
      go_wp2_with fail
      go_ret
      exact ⟨rfl, B5.out⟩
    · skip
      go_wp2_with fail
      refine (C0.out _).mono ?_
      rintro e w2 ⟨rfl, hb2⟩
      have B2 := hidP (step_below B1.out hb2)
      clear hb2
      go_wp2_with fail
      refine (CI1.out _ B2.out).mono ?_
      rintro e w3 ⟨rfl, hb3⟩
      have B3 := hidP (step_below B2.out hb3)
      clear hb3
      go_wp2_with fail
      refine (CI2.out _ B3.out).mono ?_
      rintro e w4 ⟨rfl, hb4⟩
      have B4 := hidP (step_below B3.out hb4)
      clear hb4
      go_wp2_with fail
      refine (IS.out _).mono ?_
      rintro e w5 ⟨rfl, hb5⟩
      have B5 := hidP (step_below B4.out hb5)
      clear hb5
      go_wp2_with fail
      go_ret
      exact ⟨rfl, B5.out⟩

/-! ### The row's step -/
set_option maxRecDepth 100000 in
theorem contract (H : Type) (enc : TypeId × Value → H) (W : World) (base : Nat) (args : Array Value) (ds gs : List (DataW H)) (before : List MemPlace)
    (hval0 : ∀ (j : Nat) t v, Try.f4.params[j]? = some t → args[j]? = some v → Value.okWide Try.prog W .any base t v)
    (hW : DataW.Whole enc Try.prog Try.f4.params.toList Rows.splitTestsSpec.vars false W args.toList ds gs before)
    (hsz0 : (DataW.weightsEach Try.prog (Try.f4.params.toList ++ Rows.splitTestsSpec.plain.varTypes Try.prog) (ds ++ gs)).all (· ≤ reachBytes) = true) :
    Calls Try.prog 4 args W fun e W' => ∃ v, e = .returned v ∧ Rows.splitTestsSpec.post enc Try.prog Try.f4 false true false false W args v W' := by
  have hW' := hW
  obtain ⟨p, q, hA0, hV, rfl, hfz, hnd⟩ := hW
  have hA : DataW.TrodAll enc Try.prog W 0 (fun _ => true) true Try.f4.params.toList args.toList ds p := hA0
  have hval : ∀ (j : Nat) t v, Try.f4.params[j]? = some t → args[j]? = some v → Value.okWide Try.prog W .any base t v := hval0
  have hsz : (DataW.weightsEach Try.prog (Try.f4.params.toList ++ []) (ds ++ gs)).all (· ≤ reachBytes) = true := hsz0
  rw [Try.params4] at hA hval hsz
  obtain ⟨v0, vs0, d0, ds0, p0, q0, hargs, rfl, rfl, h0, r0⟩ := trodAll_cons hA
  obtain ⟨v1, vs1, d1, ds1, p1, q1, rfl, rfl, rfl, h1, r1⟩ := trodAll_cons r0
  obtain ⟨rfl, rfl, rfl⟩ := trodAll_nil r1
  obtain rfl : args = #[v0, v1] := by cases args; simp_all
  obtain ⟨rfl, rfl⟩ := trodVars_none hV
  obtain ⟨l0, s0⟩ := open_il (hval 0 22 v0 rfl rfl) h0 (fun elems spare e => by subst e; exact sized_slice hsz (j := 0) (t := 22) (e := 3) rfl rfl Try.underlying22)
  have k1 := h1
  obtain ⟨n1, rfl, rfl, rfl, wn1⟩ := open_int Try.underlying3 (hval 1 3 v1 rfl rfl) h1
  refine (walk s0 wn1).mono fun e W' ⟨he, hb⟩ => ?_
  subst he
  exact ⟨_, rfl, _, _, _, _, _, _, hW', trodAll_cons_mk (shut_bool Try.underlying4 _) trodAll_mk0, trodAll_cons_mk (Below.trod laidOut (by kernel_rfl) (of_decide_eq_true (by kernel_rfl)) h0 hb (fun x hx => by first | cases hx; done | (have := hW'.lt x (by simp [hx]); simpa using this))) (trodAll_cons_mk (Below.trod laidOut (by kernel_rfl) (of_decide_eq_true (by kernel_rfl)) k1 hb (fun x hx => by first | cases hx; done | (have := hW'.lt x (by simp [hx]); simpa using this))) (trodAll_mk0)), rfl, hb.frame _, fun h => by cases h⟩

set_option maxRecDepth 100000 in
theorem lifted (os : Os) (started : os.Started) (H : Type) (enc : TypeId × Value → H) :
    ReturnsInHanded {} Try.checked os 4 .any (Rows.splitTestsSpec.pre6 enc Try.prog Try.f4 Rows.splitTestsRow.domain false) (Rows.splitTestsSpec.post enc Try.prog Try.f4 false true false false) := by
  refine returnsInHanded_of_change_shaped (C := Try.checked) own started (by kernel_rfl) Try.func4
    (ChangeSpec.witness6 (enc := enc) (C := Try.checked) false ⟨#[], #[.slice none 0 0, .int .i64 0], []⟩ 8 (by kernel_rfl) (by kernel_rfl) (by kernel_rfl) (by kernel_rfl)) ?_
  intro W base args ds gs before hval0 hW _ hsz _ _
  exact contract H enc W base args ds gs before hval0 hW hsz

theorem holds : Rows.SplitTestsSaid :=
  OpenClaim.holds_of_wide 4 Try.f4 rfl rfl rfl rfl rfl rfl rfl ⟨rfl, rfl, rfl, rfl, rfl⟩ rfl rfl rfl rfl rfl (by kernel_rfl) Try.func4 (by kernel_rfl)
    (of_decide_eq_true (by kernel_rfl)) (by unfold Func.isWrapper; first | (rw [if_pos (by decide +kernel)]; kernel_rfl) | (rw [if_neg (by decide +kernel)]; exact ⟨rfl, rfl⟩))
    (fun os started H enc _ => lifted os started H enc)
end Go.Proofs.Ytokdcgmjpnanoaa.splitTests
