/- For every list of at most 7 ints, every list of draws and the small prime that is picked for p: split.Factor answers what the document's Factor does; for longer lists awake alone. Conditions: none. -/
import Derived.Test.YtokdcgmjpnanoaaSuH

set_option linter.unusedVariables false
set_option linter.unusedSimpArgs false
namespace Go.Proofs.Ytokdcgmjpnanoaa.splitFactors
open Go.ChangeShapes Go.WideShapes Go.ChangeAt Go.RowKit Go.Joins

set_option maxRecDepth 100000 in
set_option maxHeartbeats 4000000 in
theorem walk {a d : Value} {f ds : List Int} {p : Int} {w : World} (ha : SeesI w a f) (hp : (Lit.int .i64 p).wf = true) (hd : SeesI w d ds) : Calls Try.prog 3 #[a, .int .i64 p, d] w fun e w' => e = .returned (.bool true) ∧ Below w.heap.size w w' := by
  obtain ⟨p1, p2⟩ := int_bounds5 hp
  have Ha : Hid (∀ w1, Below w.heap.size w w1 → SeesI w1 a f) := fun w1 h => SeesI.below ha h
  have Hd : Hid (∀ w1, Below w.heap.size w w1 → SeesI w1 d ds) := fun w1 h => SeesI.below hd h
  have B0 := hidP (Below.refl w.heap.size w)
  have C0 := hidP awake11
  obtain ⟨ap, ac, rfl, hac⟩ := SeesF.form ha
  obtain ⟨dp, dc, rfl, hdc⟩ := SeesF.form hd
  clear ha hp hd
  by_cases z0 : (f.length : Int) > 7
  · go_enter Try.func3, Try.ntmps3
    go_wp2_with fail
    refine (C0.out _).mono ?_
    rintro e w1 ⟨rfl, hb1⟩
    have B1 := hidP (step_below B0.out hb1)
    clear hb1
    go_wp2_with fail
    go_ret
    exact ⟨rfl, B1.out⟩
  have l0 : f.length ≤ 7 := by omega
  have L0 : f.length ≤ 4096 := by omega
  go_enter Try.func3, Try.ntmps3
  go_wp2_with fail
  refine (law_Low p p1 p2 _).mono ?_
  rintro e w1 ⟨q, rfl, hq, hb1⟩
  have B1 := hidP (step_below B0.out hb1)
  clear hb1
  have HQ := hidP hq
  clear hq
  by_cases hz : nf q f = []
  · skip
    have HZ := hidP hz
    clear hz
    go_wp2_with fail
    refine (zero_Factor (Ha.out _ B1.out) (by omega) HQ.out.1 HZ.out).mono ?_
    rintro e w2 ⟨rfl, hb2⟩
    have B2 := hidP (step_below B1.out hb2)
    clear hb2
    go_wp2_with fail
    refine (ref_Factor0 (Ha.out _ B2.out) (by omega) HQ.out.1 HZ.out).mono ?_
    rintro e w3 ⟨rfl, hb3⟩
    have B3 := hidP (step_below B2.out hb3)
    clear hb3
    go_wp2_with fail
    refine (C0.out _).mono ?_
    rintro e w4 ⟨rfl, hb4⟩
    have B4 := hidP (step_below B3.out hb4)
    clear hb4
    have HN : Hid (∀ w1, Calls Try.prog 10 #[.slice none 0 0, .slice none 0 0] w1 fun e w' => e = .returned (.bool true) ∧ Below w1.heap.size w1 w') := fun w1 => same_listsL (SeesL.nil w1) (SeesL.nil w1) (decide_eq_true rfl)
    go_wp2_with fail
    refine (HN.out _).mono ?_
    rintro e w5 ⟨rfl, hb5⟩
    have B5 := hidP (step_below B4.out hb5)
    clear hb5
    go_wp2_with fail
    go_ret
    exact ⟨rfl, B5.out⟩
  · skip
    have HZ := hidP hz
    clear hz
    go_wp2_with fail
    refine (mod_Factor (Ha.out _ B1.out) (Hd.out _ B1.out) (by omega) HQ.out.1 HZ.out).mono ?_
    rintro e w2 ⟨v1, L1, rfl, hv1, hf1, hs1, hb2⟩
    have B2 := hidP (step_below B1.out hb2)
    clear hb2
    have S1 := hidP hv1
    clear hv1
    have HF1 := hidP hf1
    clear hf1
    have HS1 := hidP hs1
    clear hs1
    go_wp2_with fail
    refine (ref_Factor (Ha.out _ B2.out) (by omega) HQ.out.1 HQ.out.2 HZ.out).mono ?_
    rintro e w3 ⟨v2, L2, rfl, hv2, hf2, hs2, hb3⟩
    have B3 := hidP (step_below B2.out hb3)
    replace S1 := hidP (S1.out.below hb3)
    clear hb3
    have S2 := hidP hv2
    clear hv2
    have HF2 := hidP hf2
    clear hf2
    have HS2 := hidP hs2
    clear hs2
    go_wp2_with fail
    refine (C0.out _).mono ?_
    rintro e w4 ⟨rfl, hb4⟩
    have B4 := hidP (step_below B3.out hb4)
    replace S1 := hidP (S1.out.below hb4)
    replace S2 := hidP (S2.out.below hb4)
    clear hb4
    have HEq : Hid (L1 = L2) := HF1.out.unique HQ.out.1 HF2.out (E.refl q _) HS1.out HS2.out
    go_wp2_with fail
    refine (same_listsL S1.out S2.out (r := true) (decide_eq_true HEq.out)).mono ?_
    rintro e w5 ⟨rfl, hb5⟩
    have B5 := hidP (step_below B4.out hb5)
    replace S1 := hidP (S1.out.below hb5)
    replace S2 := hidP (S2.out.below hb5)
    clear hb5
    go_wp2_with fail
    go_ret
    exact ⟨rfl, B5.out⟩

/-! ### The row's step -/
set_option maxRecDepth 100000 in
theorem contract (H : Type) (enc : TypeId × Value → H) (W : World) (base : Nat) (args : Array Value) (ds gs : List (DataW H)) (before : List MemPlace)
    (hval0 : ∀ (j : Nat) t v, Try.f3.params[j]? = some t → args[j]? = some v → Value.okWide Try.prog W .any base t v)
    (hW : DataW.Whole enc Try.prog Try.f3.params.toList Rows.splitFactorsSpec.vars false W args.toList ds gs before)
    (hsz0 : (DataW.weightsEach Try.prog (Try.f3.params.toList ++ Rows.splitFactorsSpec.plain.varTypes Try.prog) (ds ++ gs)).all (· ≤ reachBytes) = true) :
    Calls Try.prog 3 args W fun e W' => ∃ v, e = .returned v ∧ Rows.splitFactorsSpec.post enc Try.prog Try.f3 false true false false W args v W' := by
  have hW' := hW
  obtain ⟨p, q, hA0, hV, rfl, hfz, hnd⟩ := hW
  have hA : DataW.TrodAll enc Try.prog W 0 (fun _ => true) true Try.f3.params.toList args.toList ds p := hA0
  have hval : ∀ (j : Nat) t v, Try.f3.params[j]? = some t → args[j]? = some v → Value.okWide Try.prog W .any base t v := hval0
  have hsz : (DataW.weightsEach Try.prog (Try.f3.params.toList ++ []) (ds ++ gs)).all (· ≤ reachBytes) = true := hsz0
  rw [Try.params3] at hA hval hsz
  obtain ⟨v0, vs0, d0, ds0, p0, q0, hargs, rfl, rfl, h0, r0⟩ := trodAll_cons hA
  obtain ⟨v1, vs1, d1, ds1, p1, q1, rfl, rfl, rfl, h1, r1⟩ := trodAll_cons r0
  obtain ⟨v2, vs2, d2, ds2, p2, q2, rfl, rfl, rfl, h2, r2⟩ := trodAll_cons r1
  obtain ⟨rfl, rfl, rfl⟩ := trodAll_nil r2
  obtain rfl : args = #[v0, v1, v2] := by cases args; simp_all
  obtain ⟨rfl, rfl⟩ := trodVars_none hV
  obtain ⟨l0, s0⟩ := open_il (hval 0 22 v0 rfl rfl) h0 (fun elems spare e => by subst e; exact sized_slice hsz (j := 0) (t := 22) (e := 3) rfl rfl Try.underlying22)
  have k1 := h1
  obtain ⟨n1, rfl, rfl, rfl, wn1⟩ := open_int Try.underlying3 (hval 1 3 v1 rfl rfl) h1
  obtain ⟨l2, s2⟩ := open_il (hval 2 22 v2 rfl rfl) h2 (fun elems spare e => by subst e; exact sized_slice hsz (j := 2) (t := 22) (e := 3) rfl rfl Try.underlying22)
  refine (walk s0 wn1 s2).mono fun e W' ⟨he, hb⟩ => ?_
  subst he
  exact ⟨_, rfl, _, _, _, _, _, _, hW', trodAll_cons_mk (shut_bool Try.underlying4 _) trodAll_mk0, trodAll_cons_mk (Below.trod laidOut (by kernel_rfl) (of_decide_eq_true (by kernel_rfl)) h0 hb (fun x hx => by first | cases hx; done | (have := hW'.lt x (by simp [hx]); simpa using this))) (trodAll_cons_mk (Below.trod laidOut (by kernel_rfl) (of_decide_eq_true (by kernel_rfl)) k1 hb (fun x hx => by first | cases hx; done | (have := hW'.lt x (by simp [hx]); simpa using this))) (trodAll_cons_mk (Below.trod laidOut (by kernel_rfl) (of_decide_eq_true (by kernel_rfl)) h2 hb (fun x hx => by first | cases hx; done | (have := hW'.lt x (by simp [hx]); simpa using this))) (trodAll_mk0))), rfl, hb.frame _, fun h => by cases h⟩

set_option maxRecDepth 100000 in
theorem lifted (os : Os) (started : os.Started) (H : Type) (enc : TypeId × Value → H) :
    ReturnsInHanded {} Try.checked os 3 .any (Rows.splitFactorsSpec.pre6 enc Try.prog Try.f3 Rows.splitFactorsRow.domain false) (Rows.splitFactorsSpec.post enc Try.prog Try.f3 false true false false) := by
  refine returnsInHanded_of_change_shaped (C := Try.checked) own started (by kernel_rfl) Try.func3
    (ChangeSpec.witness6 (enc := enc) (C := Try.checked) false ⟨#[], #[.slice none 0 0, .int .i64 0, .slice none 0 0], []⟩ 8 (by kernel_rfl) (by kernel_rfl) (by kernel_rfl) (by kernel_rfl)) ?_
  intro W base args ds gs before hval0 hW _ hsz _ _
  exact contract H enc W base args ds gs before hval0 hW hsz

theorem holds : Rows.SplitFactorsSaid :=
  OpenClaim.holds_of_wide 3 Try.f3 rfl rfl rfl rfl rfl rfl rfl ⟨rfl, rfl, rfl, rfl, rfl⟩ rfl rfl rfl rfl rfl (by kernel_rfl) Try.func3 (by kernel_rfl)
    (of_decide_eq_true (by kernel_rfl)) (by unfold Func.isWrapper; first | (rw [if_pos (by decide +kernel)]; kernel_rfl) | (rw [if_neg (by decide +kernel)]; exact ⟨rfl, rfl⟩))
    (fun os started H enc _ => lifted os started H enc)
end Go.Proofs.Ytokdcgmjpnanoaa.splitFactors
