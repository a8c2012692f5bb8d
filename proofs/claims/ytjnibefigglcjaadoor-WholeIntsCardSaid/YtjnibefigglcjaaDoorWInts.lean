/- primroselaw02.WholeInts answers true for every int and every whole number that may be in memory: whole.Of and whole.Small tell what the document's reference tells. No condition beyond the row's own (the listed tables of the library are as its text lays them). -/
import Derived.Test.YtjnibefigglcjaaDoorZ10
set_option linter.unusedVariables false
set_option linter.unusedSimpArgs false
namespace Go.Proofs.YtjnibefigglcjaaDoor.wholeInts
open Go.ChangeShapes Go.WideShapes Go.ChangeAt Go.RowKit

set_option maxRecDepth 100000 in
set_option maxHeartbeats 4000000 in
theorem walk (i : Int) (wi : (Lit.int .i64 i).wf = true) {va : Value} {n : Bool} {la : List Nat} {w : World} (hA : SeesZ w va n la) (hla : la.length ≤ 35184372087808) :
    Calls Tryd.prog 8 #[.int .i64 i, va] w fun e w' => e = .returned (.bool true) ∧ Below w.heap.size w w' := by
  have hi1 : -9223372036854775808 ≤ i ∧ i < 9223372036854775808 := by
    simp [Lit.wf, IntKind.min, IntKind.max, IntKind.signed, IntKind.bits] at wi
    omega
  have HI := hid hi1
  have HOF := hid (fun w => whole_of i hi1.1 hi1.2 w); have HOR := hid (fun w => ref_ofZ i hi1.1 hi1.2 w)
  clear hi1 wi
  obtain ⟨mA, rfl, hA⟩ := hA
  have HA := hid hA
  obtain ⟨aA, cA, rfl, -, -, -, -, -⟩ := hA
  obtain ⟨w0, gA, hw0, b0, eA, xA⟩ := one_box w (.bool n) (.slice aA la.length cA) 34
  have HW0 := hid hw0.symm; have HBel := hid b0
  have GA : Hid (w.heap.size ≤ gA) := by show w.heap.size ≤ gA; omega
  have EA := hid eA.symm
  have XA := hid xA
  replace HA : Hid (SeesZ w0 (.agg #[.bool n, .slice aA la.length cA]) n la) := ⟨_, rfl, HA.out.below b0⟩
  clear hw0 b0 eA xA
  go_enter Tryd.func8, Tryd.ntmps8
  go_wp2_with fail
  rw [HW0.out, EA.out]
  clear HW0 EA
  skip
  refine (whole_small HA.out).mono ?_
  rintro e w1 ⟨rfl, hb⟩
  have HBx := hid (step_below HBel.out hb)
  clear HBel
  have HBel := HBx
  clear HBx
  replace HA := hid (HA.out.below hb)
  replace XA := hid (XA.out.below hb)
  clear hb
  obtain ⟨XAc0, XAc1, XAf0, XAf1⟩ := XA.out.cells
  go_wp2_with fail
  refine (ref_smallZ HA.out (by omega)).mono ?_
  rintro e w2 ⟨rfl, hb⟩
  clear XAc0 XAc1 XAf0 XAf1
  have HBx := hid (step_below HBel.out hb)
  clear HBel
  have HBel := HBx
  clear HBx
  clear hb
  clear HA XA
  generalize smallI n la = sm at *
  generalize smallB la = sb at *
  go_wp2_with fail
  refine (awakeZ_any _).mono ?_
  rintro e w3 ⟨rfl, hb⟩
  have HBx := hid (step_below HBel.out hb)
  clear HBel
  have HBel := HBx
  clear HBx
  clear hb
  go_wp2_with fail
  refine (HOF.out _).mono ?_
  rintro e w4 ⟨v1, rfl, hz, hb⟩
  have HBx := hid (step_below HBel.out hb)
  clear HBel
  have HBel := HBx
  clear HBx
  clear hb
  have HZ1 := hid hz
  clear hz
  go_wp2_with fail
  refine (HOR.out _).mono ?_
  rintro e w5 ⟨v2, rfl, hz, hb⟩
  have HBx := hid (step_below HBel.out hb)
  clear HBel
  have HBel := HBx
  clear HBx
  replace HZ1 := hid (HZ1.out.below hb)
  clear hb
  have HZ2 := hid hz
  clear hz
  go_wp2_with fail
  refine (law_sameZ HZ1.out.sees HZ2.out.sees).mono ?_
  rintro e w6 ⟨rfl, hb⟩
  have HBx := hid (step_below HBel.out hb)
  clear HBel
  have HBel := HBx
  clear HBx
  clear hb
  clear HZ1 HZ2
  clear HI HOF HOR
  go_wp2
  go_ret
  exact ⟨by simp, HBel.out⟩

/-! ### The row's step and the card -/
set_option maxRecDepth 100000 in
theorem contract (H : Type) (enc : TypeId × Value → H) (W : World) (base : Nat) (args : Array Value) (ds gs : List (DataW H)) (before : List MemPlace)
    (hval0 : ∀ (j : Nat) t v, Tryd.f8.params[j]? = some t → args[j]? = some v → Value.okWide Tryd.prog W .any base t v)
    (hW : DataW.Whole enc Tryd.prog Tryd.f8.params.toList Rows.wholeIntsSpec.vars false W args.toList ds gs before)
    (hsz0 : (DataW.weightsEach Tryd.prog (Tryd.f8.params.toList ++ Rows.wholeIntsSpec.plain.varTypes Tryd.prog) (ds ++ gs)).all (· ≤ reachBytes) = true) :
    Calls Tryd.prog 8 args W fun e W' => ∃ v, e = .returned v ∧ Rows.wholeIntsSpec.post enc Tryd.prog Tryd.f8 false true false false W args v W' := by
  have hW' := hW
  obtain ⟨p, q, hA0, hV, rfl, hfz, hnd⟩ := hW
  have hA : DataW.TrodAll enc Tryd.prog W 0 (fun _ => true) true Tryd.f8.params.toList args.toList ds p := hA0
  have hval : ∀ (j : Nat) t v, Tryd.f8.params[j]? = some t → args[j]? = some v → Value.okWide Tryd.prog W .any base t v := hval0
  have hsz : (DataW.weightsEach Tryd.prog (Tryd.f8.params.toList ++ []) (ds ++ gs)).all (· ≤ reachBytes) = true := hsz0
  rw [Tryd.params8] at hA hval hsz
  obtain ⟨v0, vs0, d0, ds0, p0, q0, hargs, rfl, rfl, h0, r0⟩ := trodAll_cons hA
  obtain ⟨v1, vs1, d1, ds1, p1, q1, rfl, rfl, rfl, h1, r1⟩ := trodAll_cons r0
  obtain ⟨rfl, rfl, rfl⟩ := trodAll_nil r1
  obtain rfl : args = #[v0, v1] := by cases args; simp_all
  obtain ⟨rfl, rfl⟩ := trodVars_none hV
  have k0 := h0
  obtain ⟨n0, rfl, rfl, rfl, wn0⟩ := open_int Tryd.underlying3 (hval 0 3 v0 rfl rfl) h0
  obtain ⟨g1, l1, s1, b1⟩ := open_z (hval 1 34 v1 rfl rfl) h1 (fun parts e => by subst e; exact sized_part hsz (j := 1) (t := 34) rfl rfl)
  refine (walk n0 wn0 s1 b1).mono fun e W' ⟨he, hb⟩ => ?_
  subst he
  exact ⟨_, rfl, _, _, _, _, _, _, hW', trodAll_cons_mk (shut_bool Tryd.underlying4 _) trodAll_mk0, trodAll_cons_mk (Below.trod laidOut (by kernel_rfl) (of_decide_eq_true (by kernel_rfl)) k0 hb (fun x hx => by first | cases hx; done | (have := hW'.lt x (by simp [hx]); simpa using this))) (trodAll_cons_mk (Below.trod laidOut (by kernel_rfl) (of_decide_eq_true (by kernel_rfl)) h1 hb (fun x hx => by first | cases hx; done | (have := hW'.lt x (by simp [hx]); simpa using this))) (trodAll_mk0)), rfl, hb.frame _, fun h => by cases h⟩

set_option maxRecDepth 100000 in
theorem lifted (os : Os) (started : os.Started) (H : Type) (enc : TypeId × Value → H) :
    ReturnsInHanded {} Tryd.checked os 8 .any (fun w args => (Rows.wholeIntsSpec.pre enc Tryd.prog Tryd.f8 [] false w args ∧ laidMetH Tryd.prog laidList w) ∧ sizedMet enc Tryd.prog Tryd.f8 (OpenSpec.ofChange Rows.wholeIntsSpec) false w args)
      (Rows.wholeIntsSpec.post enc Tryd.prog Tryd.f8 false true false false) := by
  refine returnsInHanded_of_change_and (C := Tryd.checked) (X := fun w _ => laidMetH Tryd.prog laidList w) (fun _ _ _ hh h => h.of_heap hh) own started (by kernel_rfl) Tryd.func8
    (ChangeSpec.witness_shaped (enc := enc) (C := Tryd.checked) (os := os) (X := fun w _ => laidMetH Tryd.prog laidList w) false (World.laidAll Tryd.prog os laidList) #[.int .i64 0, .agg #[.bool false, .slice none 0 0]] 8 (World.laidAll_os _ _ _)
      (World.shaped_of_ZipB (by kernel_rfl) (by kernel_rfl)) (by kernel_rfl) (by kernel_rfl) (by kernel_rfl) (laid_met os _)) ?_
  intro W base args ds gs before hval0 hW _ hsz _ _
  exact contract H enc W base args ds gs before hval0 hW hsz

theorem said : Rows.WholeIntsSaid :=
  OpenClaim.holds_of_wide 8 Tryd.f8 rfl rfl rfl rfl rfl rfl rfl ⟨rfl, rfl, rfl, rfl, rfl⟩ rfl rfl rfl rfl rfl (by kernel_rfl) Tryd.func8 (by kernel_rfl)
    (of_decide_eq_true (by kernel_rfl)) (by unfold Func.isWrapper; first | (rw [if_pos (by decide +kernel)]; kernel_rfl) | (rw [if_neg (by decide +kernel)]; exact ⟨rfl, rfl⟩))
    (fun os started H enc _ => lifted os started H enc)

theorem plain (f : FuncId) (fn : Func) (hf : Tryd.pinned.checked.prog.funcNamed "primrose/primroselaw02.WholeInts" = some f) (hfn : Tryd.pinned.checked.prog.funcs[f]? = some fn) :
    false = Tryd.pinned.checked.prog.looks [] ∧ ∀ (j : Nat) t, fn.params[j]? = some t → Tryd.pinned.checked.prog.wantsStandIn t = false := by
  obtain rfl : f = 8 := Option.some.inj ((show Tryd.prog.funcNamed "primrose/primroselaw02.WholeInts" = some 8 by kernel_rfl).symm.trans hf) |>.symm
  obtain rfl : fn = Tryd.f8 := (Option.some.inj (Tryd.func8.symm.trans hfn)).symm
  refine ⟨by kernel_rfl, fun j t ht => ?_⟩
  rw [Tryd.params8] at ht
  have hm : t ∈ [3, 34] := by simpa using Array.mem_of_getElem? ht
  have hall : ([3, 34].all fun u => !Tryd.prog.wantsStandIn u) = true := by kernel_rfl
  exact (show Tryd.prog.wantsStandIn t = false by simpa using List.all_eq_true.1 hall t hm)

/-- THE CARD. -/
theorem card : Rows.WholeIntsCardSaid :=
  Claim7.holds_tied_plain_at .later [] _ _ _ _ said (fun _ h => by cases h) (by kernel_rfl) (fun _ h => by cases h) wholeInts_row_tie rfl ⟨rfl, rfl⟩ (by kernel_rfl) rfl plain (by kernel_rfl)
end Go.Proofs.YtjnibefigglcjaaDoor.wholeInts
