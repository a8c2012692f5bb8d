/- primroselaw02.WholeTexts answers true for every whole number that may be in memory: whole.Text tells the text that the document's reference tells (of the first 60 limbs). No condition beyond the row's own (the listed tables of the library are as its text lays them). -/
import Derived.Test.YtjnibefigglcjaaDoorZ8
set_option linter.unusedVariables false
set_option linter.unusedSimpArgs false
namespace Go.Proofs.YtjnibefigglcjaaDoor.wholeTexts
open Go.ChangeShapes Go.WideShapes Go.ChangeAt Go.RowKit

set_option maxRecDepth 100000 in
set_option maxHeartbeats 4000000 in
theorem walk {va : Value} {n : Bool} {la : List Nat} {w : World} (hA : SeesZ w va n la) (hla : la.length ≤ 35184372087808) :
    Calls Tryd.prog 10 #[va] w fun e w' => e = .returned (.bool true) ∧ Below w.heap.size w w' := by
  obtain ⟨mA, rfl, hA⟩ := hA
  have HA := hid hA
  obtain ⟨aA, cA, rfl, -, -, -, -, -⟩ := hA
  obtain ⟨w0, gA, hw0, b0, eA, xA⟩ := one_box w (.bool n) (.slice aA la.length cA) 34
  have HW0 := hid hw0.symm; have HBel := hid b0
  have GA : Hid (w.heap.size ≤ gA) := by show w.heap.size ≤ gA; omega
  have EA := hid eA.symm
  have XA := hid xA
  replace HA : Hid (SeesZ w0 (.agg #[.bool n, .slice aA la.length cA]) n la) := ⟨_, rfl, HA.out.below b0⟩
  clear hw0 b0 eA xA
  go_enter Tryd.func10, Tryd.ntmps10
  have hkA : (la.take 60).length ≤ 60 := by simp; omega
  go_wp2_with fail
  rw [HW0.out, EA.out]
  clear HW0 EA
  refine (law_shortZ 60 HA.out (by omega)).mono ?_
  rintro e w1 ⟨⟨sA, rfl, hs⟩, hb⟩
  have HBx := hid (step_below HBel.out hb)
  clear HBel
  have HBel := HBx
  clear HBx
  replace XA := hid (XA.out.below hb)
  obtain ⟨pA, hpA⟩ : ∃ p, p = la.take 60 := ⟨_, rfl⟩
  rw [← hpA] at hs hkA
  have HPA := hid hpA
  clear hpA HA hb
  obtain ⟨bA, dA, rfl⟩ := hs.form
  obtain ⟨yA, hyA⟩ : ∃ y, y = (w1.setCell ⟨gA, 0, none⟩ (.bool n)).setCell ⟨gA, 1, none⟩ (.slice bA pA.length dA) := ⟨_, rfl⟩
  have HA : Hid (SeesZ yA (.agg #[.bool n, .slice bA pA.length dA]) n pA) := by rw [hyA]; exact hs.box XA.out _ _
  have XA' : Hid (Box yA gA (.bool n) (.slice bA pA.length dA)) := by rw [hyA]; exact XA.out.set _ _
  replace HBel : Hid (Below w.heap.size w yA) := by rw [hyA]; exact below_box HBel.out GA.out HBel.out.size _ _
  obtain ⟨XAc0, XAc1, XAf0, XAf1⟩ := XA.out.cells
  have hltA := XA.out.lt
  have HYA := hid hyA.symm
  clear hs hyA
  go_wp2_with fail
  rw [HYA.out]
  clear HYA XAc0 XAc1 XAf0 XAf1 hltA
  clear XA
  have XA := XA'
  clear XA'
  obtain ⟨XAc0, XAc1, XAf0, XAf1⟩ := XA.out.cells
  go_region_with (first
    | (go_at_call 25
       refine (awakeZ_any _).mono ?_
       rintro e wx ⟨rfl, hb⟩
       have HBn : Hid (Below w.heap.size w wx) := (by first | exact Below.trans HBel.out (Below.mono hb HBel.out.size) | exact Below.trans HBel.out.drew (Below.mono hb HBel.out.drew.size)); clear HBel; have HBel := HBn; clear HBn
       clear XAc0 XAc1 XAf0 XAf1
       replace HA := hid (SeesZ.below (by exact HA.out) hb)
       replace XA := hid (Box.below (by exact XA.out) hb)
       obtain ⟨XAc0, XAc1, XAf0, XAf1⟩ := XA.out.cells
       clear hb)
    | (go_at_call 46
       refine (whole_text (by exact HA.out) (by omega)).mono ?_
       rintro e wx ⟨rfl, hb⟩
       have HBn : Hid (Below w.heap.size w wx) := (by first | exact Below.trans HBel.out (Below.mono hb HBel.out.size) | exact Below.trans HBel.out.drew (Below.mono hb HBel.out.drew.size)); clear HBel; have HBel := HBn; clear HBn
       clear XAc0 XAc1 XAf0 XAf1
       replace HA := hid (SeesZ.below (by exact HA.out) hb)
       replace XA := hid (Box.below (by exact XA.out) hb)
       obtain ⟨XAc0, XAc1, XAf0, XAf1⟩ := XA.out.cells
       clear hb)
    | (go_at_call 47
       refine (ref_textZ (by exact HA.out) (by omega)).mono ?_
       rintro e wx ⟨rfl, hb⟩
       have HBn : Hid (Below w.heap.size w wx) := (by first | exact Below.trans HBel.out (Below.mono hb HBel.out.size) | exact Below.trans HBel.out.drew (Below.mono hb HBel.out.drew.size)); clear HBel; have HBel := HBn; clear HBn
       clear XAc0 XAc1 XAf0 XAf1
       replace HA := hid (SeesZ.below (by exact HA.out) hb)
       replace XA := hid (Box.below (by exact XA.out) hb)
       obtain ⟨XAc0, XAc1, XAf0, XAf1⟩ := XA.out.cells
       clear hb))
  all_goals
    go_wp2
    go_ret
    exact ⟨rfl, HBel.out⟩

/-! ### The row's step and the card -/
set_option maxRecDepth 100000 in
theorem contract (H : Type) (enc : TypeId × Value → H) (W : World) (base : Nat) (args : Array Value) (ds gs : List (DataW H)) (before : List MemPlace)
    (hval0 : ∀ (j : Nat) t v, Tryd.f10.params[j]? = some t → args[j]? = some v → Value.okWide Tryd.prog W .any base t v)
    (hW : DataW.Whole enc Tryd.prog Tryd.f10.params.toList Rows.wholeTextsSpec.vars false W args.toList ds gs before)
    (hsz0 : (DataW.weightsEach Tryd.prog (Tryd.f10.params.toList ++ Rows.wholeTextsSpec.plain.varTypes Tryd.prog) (ds ++ gs)).all (· ≤ reachBytes) = true) :
    Calls Tryd.prog 10 args W fun e W' => ∃ v, e = .returned v ∧ Rows.wholeTextsSpec.post enc Tryd.prog Tryd.f10 false true false false W args v W' := by
  have hW' := hW
  obtain ⟨p, q, hA0, hV, rfl, hfz, hnd⟩ := hW
  have hA : DataW.TrodAll enc Tryd.prog W 0 (fun _ => true) true Tryd.f10.params.toList args.toList ds p := hA0
  have hval : ∀ (j : Nat) t v, Tryd.f10.params[j]? = some t → args[j]? = some v → Value.okWide Tryd.prog W .any base t v := hval0
  have hsz : (DataW.weightsEach Tryd.prog (Tryd.f10.params.toList ++ []) (ds ++ gs)).all (· ≤ reachBytes) = true := hsz0
  rw [Tryd.params10] at hA hval hsz
  obtain ⟨v0, vs0, d0, ds0, p0, q0, hargs, rfl, rfl, h0, r0⟩ := trodAll_cons hA
  obtain ⟨rfl, rfl, rfl⟩ := trodAll_nil r0
  obtain rfl : args = #[v0] := by cases args; simp_all
  obtain ⟨rfl, rfl⟩ := trodVars_none hV
  obtain ⟨g0, l0, s0, b0⟩ := open_z (hval 0 34 v0 rfl rfl) h0 (fun parts e => by subst e; exact sized_part hsz (j := 0) (t := 34) rfl rfl)
  refine (walk s0 b0).mono fun e W' ⟨he, hb⟩ => ?_
  subst he
  exact ⟨_, rfl, _, _, _, _, _, _, hW', trodAll_cons_mk (shut_bool Tryd.underlying4 _) trodAll_mk0, trodAll_cons_mk (Below.trod laidOut (by kernel_rfl) (of_decide_eq_true (by kernel_rfl)) h0 hb (fun x hx => by first | cases hx; done | (have := hW'.lt x (by simp [hx]); simpa using this))) (trodAll_mk0), rfl, hb.frame _, fun h => by cases h⟩

set_option maxRecDepth 100000 in
theorem lifted (os : Os) (started : os.Started) (H : Type) (enc : TypeId × Value → H) :
    ReturnsInHanded {} Tryd.checked os 10 .any (fun w args => (Rows.wholeTextsSpec.pre enc Tryd.prog Tryd.f10 [] false w args ∧ laidMetH Tryd.prog laidList w) ∧ sizedMet enc Tryd.prog Tryd.f10 (OpenSpec.ofChange Rows.wholeTextsSpec) false w args)
      (Rows.wholeTextsSpec.post enc Tryd.prog Tryd.f10 false true false false) := by
  refine returnsInHanded_of_change_and (C := Tryd.checked) (X := fun w _ => laidMetH Tryd.prog laidList w) (fun _ _ _ hh h => h.of_heap hh) own started (by kernel_rfl) Tryd.func10
    (ChangeSpec.witness_shaped (enc := enc) (C := Tryd.checked) (os := os) (X := fun w _ => laidMetH Tryd.prog laidList w) false (World.laidAll Tryd.prog os laidList) #[.agg #[.bool false, .slice none 0 0]] 8 (World.laidAll_os _ _ _)
      (World.shaped_of_ZipB (by kernel_rfl) (by kernel_rfl)) (by kernel_rfl) (by kernel_rfl) (by kernel_rfl) (laid_met os _)) ?_
  intro W base args ds gs before hval0 hW _ hsz _ _
  exact contract H enc W base args ds gs before hval0 hW hsz

theorem said : Rows.WholeTextsSaid :=
  OpenClaim.holds_of_wide 10 Tryd.f10 rfl rfl rfl rfl rfl rfl rfl ⟨rfl, rfl, rfl, rfl, rfl⟩ rfl rfl rfl rfl rfl (by kernel_rfl) Tryd.func10 (by kernel_rfl)
    (of_decide_eq_true (by kernel_rfl)) (by unfold Func.isWrapper; first | (rw [if_pos (by decide +kernel)]; kernel_rfl) | (rw [if_neg (by decide +kernel)]; exact ⟨rfl, rfl⟩))
    (fun os started H enc _ => lifted os started H enc)

theorem plain (f : FuncId) (fn : Func) (hf : Tryd.pinned.checked.prog.funcNamed "primrose/primroselaw02.WholeTexts" = some f) (hfn : Tryd.pinned.checked.prog.funcs[f]? = some fn) :
    false = Tryd.pinned.checked.prog.looks [] ∧ ∀ (j : Nat) t, fn.params[j]? = some t → Tryd.pinned.checked.prog.wantsStandIn t = false := by
  obtain rfl : f = 10 := Option.some.inj ((show Tryd.prog.funcNamed "primrose/primroselaw02.WholeTexts" = some 10 by kernel_rfl).symm.trans hf) |>.symm
  obtain rfl : fn = Tryd.f10 := (Option.some.inj (Tryd.func10.symm.trans hfn)).symm
  refine ⟨by kernel_rfl, fun j t ht => ?_⟩
  rw [Tryd.params10] at ht
  have hm : t ∈ [34] := by simpa using Array.mem_of_getElem? ht
  have hall : ([34].all fun u => !Tryd.prog.wantsStandIn u) = true := by kernel_rfl
  exact (show Tryd.prog.wantsStandIn t = false by simpa using List.all_eq_true.1 hall t hm)

/-- THE CARD. -/
theorem card : Rows.WholeTextsCardSaid :=
  Claim7.holds_tied_plain_at .later [] _ _ _ _ said (fun _ h => by cases h) (by kernel_rfl) (fun _ h => by cases h) wholeTexts_row_tie rfl ⟨rfl, rfl⟩ (by kernel_rfl) rfl plain (by kernel_rfl)
end Go.Proofs.YtjnibefigglcjaaDoor.wholeTexts
