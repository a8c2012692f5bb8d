/- primroselaw01.NatDivides answers true for every two lists of limbs that may be in memory: nat.DivMod tells the quotient and the rest that the document's reference tells, or none for a divisor of 0 (of the first 60 limbs of each). No condition beyond the row's own (the listed tables of the library are as its text lays them). -/
import Derived.Test.YtjnibefigglcjaaDoorVal
import Derived.Test.YtjnibefigglcjaaDoorRefText
import Derived.Test.YtjnibefigglcjaaDoorDivMod
import Derived.Test.YtjnibefigglcjaaDoorRefDiv
set_option linter.unusedVariables false
set_option linter.unusedSimpArgs false
namespace Go.Proofs.YtjnibefigglcjaaDoor.natDivides
open Go.ChangeShapes Go.WideShapes Go.ChangeAt Go.RowKit

set_option maxRecDepth 100000 in
set_option maxHeartbeats 8000000 in
theorem walk_zero {va vb : Value} {la lb : List Nat} {w : World} (ha : Sees w va la) (hla : la.length ≤ 35184372087808) (hb0 : Sees w vb lb) (hlb : lb.length ≤ 35184372087808) (hcd : val (lb.take 60) = 0) :
    Calls Tryd.prog 3 #[va, vb] w fun e w' => e = .returned (.bool true) ∧ Below w.heap.size w w' := by
  have HA := hid ha; have HB := hid hb0; have HCD := hid hcd
  clear ha hb0 hcd
  go_enter Tryd.func3, Tryd.ntmps3
  have hka : (la.take 60).length ≤ 60 := by simp; omega
  go_wp2_with fail
  refine (law_short va la 60 _ HA.out (by omega)).mono ?_
  rintro e w' ⟨⟨sa, rfl, hs⟩, rfl⟩
  obtain ⟨pa, hp⟩ : ∃ p, p = la.take 60 := ⟨_, rfl⟩
  rw [← hp] at hs hka
  clear HA hp
  have HA := hid hs
  clear hs
  have hkb : (lb.take 60).length ≤ 60 := by simp; omega
  go_wp2_with fail
  refine (law_short vb lb 60 _ HB.out (by omega)).mono ?_
  rintro e w' ⟨⟨sb, rfl, hs⟩, rfl⟩
  obtain ⟨pb, hp⟩ : ∃ p, p = lb.take 60 := ⟨_, rfl⟩
  rw [← hp] at hs hkb HCD
  clear HB hp
  have HB := hid hs
  clear hs
  clear hla hlb
  go_wp2_with fail
  refine (nat_divmod0' HA.out HB.out HCD.out).mono ?_
  rintro e w' ⟨rfl, rfl⟩
  go_wp2_with fail
  refine (ref_div_zero HA.out HB.out (by omega) (by omega) HCD.out).mono ?_
  rintro e w1 ⟨rfl, hb⟩
  have HBx := hid (hb)
  have HBel := HBx
  clear HBx
  replace HA := hid (HA.out.below hb)
  replace HB := hid (HB.out.below hb)
  clear hb
  go_wp2_with fail
  refine (awake_any _).mono ?_
  rintro e w2 ⟨rfl, hb⟩
  have HBx := hid (step_below HBel.out hb)
  clear HBel
  have HBel := HBx
  clear HBx
  replace HA := hid (HA.out.below hb)
  replace HB := hid (HB.out.below hb)
  clear hb
  go_wp2_with fail
  refine (law_same _ _ [] _ (Sees.nil _) (Sees.nil _)).mono ?_
  rintro e w3 ⟨rfl, hb⟩
  have HBx := hid (step_below HBel.out hb)
  clear HBel
  have HBel := HBx
  clear HBx
  replace HA := hid (HA.out.below hb)
  replace HB := hid (HB.out.below hb)
  clear hb
  go_wp2_with fail
  refine (law_same _ _ [] _ (Sees.nil _) (Sees.nil _)).mono ?_
  rintro e w4 ⟨rfl, hb⟩
  have HBx := hid (step_below HBel.out hb)
  clear HBel
  have HBel := HBx
  clear HBx
  replace HA := hid (HA.out.below hb)
  replace HB := hid (HB.out.below hb)
  clear hb
  go_wp2
  go_ret
  exact ⟨rfl, HBel.out⟩

set_option maxRecDepth 100000 in
set_option maxHeartbeats 8000000 in
theorem walk_pos {va vb : Value} {la lb : List Nat} {w : World} (ha : Sees w va la) (hla : la.length ≤ 35184372087808) (hb0 : Sees w vb lb) (hlb : lb.length ≤ 35184372087808) (hcd : 0 < val (lb.take 60)) :
    Calls Tryd.prog 3 #[va, vb] w fun e w' => e = .returned (.bool true) ∧ Below w.heap.size w w' := by
  have HA := hid ha; have HB := hid hb0; have HCD := hid hcd
  clear ha hb0 hcd
  go_enter Tryd.func3, Tryd.ntmps3
  have hka : (la.take 60).length ≤ 60 := by simp; omega
  go_wp2_with fail
  refine (law_short va la 60 _ HA.out (by omega)).mono ?_
  rintro e w' ⟨⟨sa, rfl, hs⟩, rfl⟩
  obtain ⟨pa, hp⟩ : ∃ p, p = la.take 60 := ⟨_, rfl⟩
  rw [← hp] at hs hka
  clear HA hp
  have HA := hid hs
  clear hs
  have hkb : (lb.take 60).length ≤ 60 := by simp; omega
  go_wp2_with fail
  refine (law_short vb lb 60 _ HB.out (by omega)).mono ?_
  rintro e w' ⟨⟨sb, rfl, hs⟩, rfl⟩
  obtain ⟨pb, hp⟩ : ∃ p, p = lb.take 60 := ⟨_, rfl⟩
  rw [← hp] at hs hkb HCD
  clear HB hp
  have HB := hid hs
  clear hs
  clear hla hlb
  go_wp2_with fail
  refine (nat_divmod' HA.out HB.out (by omega) HCD.out).mono ?_
  rintro e w1 ⟨vq, vr, rfl, hs, hs2, hb⟩
  have HBx := hid (hb)
  have HBel := HBx
  clear HBx
  replace HA := hid (HA.out.below hb)
  replace HB := hid (HB.out.below hb)
  clear hb
  have HQ := hid hs
  clear hs
  have HR := hid hs2
  clear hs2
  go_wp2_with fail
  refine (ref_div_pos HA.out HB.out (by omega) (by omega) HCD.out).mono ?_
  rintro e w2 ⟨vs, vt, rfl, hs, hs2, hb⟩
  have HBx := hid (step_below HBel.out hb)
  clear HBel
  have HBel := HBx
  clear HBx
  replace HA := hid (HA.out.below hb)
  replace HB := hid (HB.out.below hb)
  replace HQ := hid (HQ.out.below hb)
  replace HR := hid (HR.out.below hb)
  clear hb
  have HS := hid hs
  clear hs
  have HT := hid hs2
  clear hs2
  go_wp2_with fail
  refine (awake_any _).mono ?_
  rintro e w3 ⟨rfl, hb⟩
  have HBx := hid (step_below HBel.out hb)
  clear HBel
  have HBel := HBx
  clear HBx
  replace HA := hid (HA.out.below hb)
  replace HB := hid (HB.out.below hb)
  replace HQ := hid (HQ.out.below hb)
  replace HR := hid (HR.out.below hb)
  replace HS := hid (HS.out.below hb)
  replace HT := hid (HT.out.below hb)
  clear hb
  go_wp2_with fail
  refine (law_same _ _ _ _ HQ.out HS.out).mono ?_
  rintro e w4 ⟨rfl, hb⟩
  have HBx := hid (step_below HBel.out hb)
  clear HBel
  have HBel := HBx
  clear HBx
  replace HA := hid (HA.out.below hb)
  replace HB := hid (HB.out.below hb)
  replace HR := hid (HR.out.below hb)
  replace HT := hid (HT.out.below hb)
  clear hb
  clear HQ HS
  go_wp2_with fail
  refine (law_same _ _ _ _ HR.out HT.out).mono ?_
  rintro e w5 ⟨rfl, hb⟩
  have HBx := hid (step_below HBel.out hb)
  clear HBel
  have HBel := HBx
  clear HBx
  replace HA := hid (HA.out.below hb)
  replace HB := hid (HB.out.below hb)
  clear hb
  clear HR HT
  go_wp2
  go_ret
  exact ⟨rfl, HBel.out⟩

theorem walk {va vb : Value} {la lb : List Nat} {w : World} (ha : Sees w va la) (hla : la.length ≤ 35184372087808) (hb0 : Sees w vb lb) (hlb : lb.length ≤ 35184372087808) :
    Calls Tryd.prog 3 #[va, vb] w fun e w' => e = .returned (.bool true) ∧ Below w.heap.size w w' := by
  rcases Nat.eq_zero_or_pos (val (lb.take 60)) with h | h
  · exact walk_zero ha hla hb0 hlb h
  · exact walk_pos ha hla hb0 hlb h

/-! ### The row's step and the card -/
set_option maxRecDepth 100000 in
theorem contract (H : Type) (enc : TypeId × Value → H) (W : World) (base : Nat) (args : Array Value) (ds gs : List (DataW H)) (before : List MemPlace)
    (hval0 : ∀ (j : Nat) t v, Tryd.f3.params[j]? = some t → args[j]? = some v → Value.okWide Tryd.prog W .any base t v)
    (hW : DataW.Whole enc Tryd.prog Tryd.f3.params.toList Rows.natDividesSpec.vars false W args.toList ds gs before)
    (hsz0 : (DataW.weightsEach Tryd.prog (Tryd.f3.params.toList ++ Rows.natDividesSpec.plain.varTypes Tryd.prog) (ds ++ gs)).all (· ≤ reachBytes) = true) :
    Calls Tryd.prog 3 args W fun e W' => ∃ v, e = .returned v ∧ Rows.natDividesSpec.post enc Tryd.prog Tryd.f3 false true false false W args v W' := by
  have hW' := hW
  obtain ⟨p, q, hA0, hV, rfl, hfz, hnd⟩ := hW
  have hA : DataW.TrodAll enc Tryd.prog W 0 (fun _ => true) true Tryd.f3.params.toList args.toList ds p := hA0
  have hval : ∀ (j : Nat) t v, Tryd.f3.params[j]? = some t → args[j]? = some v → Value.okWide Tryd.prog W .any base t v := hval0
  have hsz : (DataW.weightsEach Tryd.prog (Tryd.f3.params.toList ++ []) (ds ++ gs)).all (· ≤ reachBytes) = true := hsz0
  rw [Tryd.params3] at hA hval hsz
  obtain ⟨v0, vs0, d0, ds0, p0, q0, hargs, rfl, rfl, h0, r0⟩ := trodAll_cons hA
  obtain ⟨v1, vs1, d1, ds1, p1, q1, rfl, rfl, rfl, h1, r1⟩ := trodAll_cons r0
  obtain ⟨rfl, rfl, rfl⟩ := trodAll_nil r1
  obtain rfl : args = #[v0, v1] := by cases args; simp_all
  obtain ⟨rfl, rfl⟩ := trodVars_none hV
  obtain ⟨l0, s0, b0⟩ := open_limbs (hval 0 22 v0 rfl rfl) h0 (fun elems spare e => by subst e; exact sized_slice hsz (j := 0) (t := 22) (e := 57) rfl rfl Tryd.underlying22)
  obtain ⟨l1, s1, b1⟩ := open_limbs (hval 1 22 v1 rfl rfl) h1 (fun elems spare e => by subst e; exact sized_slice hsz (j := 1) (t := 22) (e := 57) rfl rfl Tryd.underlying22)
  refine (walk s0 b0 s1 b1).mono fun e W' ⟨he, hb⟩ => ?_
  subst he
  exact ⟨_, rfl, _, _, _, _, _, _, hW', trodAll_cons_mk (shut_bool Tryd.underlying4 _) trodAll_mk0, trodAll_cons_mk (Below.trod laidOut (by kernel_rfl) (of_decide_eq_true (by kernel_rfl)) h0 hb (fun x hx => by first | cases hx; done | (have := hW'.lt x (by simp [hx]); simpa using this))) (trodAll_cons_mk (Below.trod laidOut (by kernel_rfl) (of_decide_eq_true (by kernel_rfl)) h1 hb (fun x hx => by first | cases hx; done | (have := hW'.lt x (by simp [hx]); simpa using this))) (trodAll_mk0)), rfl, hb.frame _, fun h => by cases h⟩

set_option maxRecDepth 100000 in
theorem lifted (os : Os) (started : os.Started) (H : Type) (enc : TypeId × Value → H) :
    ReturnsInHanded {} Tryd.checked os 3 .any (fun w args => (Rows.natDividesSpec.pre enc Tryd.prog Tryd.f3 [] false w args ∧ laidMetH Tryd.prog laidList w) ∧ sizedMet enc Tryd.prog Tryd.f3 (OpenSpec.ofChange Rows.natDividesSpec) false w args)
      (Rows.natDividesSpec.post enc Tryd.prog Tryd.f3 false true false false) := by
  refine returnsInHanded_of_change_and (C := Tryd.checked) (X := fun w _ => laidMetH Tryd.prog laidList w) (fun _ _ _ hh h => h.of_heap hh) own started (by kernel_rfl) Tryd.func3
    (ChangeSpec.witness_shaped (enc := enc) (C := Tryd.checked) (os := os) (X := fun w _ => laidMetH Tryd.prog laidList w) false (World.laidAll Tryd.prog os laidList) #[.slice none 0 0, .slice none 0 0] 8 (World.laidAll_os _ _ _)
      (World.shaped_of_ZipB (by kernel_rfl) (by kernel_rfl)) (by kernel_rfl) (by kernel_rfl) (by kernel_rfl) (laid_met os _)) ?_
  intro W base args ds gs before hval0 hW _ hsz _ _
  exact contract H enc W base args ds gs before hval0 hW hsz

theorem said : Rows.NatDividesSaid :=
  OpenClaim.holds_of_wide 3 Tryd.f3 rfl rfl rfl rfl rfl rfl rfl ⟨rfl, rfl, rfl, rfl, rfl⟩ rfl rfl rfl rfl rfl (by kernel_rfl) Tryd.func3 (by kernel_rfl)
    (of_decide_eq_true (by kernel_rfl)) (by unfold Func.isWrapper; first | (rw [if_pos (by decide +kernel)]; kernel_rfl) | (rw [if_neg (by decide +kernel)]; exact ⟨rfl, rfl⟩))
    (fun os started H enc _ => lifted os started H enc)

theorem plain (f : FuncId) (fn : Func) (hf : Tryd.pinned.checked.prog.funcNamed "primrose/primroselaw01.NatDivides" = some f) (hfn : Tryd.pinned.checked.prog.funcs[f]? = some fn) :
    false = Tryd.pinned.checked.prog.looks [] ∧ ∀ (j : Nat) t, fn.params[j]? = some t → Tryd.pinned.checked.prog.wantsStandIn t = false := by
  obtain rfl : f = 3 := Option.some.inj ((show Tryd.prog.funcNamed "primrose/primroselaw01.NatDivides" = some 3 by kernel_rfl).symm.trans hf) |>.symm
  obtain rfl : fn = Tryd.f3 := (Option.some.inj (Tryd.func3.symm.trans hfn)).symm
  refine ⟨by kernel_rfl, fun j t ht => ?_⟩
  rw [Tryd.params3] at ht
  have hm : t ∈ [22, 22] := by simpa using Array.mem_of_getElem? ht
  have hall : ([22, 22].all fun u => !Tryd.prog.wantsStandIn u) = true := by kernel_rfl
  exact (show Tryd.prog.wantsStandIn t = false by simpa using List.all_eq_true.1 hall t hm)

/-- THE CARD. -/
theorem card : Rows.NatDividesCardSaid :=
  Claim7.holds_tied_plain_at .later [] _ _ _ _ said (fun _ h => by cases h) (by kernel_rfl) (fun _ h => by cases h) natDivides_row_tie rfl ⟨rfl, rfl⟩ (by kernel_rfl) rfl plain (by kernel_rfl)
end Go.Proofs.YtjnibefigglcjaaDoor.natDivides
