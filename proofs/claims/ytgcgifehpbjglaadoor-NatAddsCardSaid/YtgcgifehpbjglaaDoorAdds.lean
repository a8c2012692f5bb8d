/- primroselaw01.NatAdds answers true for every two lists of limbs that may be in memory: nat.Add and nat.Sub answer what the document's reference answers. No condition beyond the row's own (the listed tables of the library are as its text lays them). -/
import Derived.Test.YtgcgifehpbjglaaDoorFrame
import Derived.Test.YtgcgifehpbjglaaDoorSub
import Derived.Test.YtgcgifehpbjglaaDoorRef3
set_option linter.unusedVariables false
set_option linter.unusedSimpArgs false
namespace Go.Proofs.YtgcgifehpbjglaaDoor.natAdds
open Go.ChangeShapes Go.WideShapes Go.ChangeAt Go.RowKit

set_option maxHeartbeats 2000000 in
theorem walk_le {va vb : Value} {l m : List Nat} {w : World} (ha : Sees w va l) (hl : l.length ≤ 35184372088000) (hb : Sees w vb m) (hm : m.length ≤ 35184372088000) (hle : val m ≤ val l) :
    Calls Tryd.prog 4 #[va, vb] w fun e w' => e = .returned (.bool true) ∧ Below w.heap.size w w' := by
  have HA := hid ha; have HB := hid hb; have HLE := hid hle
  clear hle
  obtain ⟨a, ca, rfl, -, -, -, -, -⟩ := ha
  obtain ⟨b, cb, rfl, -, -, -, -, -⟩ := hb
  go_enter Tryd.func4, Tryd.ntmps4
  go_wp2_with fail
  refine (nat_sub_ok _ _ _ _ _ _ _ _ _ HA.out HB.out (by omega) HLE.out).mono ?_
  rintro e w1 ⟨v1, rfl, hs1, hb1⟩
  have HB1 := hid hb1; have HA1 := hid (HA.out.below hb1); have HC1 := hid (HB.out.below hb1); have HS1 := hid hs1
  clear hb1 hs1
  go_wp2_with fail
  refine (ref_sub_ok _ _ _ _ _ _ _ HA1.out HC1.out (by omega) HLE.out).mono ?_
  rintro e w2 ⟨v2, rfl, hs2, hb2⟩
  have HB2 := hid (step_below HB1.out hb2); have HA2 := hid (HA1.out.below hb2); have HC2 := hid (HC1.out.below hb2); have HS2 := hid hs2; have HT2 := hid (HS1.out.below hb2)
  clear hb2 hs2 HB1 HA1 HC1 HS1
  go_wp2_with fail
  refine (awake_any _).mono ?_
  rintro e w3 ⟨rfl, hb3⟩
  have HB3 := hid (step_below HB2.out hb3); have HA3 := hid (HA2.out.below hb3); have HC3 := hid (HC2.out.below hb3); have HS3 := hid (HS2.out.below hb3); have HT3 := hid (HT2.out.below hb3)
  clear hb3 HB2 HA2 HC2 HS2 HT2
  go_wp2_with fail
  refine (nat_add _ _ _ _ _ _ _ _ _ HA3.out HC3.out (by omega) (by omega)).mono ?_
  rintro e w4 ⟨v4, rfl, hs4, hb4⟩
  have HB4 := hid (step_below HB3.out hb4); have HA4 := hid (HA3.out.below hb4); have HC4 := hid (HC3.out.below hb4); have HS4 := hid (HS3.out.below hb4); have HT4 := hid (HT3.out.below hb4); have HU4 := hid hs4
  clear hb4 hs4 HB3 HA3 HC3 HS3 HT3
  go_wp2_with fail
  refine (ref_add _ _ _ _ _ _ _ HA4.out HC4.out (by omega) (by omega)).mono ?_
  rintro e w5 ⟨v5, rfl, hs5, hb5⟩
  have HB5 := hid (step_below HB4.out hb5); have HS5 := hid (HS4.out.below hb5); have HT5 := hid (HT4.out.below hb5); have HU5 := hid (HU4.out.below hb5); have HV5 := hid hs5
  clear hb5 hs5 HB4 HA4 HC4 HS4 HT4 HU4
  go_wp2_with fail
  refine (law_same _ _ _ _ HU5.out HV5.out).mono ?_
  rintro e w6 ⟨rfl, hb6⟩
  have HB6 := hid (step_below HB5.out hb6); have HS6 := hid (HS5.out.below hb6); have HT6 := hid (HT5.out.below hb6)
  clear hb6 HB5 HS5 HT5 HU5 HV5
  go_wp2_with fail
  refine (law_same _ _ _ _ HT6.out HS6.out).mono ?_
  rintro e w7 ⟨rfl, hb7⟩
  have HB7 := hid (step_below HB6.out hb7)
  clear hb7 HB6 HS6 HT6
  go_wp2
  go_ret
  exact ⟨rfl, HB7.out⟩

set_option maxHeartbeats 2000000 in
theorem walk_lt {va vb : Value} {l m : List Nat} {w : World} (ha : Sees w va l) (hl : l.length ≤ 35184372088000) (hb : Sees w vb m) (hm : m.length ≤ 35184372088000) (hle : val l < val m) :
    Calls Tryd.prog 4 #[va, vb] w fun e w' => e = .returned (.bool true) ∧ Below w.heap.size w w' := by
  have HA := hid ha; have HB := hid hb; have HLE := hid hle
  clear hle
  obtain ⟨a, ca, rfl, -, -, -, -, -⟩ := ha
  obtain ⟨b, cb, rfl, -, -, -, -, -⟩ := hb
  go_enter Tryd.func4, Tryd.ntmps4
  go_wp2_with fail
  refine (nat_sub_no _ _ _ _ _ _ _ _ _ HA.out HB.out HLE.out).mono ?_
  rintro e w1 ⟨rfl, hb1⟩
  have HB1 := hid hb1; have HA1 := hid (HA.out.below hb1); have HC1 := hid (HB.out.below hb1)
  clear hb1
  go_wp2_with fail
  refine (ref_sub_no _ _ _ _ _ _ _ HA1.out HC1.out HLE.out).mono ?_
  rintro e w2 ⟨rfl, rfl⟩
  go_wp2_with fail
  refine (awake_any _).mono ?_
  rintro e w3 ⟨rfl, hb3⟩
  have HB3 := hid (step_below HB1.out hb3); have HA3 := hid (HA1.out.below hb3); have HC3 := hid (HC1.out.below hb3)
  clear hb3 HB1 HA1 HC1
  go_wp2_with fail
  refine (nat_add _ _ _ _ _ _ _ _ _ HA3.out HC3.out (by omega) (by omega)).mono ?_
  rintro e w4 ⟨v4, rfl, hs4, hb4⟩
  have HB4 := hid (step_below HB3.out hb4); have HA4 := hid (HA3.out.below hb4); have HC4 := hid (HC3.out.below hb4); have HU4 := hid hs4
  clear hb4 hs4 HB3 HA3 HC3
  go_wp2_with fail
  refine (ref_add _ _ _ _ _ _ _ HA4.out HC4.out (by omega) (by omega)).mono ?_
  rintro e w5 ⟨v5, rfl, hs5, hb5⟩
  have HB5 := hid (step_below HB4.out hb5); have HU5 := hid (HU4.out.below hb5); have HV5 := hid hs5
  clear hb5 hs5 HB4 HA4 HC4 HU4
  go_wp2_with fail
  refine (law_same _ _ _ _ HU5.out HV5.out).mono ?_
  rintro e w6 ⟨rfl, hb6⟩
  have HB6 := hid (step_below HB5.out hb6)
  clear hb6 HB5 HU5 HV5
  go_wp2_with fail
  refine (law_same _ _ _ _ (Sees.nil _) (Sees.nil _)).mono ?_
  rintro e w7 ⟨rfl, hb7⟩
  have HB7 := hid (step_below HB6.out hb7)
  clear hb7 HB6
  go_wp2
  go_ret
  exact ⟨rfl, HB7.out⟩

theorem walk {va vb : Value} {l m : List Nat} {w : World} (ha : Sees w va l) (hl : l.length ≤ 35184372087808) (hb : Sees w vb m) (hm : m.length ≤ 35184372087808) :
    Calls Tryd.prog 4 #[va, vb] w fun e w' => e = .returned (.bool true) ∧ Below w.heap.size w w' := by
  rcases Nat.lt_or_ge (val l) (val m) with h | h
  · exact walk_lt ha (by omega) hb (by omega) h
  · exact walk_le ha (by omega) hb (by omega) h

/-! ### The row's step and the card -/
theorem contract (H : Type) (enc : TypeId × Value → H) (W : World) (base : Nat) (args : Array Value) (ds gs : List (DataW H)) (before : List MemPlace)
    (hval0 : ∀ (j : Nat) t v, Tryd.f4.params[j]? = some t → args[j]? = some v → Value.okWide Tryd.prog W .any base t v)
    (hW : DataW.Whole enc Tryd.prog Tryd.f4.params.toList Rows.natAddsSpec.vars false W args.toList ds gs before)
    (hsz0 : (DataW.weightsEach Tryd.prog (Tryd.f4.params.toList ++ Rows.natAddsSpec.plain.varTypes Tryd.prog) (ds ++ gs)).all (· ≤ reachBytes) = true) :
    Calls Tryd.prog 4 args W fun e W' => ∃ v, e = .returned v ∧ Rows.natAddsSpec.post enc Tryd.prog Tryd.f4 false true false false W args v W' := by
  have hW' := hW
  obtain ⟨p, q, hA0, hV, rfl, hfz, hnd⟩ := hW
  have hA : DataW.TrodAll enc Tryd.prog W 0 (fun _ => true) true Tryd.f4.params.toList args.toList ds p := hA0
  have hval : ∀ (j : Nat) t v, Tryd.f4.params[j]? = some t → args[j]? = some v → Value.okWide Tryd.prog W .any base t v := hval0
  have hsz : (DataW.weightsEach Tryd.prog (Tryd.f4.params.toList ++ []) (ds ++ gs)).all (· ≤ reachBytes) = true := hsz0
  rw [Tryd.params4] at hA hval hsz
  obtain ⟨v0, vs0, d0, ds0, p0, q0, hargs, rfl, rfl, h0, r0⟩ := trodAll_cons hA
  obtain ⟨v1, vs1, d1, ds1, p1, q1, rfl, rfl, rfl, h1, r1⟩ := trodAll_cons r0
  obtain ⟨rfl, rfl, rfl⟩ := trodAll_nil r1
  obtain rfl : args = #[v0, v1] := by cases args; simp_all
  obtain ⟨rfl, rfl⟩ := trodVars_none hV
  obtain ⟨l0, s0, b0⟩ := open_limbs (hval 0 22 v0 rfl rfl) h0 (fun elems spare e => by subst e; exact sized_slice hsz (j := 0) (t := 22) (e := 47) rfl rfl Tryd.underlying22)
  obtain ⟨l1, s1, b1⟩ := open_limbs (hval 1 22 v1 rfl rfl) h1 (fun elems spare e => by subst e; exact sized_slice hsz (j := 1) (t := 22) (e := 47) rfl rfl Tryd.underlying22)
  refine (walk s0 b0 s1 b1).mono fun e W' ⟨he, hb⟩ => ?_
  subst he
  exact ⟨_, rfl, _, _, _, _, _, _, hW', trodAll_cons_mk (shut_bool Tryd.underlying4 _) trodAll_mk0, trodAll_cons_mk (Below.trod laidOut (by kernel_rfl) (of_decide_eq_true (by kernel_rfl)) h0 hb (fun x hx => by have := hW'.lt x (by simp [hx]); simpa using this)) (trodAll_cons_mk (Below.trod laidOut (by kernel_rfl) (of_decide_eq_true (by kernel_rfl)) h1 hb (fun x hx => by have := hW'.lt x (by simp [hx]); simpa using this)) (trodAll_mk0)), rfl, hb.frame _, fun h => by cases h⟩

set_option maxRecDepth 100000 in
theorem lifted (os : Os) (started : os.Started) (H : Type) (enc : TypeId × Value → H) :
    ReturnsInHanded {} Tryd.checked os 4 .any (fun w args => (Rows.natAddsSpec.pre enc Tryd.prog Tryd.f4 [] false w args ∧ laidMetH Tryd.prog laidList w) ∧ sizedMet enc Tryd.prog Tryd.f4 (OpenSpec.ofChange Rows.natAddsSpec) false w args)
      (Rows.natAddsSpec.post enc Tryd.prog Tryd.f4 false true false false) := by
  refine returnsInHanded_of_change_and (C := Tryd.checked) (X := fun w _ => laidMetH Tryd.prog laidList w) (fun _ _ _ hh h => h.of_heap hh) own started (by kernel_rfl) Tryd.func4
    (ChangeSpec.witness_shaped (enc := enc) (C := Tryd.checked) (os := os) (X := fun w _ => laidMetH Tryd.prog laidList w) false (World.laidAll Tryd.prog os laidList) #[.slice none 0 0, .slice none 0 0] 8 (World.laidAll_os _ _ _)
      (World.shaped_of_ZipB (by kernel_rfl) (by kernel_rfl)) (by kernel_rfl) (by kernel_rfl) (by kernel_rfl) (laid_met os _)) ?_
  intro W base args ds gs before hval0 hW _ hsz _ _
  exact contract H enc W base args ds gs before hval0 hW hsz

theorem said : Rows.NatAddsSaid :=
  OpenClaim.holds_of_wide 4 Tryd.f4 rfl rfl rfl rfl rfl rfl rfl ⟨rfl, rfl, rfl, rfl, rfl⟩ rfl rfl rfl rfl rfl (by kernel_rfl) Tryd.func4 (by kernel_rfl)
    (of_decide_eq_true (by kernel_rfl)) (by unfold Func.isWrapper; first | (rw [if_pos (by decide +kernel)]; kernel_rfl) | (rw [if_neg (by decide +kernel)]; exact ⟨rfl, rfl⟩))
    (fun os started H enc _ => lifted os started H enc)

theorem plain (f : FuncId) (fn : Func) (hf : Tryd.pinned.checked.prog.funcNamed "primrose/primroselaw01.NatAdds" = some f) (hfn : Tryd.pinned.checked.prog.funcs[f]? = some fn) :
    false = Tryd.pinned.checked.prog.looks [] ∧ ∀ (j : Nat) t, fn.params[j]? = some t → Tryd.pinned.checked.prog.wantsStandIn t = false := by
  obtain rfl : f = 4 := Option.some.inj ((show Tryd.prog.funcNamed "primrose/primroselaw01.NatAdds" = some 4 by kernel_rfl).symm.trans hf) |>.symm
  obtain rfl : fn = Tryd.f4 := (Option.some.inj (Tryd.func4.symm.trans hfn)).symm
  refine ⟨by kernel_rfl, fun j t ht => ?_⟩
  rw [Tryd.params4] at ht
  have hm : t ∈ [22, 22] := by simpa using Array.mem_of_getElem? ht
  have hall : ([22, 22].all fun u => !Tryd.prog.wantsStandIn u) = true := by kernel_rfl
  exact (show Tryd.prog.wantsStandIn t = false by simpa using List.all_eq_true.1 hall t hm)

/-- THE CARD. -/
theorem card : Rows.NatAddsCardSaid :=
  Claim7.holds_tied_plain_at .later [] _ _ _ _ said (fun _ h => by cases h) (by kernel_rfl) (fun _ h => by cases h) natAdds_row_tie rfl ⟨rfl, rfl⟩ (by kernel_rfl) rfl plain (by kernel_rfl)
end Go.Proofs.YtgcgifehpbjglaaDoor.natAdds
