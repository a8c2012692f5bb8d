/- primroselaw01.NatShifts answers true for every list of limbs that may be in memory and every int: nat.Shift tells what the document's reference tells (of the first 20 limbs). No condition beyond the row's own (the listed tables of the library are as its text lays them). -/
import Derived.Test.YtgcgifehpbjglaaDoorVal
import Derived.Test.YtgcgifehpbjglaaDoorRefShift
set_option linter.unusedVariables false
set_option linter.unusedSimpArgs false
namespace Go.Proofs.YtgcgifehpbjglaaDoor.natShifts
open Go.ChangeShapes Go.WideShapes Go.ChangeAt Go.RowKit

set_option maxRecDepth 100000 in
set_option maxHeartbeats 2000000 in
theorem walk_ok {va : Value} {la : List Nat} {w : World} (ha : Sees w va la) (hla : la.length ≤ 35184372087808) (n : Int) (h1 : -1048576 ≤ n) (h2 : n ≤ 2000) :
    Calls Tryd.prog 8 #[va, .int .i64 n] w fun e w' => e = .returned (.bool true) ∧ Below w.heap.size w w' := by
  have HA := hid ha
  clear ha
  go_enter Tryd.func8, Tryd.ntmps8
  have hka : (la.take 20).length ≤ 20 := by simp; omega
  go_wp2_with fail
  refine (law_short va la 20 _ HA.out (by omega)).mono ?_
  rintro e w' ⟨⟨sa, rfl, hs⟩, rfl⟩
  obtain ⟨pa, hp⟩ : ∃ p, p = la.take 20 := ⟨_, rfl⟩
  rw [← hp] at hs hka
  clear HA hp hla
  have HA := hid hs
  clear hs
  go_wp2_with fail
  refine (nat_shift_ok n HA.out (by omega) (by omega) (by omega)).mono ?_
  rintro e w1 ⟨v2, rfl, hs, hb⟩
  have HBx := hid (hb)
  have HBel := HBx
  clear HBx
  replace HA := hid (HA.out.below hb)
  clear hb
  have HM := hid hs
  clear hs
  go_wp2_with fail
  refine (ref_shift_ok n HA.out (by omega) (by omega) (by omega)).mono ?_
  rintro e w2 ⟨v3, rfl, hs, hb⟩
  have HBx := hid (step_below HBel.out hb)
  clear HBel
  have HBel := HBx
  clear HBx
  replace HA := hid (HA.out.below hb)
  replace HM := hid (HM.out.below hb)
  clear hb
  have HN := hid hs
  clear hs
  go_wp2_with fail
  refine (awake_any _).mono ?_
  rintro e w3 ⟨rfl, hb⟩
  have HBx := hid (step_below HBel.out hb)
  clear HBel
  have HBel := HBx
  clear HBx
  replace HA := hid (HA.out.below hb)
  replace HM := hid (HM.out.below hb)
  replace HN := hid (HN.out.below hb)
  clear hb
  go_wp2_with fail
  refine (law_same _ _ _ _ HM.out HN.out).mono ?_
  rintro e w4 ⟨rfl, hb⟩
  have HBx := hid (step_below HBel.out hb)
  clear HBel
  have HBel := HBx
  clear HBx
  replace HA := hid (HA.out.below hb)
  clear hb
  clear HM HN
  go_wp2
  go_ret
  exact ⟨rfl, HBel.out⟩

set_option maxRecDepth 100000 in
set_option maxHeartbeats 2000000 in
theorem walk_big {va : Value} {la : List Nat} {w : World} (ha : Sees w va la) (hla : la.length ≤ 35184372087808) (n : Int) (h1 : 2000 < n) (h2 : n ≤ 1048576) :
    Calls Tryd.prog 8 #[va, .int .i64 n] w fun e w' => e = .returned (.bool true) ∧ Below w.heap.size w w' := by
  have HA := hid ha
  clear ha
  obtain ⟨m, hm⟩ := Int.eq_ofNat_of_zero_le (a := n % 2000) (by omega)
  have hm2 : m < 2000 := by omega
  go_enter Tryd.func8, Tryd.ntmps8
  have hka : (la.take 20).length ≤ 20 := by simp; omega
  go_wp2_with fail
  refine (law_short va la 20 _ HA.out (by omega)).mono ?_
  rintro e w' ⟨⟨sa, rfl, hs⟩, rfl⟩
  obtain ⟨pa, hp⟩ : ∃ p, p = la.take 20 := ⟨_, rfl⟩
  rw [← hp] at hs hka
  clear HA hp hla
  have HA := hid hs
  clear hs
  go_wp2_with fail
  refine (nat_shift_ok (m : Int) HA.out (by omega) (by omega) (by omega)).mono ?_
  rintro e w1 ⟨v2, rfl, hs, hb⟩
  have HBx := hid (hb)
  have HBel := HBx
  clear HBx
  replace HA := hid (HA.out.below hb)
  clear hb
  have HM := hid hs
  clear hs
  go_wp2_with fail
  refine (ref_shift_ok (m : Int) HA.out (by omega) (by omega) (by omega)).mono ?_
  rintro e w2 ⟨v3, rfl, hs, hb⟩
  have HBx := hid (step_below HBel.out hb)
  clear HBel
  have HBel := HBx
  clear HBx
  replace HA := hid (HA.out.below hb)
  replace HM := hid (HM.out.below hb)
  clear hb
  have HN := hid hs
  clear hs
  go_wp2_with fail
  refine (awake_any _).mono ?_
  rintro e w3 ⟨rfl, hb⟩
  have HBx := hid (step_below HBel.out hb)
  clear HBel
  have HBel := HBx
  clear HBx
  replace HA := hid (HA.out.below hb)
  replace HM := hid (HM.out.below hb)
  replace HN := hid (HN.out.below hb)
  clear hb
  go_wp2_with fail
  refine (law_same _ _ _ _ HM.out HN.out).mono ?_
  rintro e w4 ⟨rfl, hb⟩
  have HBx := hid (step_below HBel.out hb)
  clear HBel
  have HBel := HBx
  clear HBx
  replace HA := hid (HA.out.below hb)
  clear hb
  clear HM HN
  go_wp2
  go_ret
  exact ⟨rfl, HBel.out⟩

set_option maxRecDepth 100000 in
set_option maxHeartbeats 2000000 in
theorem walk_low {va : Value} {la : List Nat} {w : World} (ha : Sees w va la) (hla : la.length ≤ 35184372087808) (n : Int) (h1 : n < -1048576) :
    Calls Tryd.prog 8 #[va, .int .i64 n] w fun e w' => e = .returned (.bool true) ∧ Below w.heap.size w w' := by
  have HA := hid ha
  clear ha
  have HC : Hid (n < -1048576 ∨ 1048576 < n) := .inl h1
  go_enter Tryd.func8, Tryd.ntmps8
  have hka : (la.take 20).length ≤ 20 := by simp; omega
  go_wp2_with fail
  refine (law_short va la 20 _ HA.out (by omega)).mono ?_
  rintro e w' ⟨⟨sa, rfl, hs⟩, rfl⟩
  obtain ⟨pa, hp⟩ : ∃ p, p = la.take 20 := ⟨_, rfl⟩
  rw [← hp] at hs hka
  clear HA hp hla
  have HA := hid hs
  clear hs
  go_wp2_with fail
  refine (nat_shift_no n _ HC.out).mono ?_
  rintro e w1 ⟨rfl, rfl⟩
  go_wp2_with fail
  refine (ref_shift_no n _ HC.out).mono ?_
  rintro e w2 ⟨rfl, rfl⟩
  go_wp2_with fail
  refine (awake_any _).mono ?_
  rintro e w3 ⟨rfl, hb⟩
  have HBx := hid (hb)
  have HBel := HBx
  clear HBx
  replace HA := hid (HA.out.below hb)
  clear hb
  go_wp2_with fail
  refine (law_same _ _ [] _ (Sees.nil _) (Sees.nil _)).mono ?_
  rintro e w4 ⟨rfl, hb⟩
  have HBx := hid (step_below HBel.out hb)
  clear HBel
  have HBel := HBx
  clear HBx
  replace HA := hid (HA.out.below hb)
  clear hb
  go_wp2
  go_ret
  exact ⟨rfl, HBel.out⟩

set_option maxRecDepth 100000 in
set_option maxHeartbeats 2000000 in
theorem walk_high {va : Value} {la : List Nat} {w : World} (ha : Sees w va la) (hla : la.length ≤ 35184372087808) (n : Int) (h1 : 1048576 < n) :
    Calls Tryd.prog 8 #[va, .int .i64 n] w fun e w' => e = .returned (.bool true) ∧ Below w.heap.size w w' := by
  have HA := hid ha
  clear ha
  have HC : Hid (n < -1048576 ∨ 1048576 < n) := .inr h1
  have h2 : 2000 < n := by omega
  have h3 : ¬ n ≤ 1048576 := by omega
  go_enter Tryd.func8, Tryd.ntmps8
  have hka : (la.take 20).length ≤ 20 := by simp; omega
  go_wp2_with fail
  refine (law_short va la 20 _ HA.out (by omega)).mono ?_
  rintro e w' ⟨⟨sa, rfl, hs⟩, rfl⟩
  obtain ⟨pa, hp⟩ : ∃ p, p = la.take 20 := ⟨_, rfl⟩
  rw [← hp] at hs hka
  clear HA hp hla
  have HA := hid hs
  clear hs
  go_wp2_with fail
  refine (nat_shift_no n _ HC.out).mono ?_
  rintro e w1 ⟨rfl, rfl⟩
  go_wp2_with fail
  refine (ref_shift_no n _ HC.out).mono ?_
  rintro e w2 ⟨rfl, rfl⟩
  go_wp2_with fail
  refine (awake_any _).mono ?_
  rintro e w3 ⟨rfl, hb⟩
  have HBx := hid (hb)
  have HBel := HBx
  clear HBx
  replace HA := hid (HA.out.below hb)
  clear hb
  go_wp2_with fail
  refine (law_same _ _ [] _ (Sees.nil _) (Sees.nil _)).mono ?_
  rintro e w4 ⟨rfl, hb⟩
  have HBx := hid (step_below HBel.out hb)
  clear HBel
  have HBel := HBx
  clear HBx
  replace HA := hid (HA.out.below hb)
  clear hb
  go_wp2
  go_ret
  exact ⟨rfl, HBel.out⟩

theorem walk {va : Value} {la : List Nat} {w : World} (ha : Sees w va la) (hla : la.length ≤ 35184372087808) (n : Int) (wn : (Lit.int .i64 n).wf = true) :
    Calls Tryd.prog 8 #[va, .int .i64 n] w fun e w' => e = .returned (.bool true) ∧ Below w.heap.size w w' := by
  rcases Int.lt_or_le n (-1048576) with h | h
  · exact walk_low ha hla n h
  · rcases Int.lt_or_le 2000 n with h2 | h2
    · rcases Int.lt_or_le 1048576 n with h3 | h3
      · exact walk_high ha hla n h3
      · exact walk_big ha hla n h2 h3
    · exact walk_ok ha hla n h h2

/-! ### The row's step and the card -/
theorem contract (H : Type) (enc : TypeId × Value → H) (W : World) (base : Nat) (args : Array Value) (ds gs : List (DataW H)) (before : List MemPlace)
    (hval0 : ∀ (j : Nat) t v, Tryd.f8.params[j]? = some t → args[j]? = some v → Value.okWide Tryd.prog W .any base t v)
    (hW : DataW.Whole enc Tryd.prog Tryd.f8.params.toList Rows.natShiftsSpec.vars false W args.toList ds gs before)
    (hsz0 : (DataW.weightsEach Tryd.prog (Tryd.f8.params.toList ++ Rows.natShiftsSpec.plain.varTypes Tryd.prog) (ds ++ gs)).all (· ≤ reachBytes) = true) :
    Calls Tryd.prog 8 args W fun e W' => ∃ v, e = .returned v ∧ Rows.natShiftsSpec.post enc Tryd.prog Tryd.f8 false true false false W args v W' := by
  have hW' := hW
  obtain ⟨p, q, hA0, hV, rfl, hfz, hnd⟩ := hW
  have hA : DataW.TrodAll enc Tryd.prog W 0 (fun _ => true) true Tryd.f8.params.toList args.toList ds p := hA0
  have hval : ∀ (j : Nat) t v, Tryd.f8.params[j]? = some t → args[j]? = some v → Value.okWide Tryd.prog W .any base t v := hval0
  have hsz : (DataW.weightsEach Tryd.prog (Tryd.f8.params.toList ++ []) (ds ++ gs)).all (· ≤ reachBytes) = true := hsz0
  rw [Tryd.params8] at hA hval hsz
  obtain ⟨v0, vs0, d0, ds0, p0, q0, hargs, rfl, rfl, h0, r0⟩ := trodAll_cons hA
  obtain ⟨v1, vs1, d1, ds1, p1, q1, rfl, rfl, rfl, h1, r1⟩ := trodAll_cons r0
  obtain ⟨rfl, rfl, rfl⟩ := trodAll_nil r1
  obtain rfl : args = #[v0, v1] := by cases args; simp_all
  obtain ⟨rfl, rfl⟩ := trodVars_none hV
  obtain ⟨l0, s0, b0⟩ := open_limbs (hval 0 22 v0 rfl rfl) h0 (fun elems spare e => by subst e; exact sized_slice hsz (j := 0) (t := 22) (e := 47) rfl rfl Tryd.underlying22)
  have k1 := h1
  obtain ⟨n1, rfl, rfl, rfl, wn1⟩ := open_int Tryd.underlying3 (hval 1 3 v1 rfl rfl) h1
  refine (walk s0 b0 n1 wn1).mono fun e W' ⟨he, hb⟩ => ?_
  subst he
  exact ⟨_, rfl, _, _, _, _, _, _, hW', trodAll_cons_mk (shut_bool Tryd.underlying4 _) trodAll_mk0, trodAll_cons_mk (Below.trod laidOut (by kernel_rfl) (of_decide_eq_true (by kernel_rfl)) h0 hb (fun x hx => by first | cases hx; done | (have := hW'.lt x (by simp [hx]); simpa using this))) (trodAll_cons_mk (Below.trod laidOut (by kernel_rfl) (of_decide_eq_true (by kernel_rfl)) k1 hb (fun x hx => by first | cases hx; done | (have := hW'.lt x (by simp [hx]); simpa using this))) (trodAll_mk0)), rfl, hb.frame _, fun h => by cases h⟩

set_option maxRecDepth 100000 in
theorem lifted (os : Os) (started : os.Started) (H : Type) (enc : TypeId × Value → H) :
    ReturnsInHanded {} Tryd.checked os 8 .any (fun w args => (Rows.natShiftsSpec.pre enc Tryd.prog Tryd.f8 [] false w args ∧ laidMetH Tryd.prog laidList w) ∧ sizedMet enc Tryd.prog Tryd.f8 (OpenSpec.ofChange Rows.natShiftsSpec) false w args)
      (Rows.natShiftsSpec.post enc Tryd.prog Tryd.f8 false true false false) := by
  refine returnsInHanded_of_change_and (C := Tryd.checked) (X := fun w _ => laidMetH Tryd.prog laidList w) (fun _ _ _ hh h => h.of_heap hh) own started (by kernel_rfl) Tryd.func8
    (ChangeSpec.witness_shaped (enc := enc) (C := Tryd.checked) (os := os) (X := fun w _ => laidMetH Tryd.prog laidList w) false (World.laidAll Tryd.prog os laidList) #[.slice none 0 0, .int .i64 0] 8 (World.laidAll_os _ _ _)
      (World.shaped_of_ZipB (by kernel_rfl) (by kernel_rfl)) (by kernel_rfl) (by kernel_rfl) (by kernel_rfl) (laid_met os _)) ?_
  intro W base args ds gs before hval0 hW _ hsz _ _
  exact contract H enc W base args ds gs before hval0 hW hsz

theorem said : Rows.NatShiftsSaid :=
  OpenClaim.holds_of_wide 8 Tryd.f8 rfl rfl rfl rfl rfl rfl rfl ⟨rfl, rfl, rfl, rfl, rfl⟩ rfl rfl rfl rfl rfl (by kernel_rfl) Tryd.func8 (by kernel_rfl)
    (of_decide_eq_true (by kernel_rfl)) (by unfold Func.isWrapper; first | (rw [if_pos (by decide +kernel)]; kernel_rfl) | (rw [if_neg (by decide +kernel)]; exact ⟨rfl, rfl⟩))
    (fun os started H enc _ => lifted os started H enc)

theorem plain (f : FuncId) (fn : Func) (hf : Tryd.pinned.checked.prog.funcNamed "primrose/primroselaw01.NatShifts" = some f) (hfn : Tryd.pinned.checked.prog.funcs[f]? = some fn) :
    false = Tryd.pinned.checked.prog.looks [] ∧ ∀ (j : Nat) t, fn.params[j]? = some t → Tryd.pinned.checked.prog.wantsStandIn t = false := by
  obtain rfl : f = 8 := Option.some.inj ((show Tryd.prog.funcNamed "primrose/primroselaw01.NatShifts" = some 8 by kernel_rfl).symm.trans hf) |>.symm
  obtain rfl : fn = Tryd.f8 := (Option.some.inj (Tryd.func8.symm.trans hfn)).symm
  refine ⟨by kernel_rfl, fun j t ht => ?_⟩
  rw [Tryd.params8] at ht
  have hm : t ∈ [22, 3] := by simpa using Array.mem_of_getElem? ht
  have hall : ([22, 3].all fun u => !Tryd.prog.wantsStandIn u) = true := by kernel_rfl
  exact (show Tryd.prog.wantsStandIn t = false by simpa using List.all_eq_true.1 hall t hm)

/-- THE CARD. -/
theorem card : Rows.NatShiftsCardSaid :=
  Claim7.holds_tied_plain_at .later [] _ _ _ _ said (fun _ h => by cases h) (by kernel_rfl) (fun _ h => by cases h) natShifts_row_tie rfl ⟨rfl, rfl⟩ (by kernel_rfl) rfl plain (by kernel_rfl)
end Go.Proofs.YtgcgifehpbjglaaDoor.natShifts
