/- primroselaw01.NatInts answers true for every int and every list of limbs that may be in memory: nat.Of and nat.Small tell what the document's reference tells. No condition beyond the row's own (the listed tables of the library are as its text lays them). -/
import Derived.Test.YtgcgifehpbjglaaDoorVal
import Derived.Test.YtgcgifehpbjglaaDoorRefInt
set_option linter.unusedVariables false
set_option linter.unusedSimpArgs false
namespace Go.Proofs.YtgcgifehpbjglaaDoor.natInts
open Go.ChangeShapes Go.WideShapes Go.ChangeAt Go.RowKit

set_option maxRecDepth 100000 in
set_option maxHeartbeats 4000000 in
theorem walk_ok (n : Int) (h1 : -9223372036854775808 ≤ n) (h2 : n < 9223372036854775808) {va : Value} {la : List Nat} {w : World} (ha : Sees w va la) (hla : la.length ≤ 35184372087808) (hc : val la < 9223372036854775808) :
    Calls Tryd.prog 9 #[.int .i64 n, va] w fun e w' => e = .returned (.bool true) ∧ Below w.heap.size w w' := by
  have HA := hid ha; have HC := hid hc; have H1 := hid h1; have H2 := hid h2
  have hlim : (limbs n.toNat).length ≤ 2 := limbs_length_le (by show n.toNat < 18446744073709551616; omega)
  clear ha hc h1 h2
  go_enter Tryd.func9, Tryd.ntmps9
  go_wp2_with fail
  refine (nat_small_ok HA.out HC.out).mono ?_
  rintro e w1 ⟨rfl, rfl⟩
  go_wp2_with fail
  refine (ref_small_ok HA.out (by omega) HC.out).mono ?_
  rintro e w1 ⟨rfl, hb⟩
  have HBx := hid (hb)
  have HBel := HBx
  clear HBx
  clear hb
  clear HA
  go_wp2_with fail
  refine (awake_any _).mono ?_
  rintro e w2 ⟨rfl, hb⟩
  have HBx := hid (step_below HBel.out hb)
  clear HBel
  have HBel := HBx
  clear HBx
  clear hb
  go_wp2_with fail
  refine (nat_of n H1.out H2.out _).mono ?_
  rintro e w3 ⟨v3, rfl, hs, hb⟩
  have HBx := hid (step_below HBel.out hb)
  clear HBel
  have HBel := HBx
  clear HBx
  clear hb
  have HM := hid hs
  clear hs
  go_wp2_with fail
  refine (ref_of n H1.out H2.out _).mono ?_
  rintro e w4 ⟨v4, rfl, hs, hb⟩
  have HBx := hid (step_below HBel.out hb)
  clear HBel
  have HBel := HBx
  clear HBx
  replace HM := hid (HM.out.below hb)
  clear hb
  have HN := hid hs
  clear hs
  go_wp2_with fail
  refine (law_same _ _ _ _ HM.out HN.out).mono ?_
  rintro e w5 ⟨rfl, hb⟩
  have HBx := hid (step_below HBel.out hb)
  clear HBel
  have HBel := HBx
  clear HBx
  clear hb
  clear HM HN
  go_wp2
  go_ret
  exact ⟨rfl, HBel.out⟩

set_option maxRecDepth 100000 in
set_option maxHeartbeats 4000000 in
theorem walk_no (n : Int) (h1 : -9223372036854775808 ≤ n) (h2 : n < 9223372036854775808) {va : Value} {la : List Nat} {w : World} (ha : Sees w va la) (hla : la.length ≤ 35184372087808) (hc : ¬ val la < 9223372036854775808) :
    Calls Tryd.prog 9 #[.int .i64 n, va] w fun e w' => e = .returned (.bool true) ∧ Below w.heap.size w w' := by
  have HA := hid ha; have HC := hid hc; have H1 := hid h1; have H2 := hid h2
  have hlim : (limbs n.toNat).length ≤ 2 := limbs_length_le (by show n.toNat < 18446744073709551616; omega)
  clear ha hc h1 h2
  go_enter Tryd.func9, Tryd.ntmps9
  go_wp2_with fail
  refine (nat_small_no HA.out HC.out).mono ?_
  rintro e w1 ⟨rfl, rfl⟩
  go_wp2_with fail
  refine (ref_small_no HA.out (by omega) HC.out).mono ?_
  rintro e w1 ⟨rfl, hb⟩
  have HBx := hid (hb)
  have HBel := HBx
  clear HBx
  clear hb
  clear HA
  go_wp2_with fail
  refine (awake_any _).mono ?_
  rintro e w2 ⟨rfl, hb⟩
  have HBx := hid (step_below HBel.out hb)
  clear HBel
  have HBel := HBx
  clear HBx
  clear hb
  go_wp2_with fail
  refine (nat_of n H1.out H2.out _).mono ?_
  rintro e w3 ⟨v3, rfl, hs, hb⟩
  have HBx := hid (step_below HBel.out hb)
  clear HBel
  have HBel := HBx
  clear HBx
  clear hb
  have HM := hid hs
  clear hs
  go_wp2_with fail
  refine (ref_of n H1.out H2.out _).mono ?_
  rintro e w4 ⟨v4, rfl, hs, hb⟩
  have HBx := hid (step_below HBel.out hb)
  clear HBel
  have HBel := HBx
  clear HBx
  replace HM := hid (HM.out.below hb)
  clear hb
  have HN := hid hs
  clear hs
  go_wp2_with fail
  refine (law_same _ _ _ _ HM.out HN.out).mono ?_
  rintro e w5 ⟨rfl, hb⟩
  have HBx := hid (step_below HBel.out hb)
  clear HBel
  have HBel := HBx
  clear HBx
  clear hb
  clear HM HN
  go_wp2
  go_ret
  exact ⟨rfl, HBel.out⟩

theorem int_bounds {n : Int} (h : (Lit.int .i64 n).wf = true) : -9223372036854775808 ≤ n ∧ n < 9223372036854775808 := by
  simp [Lit.wf, IntKind.min, IntKind.max, IntKind.signed, IntKind.bits] at h
  omega
theorem walk (n : Int) (wn : (Lit.int .i64 n).wf = true) {va : Value} {la : List Nat} {w : World} (ha : Sees w va la) (hla : la.length ≤ 35184372087808) :
    Calls Tryd.prog 9 #[.int .i64 n, va] w fun e w' => e = .returned (.bool true) ∧ Below w.heap.size w w' := by
  obtain ⟨h1, h2⟩ := int_bounds wn
  by_cases h : val la < 9223372036854775808
  · exact walk_ok n h1 h2 ha hla h
  · exact walk_no n h1 h2 ha hla h

/-! ### The row's step and the card -/
theorem contract (H : Type) (enc : TypeId × Value → H) (W : World) (base : Nat) (args : Array Value) (ds gs : List (DataW H)) (before : List MemPlace)
    (hval0 : ∀ (j : Nat) t v, Tryd.f9.params[j]? = some t → args[j]? = some v → Value.okWide Tryd.prog W .any base t v)
    (hW : DataW.Whole enc Tryd.prog Tryd.f9.params.toList Rows.natIntsSpec.vars false W args.toList ds gs before)
    (hsz0 : (DataW.weightsEach Tryd.prog (Tryd.f9.params.toList ++ Rows.natIntsSpec.plain.varTypes Tryd.prog) (ds ++ gs)).all (· ≤ reachBytes) = true) :
    Calls Tryd.prog 9 args W fun e W' => ∃ v, e = .returned v ∧ Rows.natIntsSpec.post enc Tryd.prog Tryd.f9 false true false false W args v W' := by
  have hW' := hW
  obtain ⟨p, q, hA0, hV, rfl, hfz, hnd⟩ := hW
  have hA : DataW.TrodAll enc Tryd.prog W 0 (fun _ => true) true Tryd.f9.params.toList args.toList ds p := hA0
  have hval : ∀ (j : Nat) t v, Tryd.f9.params[j]? = some t → args[j]? = some v → Value.okWide Tryd.prog W .any base t v := hval0
  have hsz : (DataW.weightsEach Tryd.prog (Tryd.f9.params.toList ++ []) (ds ++ gs)).all (· ≤ reachBytes) = true := hsz0
  rw [Tryd.params9] at hA hval hsz
  obtain ⟨v0, vs0, d0, ds0, p0, q0, hargs, rfl, rfl, h0, r0⟩ := trodAll_cons hA
  obtain ⟨v1, vs1, d1, ds1, p1, q1, rfl, rfl, rfl, h1, r1⟩ := trodAll_cons r0
  obtain ⟨rfl, rfl, rfl⟩ := trodAll_nil r1
  obtain rfl : args = #[v0, v1] := by cases args; simp_all
  obtain ⟨rfl, rfl⟩ := trodVars_none hV
  have k0 := h0
  obtain ⟨n0, rfl, rfl, rfl, wn0⟩ := open_int Tryd.underlying3 (hval 0 3 v0 rfl rfl) h0
  obtain ⟨l1, s1, b1⟩ := open_limbs (hval 1 22 v1 rfl rfl) h1 (fun elems spare e => by subst e; exact sized_slice hsz (j := 1) (t := 22) (e := 47) rfl rfl Tryd.underlying22)
  refine (walk n0 wn0 s1 b1).mono fun e W' ⟨he, hb⟩ => ?_
  subst he
  exact ⟨_, rfl, _, _, _, _, _, _, hW', trodAll_cons_mk (shut_bool Tryd.underlying4 _) trodAll_mk0, trodAll_cons_mk (Below.trod laidOut (by kernel_rfl) (of_decide_eq_true (by kernel_rfl)) k0 hb (fun x hx => by first | cases hx; done | (have := hW'.lt x (by simp [hx]); simpa using this))) (trodAll_cons_mk (Below.trod laidOut (by kernel_rfl) (of_decide_eq_true (by kernel_rfl)) h1 hb (fun x hx => by first | cases hx; done | (have := hW'.lt x (by simp [hx]); simpa using this))) (trodAll_mk0)), rfl, hb.frame _, fun h => by cases h⟩

set_option maxRecDepth 100000 in
theorem lifted (os : Os) (started : os.Started) (H : Type) (enc : TypeId × Value → H) :
    ReturnsInHanded {} Tryd.checked os 9 .any (fun w args => (Rows.natIntsSpec.pre enc Tryd.prog Tryd.f9 [] false w args ∧ laidMetH Tryd.prog laidList w) ∧ sizedMet enc Tryd.prog Tryd.f9 (OpenSpec.ofChange Rows.natIntsSpec) false w args)
      (Rows.natIntsSpec.post enc Tryd.prog Tryd.f9 false true false false) := by
  refine returnsInHanded_of_change_and (C := Tryd.checked) (X := fun w _ => laidMetH Tryd.prog laidList w) (fun _ _ _ hh h => h.of_heap hh) own started (by kernel_rfl) Tryd.func9
    (ChangeSpec.witness_shaped (enc := enc) (C := Tryd.checked) (os := os) (X := fun w _ => laidMetH Tryd.prog laidList w) false (World.laidAll Tryd.prog os laidList) #[.int .i64 0, .slice none 0 0] 8 (World.laidAll_os _ _ _)
      (World.shaped_of_ZipB (by kernel_rfl) (by kernel_rfl)) (by kernel_rfl) (by kernel_rfl) (by kernel_rfl) (laid_met os _)) ?_
  intro W base args ds gs before hval0 hW _ hsz _ _
  exact contract H enc W base args ds gs before hval0 hW hsz

theorem said : Rows.NatIntsSaid :=
  OpenClaim.holds_of_wide 9 Tryd.f9 rfl rfl rfl rfl rfl rfl rfl ⟨rfl, rfl, rfl, rfl, rfl⟩ rfl rfl rfl rfl rfl (by kernel_rfl) Tryd.func9 (by kernel_rfl)
    (of_decide_eq_true (by kernel_rfl)) (by unfold Func.isWrapper; first | (rw [if_pos (by decide +kernel)]; kernel_rfl) | (rw [if_neg (by decide +kernel)]; exact ⟨rfl, rfl⟩))
    (fun os started H enc _ => lifted os started H enc)

theorem plain (f : FuncId) (fn : Func) (hf : Tryd.pinned.checked.prog.funcNamed "primrose/primroselaw01.NatInts" = some f) (hfn : Tryd.pinned.checked.prog.funcs[f]? = some fn) :
    false = Tryd.pinned.checked.prog.looks [] ∧ ∀ (j : Nat) t, fn.params[j]? = some t → Tryd.pinned.checked.prog.wantsStandIn t = false := by
  obtain rfl : f = 9 := Option.some.inj ((show Tryd.prog.funcNamed "primrose/primroselaw01.NatInts" = some 9 by kernel_rfl).symm.trans hf) |>.symm
  obtain rfl : fn = Tryd.f9 := (Option.some.inj (Tryd.func9.symm.trans hfn)).symm
  refine ⟨by kernel_rfl, fun j t ht => ?_⟩
  rw [Tryd.params9] at ht
  have hm : t ∈ [3, 22] := by simpa using Array.mem_of_getElem? ht
  have hall : ([3, 22].all fun u => !Tryd.prog.wantsStandIn u) = true := by kernel_rfl
  exact (show Tryd.prog.wantsStandIn t = false by simpa using List.all_eq_true.1 hall t hm)

/-- THE CARD. -/
theorem card : Rows.NatIntsCardSaid :=
  Claim7.holds_tied_plain_at .later [] _ _ _ _ said (fun _ h => by cases h) (by kernel_rfl) (fun _ h => by cases h) natInts_row_tie rfl ⟨rfl, rfl⟩ (by kernel_rfl) rfl plain (by kernel_rfl)
end Go.Proofs.YtgcgifehpbjglaaDoor.natInts
