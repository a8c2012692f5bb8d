/- primroselaw01.NatBack answers true for every list of limbs that may be in memory and every text: what is told of a number is read as that number, and a text that is read is told again (the first 100 limbs, a text of at most 900 bytes). No condition beyond the row's own (the listed tables of the library are as its text lays them). -/
import Derived.Test.YtgcgifehpbjglabDoorVal
import Derived.Test.YtgcgifehpbjglabDoorSame
import Derived.Test.YtgcgifehpbjglabDoorBackN
set_option linter.unusedVariables false
set_option linter.unusedSimpArgs false
namespace Go.Proofs.YtgcgifehpbjglabDoor.natBack
open Go.ChangeShapes Go.WideShapes Go.ChangeAt Go.RowKit

theorem dec_length {x k : Nat} (hk : 0 < k) (h : x < 10 ^ k) : (dec x).length ≤ k := by
  unfold dec
  by_cases h0 : x = 0
  · rw [if_pos h0]; exact hk
  · rw [if_neg h0, List.length_reverse]; exact decR_length h
theorem textOf_short {l : List Nat} (h : Ok l) (hl : l.length ≤ 100) : (textOf (val l)).size ≤ 10000 := by
  rw [textOf_size]
  have h1 := Nat.lt_of_lt_of_le (val_lt h) (pow_bin_ten l.length)
  have h2 := dec_length (k := 10 * l.length + 1) (by omega) (Nat.lt_of_lt_of_le h1 (Nat.pow_le_pow_right (by decide) (by omega)))
  omega
theorem pow_two_limbs (m k : Nat) (h : m ≤ 32 * k) : 2 ^ m ≤ 4294967296 ^ k := by
  rw [show (4294967296 : Nat) = 2 ^ 32 from rfl, ← Nat.pow_mul]
  exact Nat.pow_le_pow_right (by decide) h
theorem read_short {t : ByteArray} (h : Numeral t) (hs : t.size ≤ 900) : (limbs (numP t t.size)).length ≤ 1000 := by
  apply limbs_length_le
  have h1 := numP_lt t t.size h.2.2
  exact Nat.lt_of_lt_of_le h1 (Nat.le_trans (pow_ten_bin t.size) (pow_two_limbs _ 1000 (by omega)))
theorem text_self {t : ByteArray} (h : Numeral t) : (⟨(dec (numP t t.size)).toArray⟩ : ByteArray) = t := by
  rw [numeral_text h]

set_option maxRecDepth 100000 in
set_option maxHeartbeats 2000000 in
theorem walk_long {va : Value} {la : List Nat} {w : World} (ha : Sees w va la) (hla : la.length ≤ 35184372087808) (t : ByteArray) (h : 900 < t.size) :
    Calls Tryd.prog 4 #[va, .string t] w fun e w' => e = .returned (.bool true) ∧ Below w.heap.size w w' := by
  have HA := hid ha
  clear ha
  go_enter Tryd.func4, Tryd.ntmps4
  go_wp2_with fail
  refine (awake_any _).mono ?_
  rintro e w1 ⟨rfl, hb⟩
  have HBx := hid (hb)
  have HBel := HBx
  clear HBx
  replace HA := hid (HA.out.below hb)
  clear hb
  have hka : (la.take 100).length ≤ 100 := by simp; omega
  go_wp2_with fail
  refine (law_short va la 100 _ HA.out (by omega)).mono ?_
  rintro e w' ⟨⟨sa, rfl, hs⟩, rfl⟩
  obtain ⟨pa, hp⟩ : ∃ p, p = la.take 100 := ⟨_, rfl⟩
  rw [← hp] at hs hka
  clear HA hp hla
  have HA := hid hs
  clear hs
  obtain ⟨T, hT⟩ : ∃ T, T = textOf (val pa) := ⟨_, rfl⟩
  have hTe : (⟨(dec (val pa)).toArray⟩ : ByteArray) = T := hT.symm
  have HT := hid hTe
  have HTN : Hid (Numeral T) := by show Numeral T; rw [hT]; exact textOf_numeral _
  have HTV : Hid (numP T T.size = val pa) := by show _ = _; rw [hT]; exact textOf_num _
  have hTs : T.size ≤ 10000 := by
    rw [hT]; exact textOf_short HA.out.ok hka
  clear hT hTe
  go_wp2_with fail
  refine (nat_text _ _ _ HA.out (by omega)).mono ?_
  rw [HT.out]
  rintro e w2 ⟨rfl, hb⟩
  have HBx := hid (step_below HBel.out hb)
  clear HBel
  have HBel := HBx
  clear HBx
  replace HA := hid (HA.out.below hb)
  clear hb
  go_wp2_with fail
  refine (nat_parse_ok T _ HTN.out hTs).mono ?_
  rw [HTV.out]
  rintro e w3 ⟨v2, rfl, hs, hb⟩
  have HBx := hid (step_below HBel.out hb)
  clear HBel
  have HBel := HBx
  clear HBx
  replace HA := hid (HA.out.below hb)
  clear hb
  have HM := hid hs
  clear hs
  go_wp2_with fail
  refine (nat_plain' HA.out (by omega)).mono ?_
  rintro e w4 ⟨v3, rfl, hs, hb⟩
  have HBx := hid (step_below HBel.out hb)
  clear HBel
  have HBel := HBx
  clear HBx
  replace HA := hid (HA.out.below hb)
  replace HM := hid (HM.out.below hb)
  clear hb
  have HP := hid hs
  clear hs
  go_wp2_with fail
  refine (law_same _ _ _ _ HM.out HP.out).mono ?_
  rintro e w5 ⟨rfl, hb⟩
  have HBx := hid (step_below HBel.out hb)
  clear HBel
  have HBel := HBx
  clear HBx
  replace HA := hid (HA.out.below hb)
  clear hb
  clear HM HP
  go_wp2
  go_ret
  exact ⟨rfl, HBel.out⟩

set_option maxRecDepth 100000 in
set_option maxHeartbeats 2000000 in
theorem walk_text {va : Value} {la : List Nat} {w : World} (ha : Sees w va la) (hla : la.length ≤ 35184372087808) (t : ByteArray) (h : ¬ Numeral t) (hs : t.size ≤ 900) :
    Calls Tryd.prog 4 #[va, .string t] w fun e w' => e = .returned (.bool true) ∧ Below w.heap.size w w' := by
  have HA := hid ha
  clear ha
  have HNAT : Hid (∀ w : World, Calls Tryd.prog 13 #[.string t] w fun e w' => e = .returned (.tuple #[.slice none 0 0, .int .i64 10]) ∧ w = w') := fun w => nat_parse_text t w (by omega) h
  clear h
  go_enter Tryd.func4, Tryd.ntmps4
  go_wp2_with fail
  refine (awake_any _).mono ?_
  rintro e w1 ⟨rfl, hb⟩
  have HBx := hid (hb)
  have HBel := HBx
  clear HBx
  replace HA := hid (HA.out.below hb)
  clear hb
  have hka : (la.take 100).length ≤ 100 := by simp; omega
  go_wp2_with fail
  refine (law_short va la 100 _ HA.out (by omega)).mono ?_
  rintro e w' ⟨⟨sa, rfl, hs⟩, rfl⟩
  obtain ⟨pa, hp⟩ : ∃ p, p = la.take 100 := ⟨_, rfl⟩
  rw [← hp] at hs hka
  clear HA hp hla
  have HA := hid hs
  clear hs
  obtain ⟨T, hT⟩ : ∃ T, T = textOf (val pa) := ⟨_, rfl⟩
  have hTe : (⟨(dec (val pa)).toArray⟩ : ByteArray) = T := hT.symm
  have HT := hid hTe
  have HTN : Hid (Numeral T) := by show Numeral T; rw [hT]; exact textOf_numeral _
  have HTV : Hid (numP T T.size = val pa) := by show _ = _; rw [hT]; exact textOf_num _
  have hTs : T.size ≤ 10000 := by
    rw [hT]; exact textOf_short HA.out.ok hka
  clear hT hTe
  go_wp2_with fail
  refine (nat_text _ _ _ HA.out (by omega)).mono ?_
  rw [HT.out]
  rintro e w2 ⟨rfl, hb⟩
  have HBx := hid (step_below HBel.out hb)
  clear HBel
  have HBel := HBx
  clear HBx
  replace HA := hid (HA.out.below hb)
  clear hb
  go_wp2_with fail
  refine (nat_parse_ok T _ HTN.out hTs).mono ?_
  rw [HTV.out]
  rintro e w3 ⟨v2, rfl, hs, hb⟩
  have HBx := hid (step_below HBel.out hb)
  clear HBel
  have HBel := HBx
  clear HBx
  replace HA := hid (HA.out.below hb)
  clear hb
  have HM := hid hs
  clear hs
  go_wp2_with fail
  refine (nat_plain' HA.out (by omega)).mono ?_
  rintro e w4 ⟨v3, rfl, hs, hb⟩
  have HBx := hid (step_below HBel.out hb)
  clear HBel
  have HBel := HBx
  clear HBx
  replace HA := hid (HA.out.below hb)
  replace HM := hid (HM.out.below hb)
  clear hb
  have HP := hid hs
  clear hs
  go_wp2_with fail
  refine (law_same _ _ _ _ HM.out HP.out).mono ?_
  rintro e w5 ⟨rfl, hb⟩
  have HBx := hid (step_below HBel.out hb)
  clear HBel
  have HBel := HBx
  clear HBx
  replace HA := hid (HA.out.below hb)
  clear hb
  clear HM HP
  go_wp2_with fail
  refine ((HNAT.out _)).mono ?_
  rintro e w6 ⟨rfl, rfl⟩
  go_wp2
  go_ret
  exact ⟨rfl, HBel.out⟩

set_option maxRecDepth 100000 in
set_option maxHeartbeats 2000000 in
theorem walk_ok {va : Value} {la : List Nat} {w : World} (ha : Sees w va la) (hla : la.length ≤ 35184372087808) (t : ByteArray) (h : Numeral t) (hs : t.size ≤ 900) :
    Calls Tryd.prog 4 #[va, .string t] w fun e w' => e = .returned (.bool true) ∧ Below w.heap.size w w' := by
  have HA := hid ha
  clear ha
  have HN := hid h
  have HCL := hid (read_short h hs)
  have HTT := hid (text_self h)
  clear h
  go_enter Tryd.func4, Tryd.ntmps4
  go_wp2_with fail
  refine (awake_any _).mono ?_
  rintro e w1 ⟨rfl, hb⟩
  have HBx := hid (hb)
  have HBel := HBx
  clear HBx
  replace HA := hid (HA.out.below hb)
  clear hb
  have hka : (la.take 100).length ≤ 100 := by simp; omega
  go_wp2_with fail
  refine (law_short va la 100 _ HA.out (by omega)).mono ?_
  rintro e w' ⟨⟨sa, rfl, hs⟩, rfl⟩
  obtain ⟨pa, hp⟩ : ∃ p, p = la.take 100 := ⟨_, rfl⟩
  rw [← hp] at hs hka
  clear HA hp hla
  have HA := hid hs
  clear hs
  obtain ⟨T, hT⟩ : ∃ T, T = textOf (val pa) := ⟨_, rfl⟩
  have hTe : (⟨(dec (val pa)).toArray⟩ : ByteArray) = T := hT.symm
  have HT := hid hTe
  have HTN : Hid (Numeral T) := by show Numeral T; rw [hT]; exact textOf_numeral _
  have HTV : Hid (numP T T.size = val pa) := by show _ = _; rw [hT]; exact textOf_num _
  have hTs : T.size ≤ 10000 := by
    rw [hT]; exact textOf_short HA.out.ok hka
  clear hT hTe
  go_wp2_with fail
  refine (nat_text _ _ _ HA.out (by omega)).mono ?_
  rw [HT.out]
  rintro e w2 ⟨rfl, hb⟩
  have HBx := hid (step_below HBel.out hb)
  clear HBel
  have HBel := HBx
  clear HBx
  replace HA := hid (HA.out.below hb)
  clear hb
  go_wp2_with fail
  refine (nat_parse_ok T _ HTN.out hTs).mono ?_
  rw [HTV.out]
  rintro e w3 ⟨v2, rfl, hs, hb⟩
  have HBx := hid (step_below HBel.out hb)
  clear HBel
  have HBel := HBx
  clear HBx
  replace HA := hid (HA.out.below hb)
  clear hb
  have HM := hid hs
  clear hs
  go_wp2_with fail
  refine (nat_plain' HA.out (by omega)).mono ?_
  rintro e w4 ⟨v3, rfl, hs, hb⟩
  have HBx := hid (step_below HBel.out hb)
  clear HBel
  have HBel := HBx
  clear HBx
  replace HA := hid (HA.out.below hb)
  replace HM := hid (HM.out.below hb)
  clear hb
  have HP := hid hs
  clear hs
  go_wp2_with fail
  refine (law_same _ _ _ _ HM.out HP.out).mono ?_
  rintro e w5 ⟨rfl, hb⟩
  have HBx := hid (step_below HBel.out hb)
  clear HBel
  have HBel := HBx
  clear HBx
  replace HA := hid (HA.out.below hb)
  clear hb
  clear HM HP
  go_wp2_with fail
  refine (nat_parse_ok t _ HN.out (by omega)).mono ?_
  rintro e w6 ⟨v5, rfl, hs, hb⟩
  have HBx := hid (step_below HBel.out hb)
  clear HBel
  have HBel := HBx
  clear HBx
  replace HA := hid (HA.out.below hb)
  clear hb
  have HC := hid hs
  clear hs
  go_wp2_with fail
  refine (nat_text _ _ _ HC.out HCL.out).mono ?_
  rw [val_limbs, HTT.out]
  rintro e w7 ⟨rfl, hb⟩
  have HBx := hid (step_below HBel.out hb)
  clear HBel
  have HBel := HBx
  clear HBx
  replace HA := hid (HA.out.below hb)
  replace HC := hid (HC.out.below hb)
  clear hb
  go_wp2
  go_ret
  exact ⟨rfl, HBel.out⟩

theorem walk {va : Value} {la : List Nat} {w : World} (ha : Sees w va la) (hla : la.length ≤ 35184372087808) (t : ByteArray) :
    Calls Tryd.prog 4 #[va, .string t] w fun e w' => e = .returned (.bool true) ∧ Below w.heap.size w w' := by
  rcases Nat.lt_or_ge 900 t.size with h1 | h1
  · exact walk_long ha hla t h1
  · by_cases h : Numeral t
    · exact walk_ok ha hla t h h1
    · exact walk_text ha hla t h h1

/-! ### The row's step and the card -/
theorem contract (H : Type) (enc : TypeId × Value → H) (W : World) (base : Nat) (args : Array Value) (ds gs : List (DataW H)) (before : List MemPlace)
    (hval0 : ∀ (j : Nat) t v, Tryd.f4.params[j]? = some t → args[j]? = some v → Value.okWide Tryd.prog W .any base t v)
    (hW : DataW.Whole enc Tryd.prog Tryd.f4.params.toList Rows.natBackSpec.vars false W args.toList ds gs before)
    (hsz0 : (DataW.weightsEach Tryd.prog (Tryd.f4.params.toList ++ Rows.natBackSpec.plain.varTypes Tryd.prog) (ds ++ gs)).all (· ≤ reachBytes) = true) :
    Calls Tryd.prog 4 args W fun e W' => ∃ v, e = .returned v ∧ Rows.natBackSpec.post enc Tryd.prog Tryd.f4 false true false false W args v W' := by
  have hW' := hW
  obtain ⟨p, q, hA0, hV, rfl, hfz, hnd⟩ := hW
  have hA : DataW.TrodAll enc Tryd.prog W 0 (fun _ => true) true Tryd.f4.params.toList args.toList ds p := hA0
  have hval : ∀ (j : Nat) t v, Tryd.f4.params[j]? = some t → args[j]? = some v → Value.okWide Tryd.prog W .any base t v := hval0
  have hsz : (DataW.weightsEach Tryd.prog (Tryd.f4.params.toList ++ []) (ds ++ gs)).all (· ≤ reachBytes) = true := hsz0
  rw [Tryd.params4] at hA hval hsz
  obtain ⟨v0, vs0, d0, ds0, p0, q0, hargs, rfl, rfl, h0, r0⟩ := trodAll_cons hA
  obtain ⟨v1, vs1, d1, ds1, p1, q1, rfl, rfl, rfl, h1, r1⟩ := trodAll_cons r0
  obtain ⟨rfl, rfl, rfl⟩ := trodAll_nil r1
  obtain rfl : args = #[v0, v1] := by cases args; simp_all
  obtain ⟨rfl, rfl⟩ := trodVars_none hV
  obtain ⟨l0, s0, b0⟩ := open_limbs (hval 0 22 v0 rfl rfl) h0 (fun elems spare e => by subst e; exact sized_slice hsz (j := 0) (t := 22) (e := 40) rfl rfl Tryd.underlying22)
  have k1 := h1
  have z1 := fun bytes e => sized_string hsz (j := 1) (t := 9) (bytes := bytes) rfl e
  obtain ⟨t1, rfl, rfl, rfl, wt1⟩ := Go.ChangeMaps.open_string Tryd.underlying9 (hval 1 9 v1 rfl rfl) h1
  refine (walk s0 b0 t1).mono fun e W' ⟨he, hb⟩ => ?_
  subst he
  exact ⟨_, rfl, _, _, _, _, _, _, hW', trodAll_cons_mk (shut_bool Tryd.underlying4 _) trodAll_mk0, trodAll_cons_mk (Below.trod laidOut (by kernel_rfl) (of_decide_eq_true (by kernel_rfl)) h0 hb (fun x hx => by first | cases hx; done | (have := hW'.lt x (by simp [hx]); simpa using this))) (trodAll_cons_mk (Below.trod laidOut (by kernel_rfl) (of_decide_eq_true (by kernel_rfl)) k1 hb (fun x hx => by first | cases hx; done | (have := hW'.lt x (by simp [hx]); simpa using this))) (trodAll_mk0)), rfl, hb.frame _, fun h => by cases h⟩

set_option maxRecDepth 100000 in
theorem lifted (os : Os) (started : os.Started) (H : Type) (enc : TypeId × Value → H) :
    ReturnsInHanded {} Tryd.checked os 4 .any (fun w args => (Rows.natBackSpec.pre enc Tryd.prog Tryd.f4 [] false w args ∧ laidMetH Tryd.prog laidList w) ∧ sizedMet enc Tryd.prog Tryd.f4 (OpenSpec.ofChange Rows.natBackSpec) false w args)
      (Rows.natBackSpec.post enc Tryd.prog Tryd.f4 false true false false) := by
  refine returnsInHanded_of_change_and (C := Tryd.checked) (X := fun w _ => laidMetH Tryd.prog laidList w) (fun _ _ _ hh h => h.of_heap hh) own started (by kernel_rfl) Tryd.func4
    (ChangeSpec.witness_shaped (enc := enc) (C := Tryd.checked) (os := os) (X := fun w _ => laidMetH Tryd.prog laidList w) false (World.laidAll Tryd.prog os laidList) #[.slice none 0 0, .string .empty] 8 (World.laidAll_os _ _ _)
      (World.shaped_of_ZipB (by kernel_rfl) (by kernel_rfl)) (by kernel_rfl) (by kernel_rfl) (by kernel_rfl) (laid_met os _)) ?_
  intro W base args ds gs before hval0 hW _ hsz _ _
  exact contract H enc W base args ds gs before hval0 hW hsz

theorem said : Rows.NatBackSaid :=
  OpenClaim.holds_of_wide 4 Tryd.f4 rfl rfl rfl rfl rfl rfl rfl ⟨rfl, rfl, rfl, rfl, rfl⟩ rfl rfl rfl rfl rfl (by kernel_rfl) Tryd.func4 (by kernel_rfl)
    (of_decide_eq_true (by kernel_rfl)) (by unfold Func.isWrapper; first | (rw [if_pos (by decide +kernel)]; kernel_rfl) | (rw [if_neg (by decide +kernel)]; exact ⟨rfl, rfl⟩))
    (fun os started H enc _ => lifted os started H enc)

theorem plain (f : FuncId) (fn : Func) (hf : Tryd.pinned.checked.prog.funcNamed "primrose/primroselaw01.NatBack" = some f) (hfn : Tryd.pinned.checked.prog.funcs[f]? = some fn) :
    false = Tryd.pinned.checked.prog.looks [] ∧ ∀ (j : Nat) t, fn.params[j]? = some t → Tryd.pinned.checked.prog.wantsStandIn t = false := by
  obtain rfl : f = 4 := Option.some.inj ((show Tryd.prog.funcNamed "primrose/primroselaw01.NatBack" = some 4 by kernel_rfl).symm.trans hf) |>.symm
  obtain rfl : fn = Tryd.f4 := (Option.some.inj (Tryd.func4.symm.trans hfn)).symm
  refine ⟨by kernel_rfl, fun j t ht => ?_⟩
  rw [Tryd.params4] at ht
  have hm : t ∈ [22, 9] := by simpa using Array.mem_of_getElem? ht
  have hall : ([22, 9].all fun u => !Tryd.prog.wantsStandIn u) = true := by kernel_rfl
  exact (show Tryd.prog.wantsStandIn t = false by simpa using List.all_eq_true.1 hall t hm)

/-- THE CARD. -/
theorem card : Rows.NatBackCardSaid :=
  Claim7.holds_tied_plain_at .later [] _ _ _ _ said (fun _ h => by cases h) (by kernel_rfl) (fun _ h => by cases h) natBack_row_tie rfl ⟨rfl, rfl⟩ (by kernel_rfl) rfl plain (by kernel_rfl)
end Go.Proofs.YtgcgifehpbjglabDoor.natBack
