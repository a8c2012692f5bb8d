/- primroselaw01.NatParses answers true for every text: nat.Parse reads what the document's reference reads, with the same error (texts of more than 600 bytes that are not too long are passed over). No condition beyond the row's own (the listed tables of the library are as its text lays them). -/
import Derived.Test.YtgcgifehpbjglaaDoorFrame
import Derived.Test.YtgcgifehpbjglaaDoorParse5
set_option linter.unusedVariables false
set_option linter.unusedSimpArgs false
namespace Go.Proofs.YtgcgifehpbjglaaDoor.natParses
open Go.ChangeShapes Go.WideShapes Go.ChangeAt Go.RowKit


set_option maxRecDepth 100000 in
set_option maxHeartbeats 2000000 in
theorem walk_skip (t : ByteArray) (w : World) (h : 600 < t.size ∧ t.size ≤ 10000) :
    Calls Tryd.prog 11 #[.string t] w fun e w' => e = .returned (.bool true) ∧ Below w.heap.size w w' := by
  have h1 : 600 < t.size := h.1
  have h2 : t.size ≤ 10000 := h.2
  clear h
  go_enter Tryd.func11, Tryd.ntmps11
  go_wp2_with fail
  refine (awake_any _).mono ?_
  rintro e w1 ⟨rfl, hb⟩
  have HBx := hid (hb)
  have HBel := HBx
  clear HBx
  clear hb
  go_wp2
  go_ret
  exact ⟨rfl, HBel.out⟩

set_option maxRecDepth 100000 in
set_option maxHeartbeats 2000000 in
theorem walk_text1 (t : ByteArray) (w : World) (ht : t.size ≤ 140737488355328) (h : ¬ Numeral t) (hs : t.size ≤ 600) :
    Calls Tryd.prog 11 #[.string t] w fun e w' => e = .returned (.bool true) ∧ Below w.heap.size w w' := by
  have HNAT : Hid (∀ w : World, Calls Tryd.prog 42 #[.string t] w fun e w' => e = .returned (.tuple #[.slice none 0 0, .int .i64 10]) ∧ w = w') := fun w => nat_parse_text t w ht h
  have HREF : Hid (∀ w : World, Calls Tryd.prog 43 #[.string t] w fun e w' => e = .returned (.tuple #[.slice none 0 0, .int .i64 10]) ∧ w = w') := fun w => by
    by_cases h0 : 0 < t.size
    · by_cases h1 : let8 t 0 = 48 ∧ 1 < t.size
      · exact ref_parse_first t w ht (.inr ⟨h0, h1.1, h1.2⟩)
      · exact ref_parse_bad t w ht h0 h1 (fun hq => h ⟨h0, h1, hq⟩)
    · exact ref_parse_first t w ht (.inl (by omega))
  clear h ht
  have hs1 : ¬ 600 < t.size := by omega
  clear hs
  go_enter Tryd.func11, Tryd.ntmps11
  go_wp2_with fail
  refine ((HNAT.out _)).mono ?_
  rintro e w1 ⟨rfl, rfl⟩
  go_wp2_with fail
  refine ((HREF.out _)).mono ?_
  rintro e w2 ⟨rfl, rfl⟩
  go_wp2_with fail
  refine (awake_any _).mono ?_
  rintro e w3 ⟨rfl, hb⟩
  have HBx := hid (hb)
  have HBel := HBx
  clear HBx
  clear hb
  go_wp2_with fail
  refine (law_same _ _ [] _ (Sees.nil _) (Sees.nil _)).mono ?_
  rintro e w4 ⟨rfl, hb⟩
  have HBx := hid (step_below HBel.out hb)
  clear HBel
  have HBel := HBx
  clear HBx
  clear hb
  go_wp2
  go_ret
  exact ⟨rfl, HBel.out⟩

set_option maxRecDepth 100000 in
set_option maxHeartbeats 2000000 in
theorem walk_text2 (t : ByteArray) (w : World) (ht : t.size ≤ 140737488355328) (h : ¬ Numeral t) (hs : 10000 < t.size) :
    Calls Tryd.prog 11 #[.string t] w fun e w' => e = .returned (.bool true) ∧ Below w.heap.size w w' := by
  have HNAT : Hid (∀ w : World, Calls Tryd.prog 42 #[.string t] w fun e w' => e = .returned (.tuple #[.slice none 0 0, .int .i64 10]) ∧ w = w') := fun w => nat_parse_text t w ht h
  have HREF : Hid (∀ w : World, Calls Tryd.prog 43 #[.string t] w fun e w' => e = .returned (.tuple #[.slice none 0 0, .int .i64 10]) ∧ w = w') := fun w => by
    by_cases h0 : 0 < t.size
    · by_cases h1 : let8 t 0 = 48 ∧ 1 < t.size
      · exact ref_parse_first t w ht (.inr ⟨h0, h1.1, h1.2⟩)
      · exact ref_parse_bad t w ht h0 h1 (fun hq => h ⟨h0, h1, hq⟩)
    · exact ref_parse_first t w ht (.inl (by omega))
  clear h ht
  have hs1 : ¬ t.size ≤ 10000 := by omega
  have hs2 : 600 < t.size := by omega
  clear hs
  go_enter Tryd.func11, Tryd.ntmps11
  go_wp2_with fail
  refine ((HNAT.out _)).mono ?_
  rintro e w1 ⟨rfl, rfl⟩
  go_wp2_with fail
  refine ((HREF.out _)).mono ?_
  rintro e w2 ⟨rfl, rfl⟩
  go_wp2_with fail
  refine (awake_any _).mono ?_
  rintro e w3 ⟨rfl, hb⟩
  have HBx := hid (hb)
  have HBel := HBx
  clear HBx
  clear hb
  go_wp2_with fail
  refine (law_same _ _ [] _ (Sees.nil _) (Sees.nil _)).mono ?_
  rintro e w4 ⟨rfl, hb⟩
  have HBx := hid (step_below HBel.out hb)
  clear HBel
  have HBel := HBx
  clear HBx
  clear hb
  go_wp2
  go_ret
  exact ⟨rfl, HBel.out⟩

set_option maxRecDepth 100000 in
set_option maxHeartbeats 2000000 in
theorem walk_long (t : ByteArray) (w : World) (ht : t.size ≤ 140737488355328) (h : Numeral t) (hs : 10000 < t.size) :
    Calls Tryd.prog 11 #[.string t] w fun e w' => e = .returned (.bool true) ∧ Below w.heap.size w w' := by
  have HNAT : Hid (∀ w : World, Calls Tryd.prog 42 #[.string t] w fun e w' => e = .returned (.tuple #[.slice none 0 0, .int .i64 2]) ∧ w = w') := fun w => nat_parse_long t w ht h hs
  have HREF : Hid (∀ w : World, Calls Tryd.prog 43 #[.string t] w fun e w' => e = .returned (.tuple #[.slice none 0 0, .int .i64 2]) ∧ w = w') := fun w => ref_parse_long t w ht h.1 h.2.1 ⟨h.2.2, hs⟩
  clear h ht
  have hs1 : ¬ t.size ≤ 10000 := by omega
  have hs2 : 600 < t.size := by omega
  clear hs
  go_enter Tryd.func11, Tryd.ntmps11
  go_wp2_with fail
  refine ((HNAT.out _)).mono ?_
  rintro e w1 ⟨rfl, rfl⟩
  go_wp2_with fail
  refine ((HREF.out _)).mono ?_
  rintro e w2 ⟨rfl, rfl⟩
  go_wp2_with fail
  refine (awake_any _).mono ?_
  rintro e w3 ⟨rfl, hb⟩
  have HBx := hid (hb)
  have HBel := HBx
  clear HBx
  clear hb
  go_wp2_with fail
  refine (law_same _ _ [] _ (Sees.nil _) (Sees.nil _)).mono ?_
  rintro e w4 ⟨rfl, hb⟩
  have HBx := hid (step_below HBel.out hb)
  clear HBel
  have HBel := HBx
  clear HBx
  clear hb
  go_wp2
  go_ret
  exact ⟨rfl, HBel.out⟩

set_option maxRecDepth 100000 in
set_option maxHeartbeats 2000000 in
theorem walk_ok (t : ByteArray) (w : World) (h : Numeral t) (hs : t.size ≤ 600) :
    Calls Tryd.prog 11 #[.string t] w fun e w' => e = .returned (.bool true) ∧ Below w.heap.size w w' := by
  have HN := hid h
  have HREF : Hid (∀ w : World, Calls Tryd.prog 43 #[.string t] w fun e w' => ∃ v, e = .returned (.tuple #[v, .int .i64 0]) ∧ Sees w' v (limbs (numP t t.size)) ∧ Below w.heap.size w w') := fun w => ref_parse_ok t w (by omega) h.1 h.2.1 ⟨h.2.2, by omega⟩
  clear h
  go_enter Tryd.func11, Tryd.ntmps11
  go_wp2_with fail
  refine (nat_parse_ok t _ HN.out (by omega)).mono ?_
  rintro e w1 ⟨v2, rfl, hs, hb⟩
  have HBx := hid (hb)
  have HBel := HBx
  clear HBx
  clear hb
  have HM := hid hs
  clear hs
  go_wp2_with fail
  refine ((HREF.out _)).mono ?_
  rintro e w2 ⟨v3, rfl, hs, hb⟩
  have HBx := hid (step_below HBel.out hb)
  clear HBel
  have HBel := HBx
  clear HBx
  replace HM := hid (HM.out.below hb)
  clear hb
  have HK := hid hs
  clear hs
  go_wp2_with fail
  refine (awake_any _).mono ?_
  rintro e w3 ⟨rfl, hb⟩
  have HBx := hid (step_below HBel.out hb)
  clear HBel
  have HBel := HBx
  clear HBx
  replace HM := hid (HM.out.below hb)
  replace HK := hid (HK.out.below hb)
  clear hb
  go_wp2_with fail
  refine (law_same _ _ _ _ HM.out HK.out).mono ?_
  rintro e w4 ⟨rfl, hb⟩
  have HBx := hid (step_below HBel.out hb)
  clear HBel
  have HBel := HBx
  clear HBx
  clear hb
  clear HM HK
  go_wp2
  go_ret
  exact ⟨rfl, HBel.out⟩

theorem walk (t : ByteArray) (ht : t.size ≤ 140737488355328) {w : World} :
    Calls Tryd.prog 11 #[.string t] w fun e w' => e = .returned (.bool true) ∧ Below w.heap.size w w' := by
  rcases Nat.lt_or_ge 600 t.size with h1 | h1
  · rcases Nat.lt_or_ge 10000 t.size with h2 | h2
    · by_cases h : Numeral t
      · exact walk_long t w ht h h2
      · exact walk_text2 t w ht h h2
    · exact walk_skip t w ⟨h1, h2⟩
  · by_cases h : Numeral t
    · exact walk_ok t w h h1
    · exact walk_text1 t w ht h h1

/-! ### The row's step and the card -/
theorem contract (H : Type) (enc : TypeId × Value → H) (W : World) (base : Nat) (args : Array Value) (ds gs : List (DataW H)) (before : List MemPlace)
    (hval0 : ∀ (j : Nat) t v, Tryd.f11.params[j]? = some t → args[j]? = some v → Value.okWide Tryd.prog W .any base t v)
    (hW : DataW.Whole enc Tryd.prog Tryd.f11.params.toList Rows.natParsesSpec.vars false W args.toList ds gs before)
    (hsz0 : (DataW.weightsEach Tryd.prog (Tryd.f11.params.toList ++ Rows.natParsesSpec.plain.varTypes Tryd.prog) (ds ++ gs)).all (· ≤ reachBytes) = true) :
    Calls Tryd.prog 11 args W fun e W' => ∃ v, e = .returned v ∧ Rows.natParsesSpec.post enc Tryd.prog Tryd.f11 false true false false W args v W' := by
  have hW' := hW
  obtain ⟨p, q, hA0, hV, rfl, hfz, hnd⟩ := hW
  have hA : DataW.TrodAll enc Tryd.prog W 0 (fun _ => true) true Tryd.f11.params.toList args.toList ds p := hA0
  have hval : ∀ (j : Nat) t v, Tryd.f11.params[j]? = some t → args[j]? = some v → Value.okWide Tryd.prog W .any base t v := hval0
  have hsz : (DataW.weightsEach Tryd.prog (Tryd.f11.params.toList ++ []) (ds ++ gs)).all (· ≤ reachBytes) = true := hsz0
  rw [Tryd.params11] at hA hval hsz
  obtain ⟨v0, vs0, d0, ds0, p0, q0, hargs, rfl, rfl, h0, r0⟩ := trodAll_cons hA
  obtain ⟨rfl, rfl, rfl⟩ := trodAll_nil r0
  obtain rfl : args = #[v0] := by cases args; simp_all
  obtain ⟨rfl, rfl⟩ := trodVars_none hV
  have k0 := h0
  have z0 := fun bytes e => sized_string hsz (j := 0) (t := 9) (bytes := bytes) rfl e
  obtain ⟨t0, rfl, rfl, rfl, wt0⟩ := Go.ChangeMaps.open_string Tryd.underlying9 (hval 0 9 v0 rfl rfl) h0
  refine (walk t0 (by have h := z0 _ rfl; have e : t0.data.toList.length = t0.size := by {cases t0; rfl}; rw [e] at h; exact Nat.le_trans h (by decide))).mono fun e W' ⟨he, hb⟩ => ?_
  subst he
  exact ⟨_, rfl, _, _, _, _, _, _, hW', trodAll_cons_mk (shut_bool Tryd.underlying4 _) trodAll_mk0, trodAll_cons_mk (Below.trod laidOut (by kernel_rfl) (of_decide_eq_true (by kernel_rfl)) k0 hb (fun x hx => by first | cases hx; done | (have := hW'.lt x (by simp [hx]); simpa using this))) (trodAll_mk0), rfl, hb.frame _, fun h => by cases h⟩

set_option maxRecDepth 100000 in
theorem lifted (os : Os) (started : os.Started) (H : Type) (enc : TypeId × Value → H) :
    ReturnsInHanded {} Tryd.checked os 11 .any (fun w args => (Rows.natParsesSpec.pre enc Tryd.prog Tryd.f11 [] false w args ∧ laidMetH Tryd.prog laidList w) ∧ sizedMet enc Tryd.prog Tryd.f11 (OpenSpec.ofChange Rows.natParsesSpec) false w args)
      (Rows.natParsesSpec.post enc Tryd.prog Tryd.f11 false true false false) := by
  refine returnsInHanded_of_change_and (C := Tryd.checked) (X := fun w _ => laidMetH Tryd.prog laidList w) (fun _ _ _ hh h => h.of_heap hh) own started (by kernel_rfl) Tryd.func11
    (ChangeSpec.witness_shaped (enc := enc) (C := Tryd.checked) (os := os) (X := fun w _ => laidMetH Tryd.prog laidList w) false (World.laidAll Tryd.prog os laidList) #[.string .empty] 8 (World.laidAll_os _ _ _)
      (World.shaped_of_ZipB (by kernel_rfl) (by kernel_rfl)) (by kernel_rfl) (by kernel_rfl) (by kernel_rfl) (laid_met os _)) ?_
  intro W base args ds gs before hval0 hW _ hsz _ _
  exact contract H enc W base args ds gs before hval0 hW hsz

theorem said : Rows.NatParsesSaid :=
  OpenClaim.holds_of_wide 11 Tryd.f11 rfl rfl rfl rfl rfl rfl rfl ⟨rfl, rfl, rfl, rfl, rfl⟩ rfl rfl rfl rfl rfl (by kernel_rfl) Tryd.func11 (by kernel_rfl)
    (of_decide_eq_true (by kernel_rfl)) (by unfold Func.isWrapper; first | (rw [if_pos (by decide +kernel)]; kernel_rfl) | (rw [if_neg (by decide +kernel)]; exact ⟨rfl, rfl⟩))
    (fun os started H enc _ => lifted os started H enc)

theorem plain (f : FuncId) (fn : Func) (hf : Tryd.pinned.checked.prog.funcNamed "primrose/primroselaw01.NatParses" = some f) (hfn : Tryd.pinned.checked.prog.funcs[f]? = some fn) :
    false = Tryd.pinned.checked.prog.looks [] ∧ ∀ (j : Nat) t, fn.params[j]? = some t → Tryd.pinned.checked.prog.wantsStandIn t = false := by
  obtain rfl : f = 11 := Option.some.inj ((show Tryd.prog.funcNamed "primrose/primroselaw01.NatParses" = some 11 by kernel_rfl).symm.trans hf) |>.symm
  obtain rfl : fn = Tryd.f11 := (Option.some.inj (Tryd.func11.symm.trans hfn)).symm
  refine ⟨by kernel_rfl, fun j t ht => ?_⟩
  rw [Tryd.params11] at ht
  have hm : t ∈ [9] := by simpa using Array.mem_of_getElem? ht
  have hall : ([9].all fun u => !Tryd.prog.wantsStandIn u) = true := by kernel_rfl
  exact (show Tryd.prog.wantsStandIn t = false by simpa using List.all_eq_true.1 hall t hm)

/-- THE CARD. -/
theorem card : Rows.NatParsesCardSaid :=
  Claim7.holds_tied_plain_at .later [] _ _ _ _ said (fun _ h => by cases h) (by kernel_rfl) (fun _ h => by cases h) natParses_row_tie rfl ⟨rfl, rfl⟩ (by kernel_rfl) rfl plain (by kernel_rfl)
end Go.Proofs.YtgcgifehpbjglaaDoor.natParses
