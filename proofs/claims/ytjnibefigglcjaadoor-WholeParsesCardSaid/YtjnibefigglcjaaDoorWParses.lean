/- primroselaw02.WholeParses answers true for every text that may be in memory: whole.Parse tells the whole number, or the error, that the document's reference tells (a text of at most 600 bytes, or of more than 10001). No condition beyond the row's own (the listed tables of the library are as its text lays them). -/
import Derived.Test.YtjnibefigglcjaaDoorZ12
set_option linter.unusedVariables false
set_option linter.unusedSimpArgs false
namespace Go.Proofs.YtjnibefigglcjaaDoor.wholeParses
open Go.ChangeShapes Go.WideShapes Go.ChangeAt Go.RowKit

set_option maxRecDepth 100000 in
set_option maxHeartbeats 2000000 in
theorem walk_skip (t : ByteArray) (w : World) (h : 600 < t.size ∧ t.size ≤ 10001) :
    Calls Tryd.prog 11 #[.string t] w fun e w' => e = .returned (.bool true) ∧ Below w.heap.size w w' := by
  obtain ⟨h1, h2⟩ := h
  go_enter Tryd.func11, Tryd.ntmps11
  go_wp2_with fail
  refine (awakeZ_any _).mono ?_
  rintro e w1 ⟨rfl, hb⟩
  have HB := hid hb
  clear hb
  go_wp2
  go_ret
  exact ⟨rfl, HB.out⟩

set_option maxRecDepth 100000 in
set_option maxHeartbeats 4000000 in
theorem walk_all (t : ByteArray) (w : World) (ht : t.size ≤ 140737488355328) (h : t.size ≤ 600 ∨ 10001 < t.size) :
    Calls Tryd.prog 11 #[.string t] w fun e w' => e = .returned (.bool true) ∧ Below w.heap.size w w' := by
  have H1 := hid (fun w => whole_parse t w ht); have H2 := hid (fun w => ref_parseZ t w ht)
  obtain ⟨E, hE⟩ : ∃ E, errZ t = E := ⟨_, rfl⟩
  have HE := hid hE
  clear hE
  go_enter Tryd.func11, Tryd.ntmps11
  rcases h with h | h
  · have hs1 : ¬ 600 < t.size := by omega
    clear h
    go_wp2_with fail
    refine (H1.out _).mono ?_
    rintro e w1 ⟨v1, rfl, hz1, hb1⟩
    rw [HE.out]
    obtain ⟨ao, ca, rfl⟩ := hz1.form
    obtain ⟨y1, g1, hy1, b1, e1, x1⟩ := one_box w1 (.bool (zneg (valZ t))) (.slice ao (zlim (valZ t)).length ca) 34
    have HY1 := hid hy1.symm; have E1 := hid e1.symm; have X1 := hid x1; have HB1 := hid (step_below hb1 b1); have HZ1 := hid (hz1.below b1)
    clear hy1 e1 x1 hb1 hz1 b1
    go_wp2_with fail
    rw [HY1.out, E1.out]
    refine (H2.out _).mono ?_
    rintro e w2 ⟨v2, rfl, hz2, hb2⟩
    rw [HE.out]
    obtain ⟨bo, cb, rfl⟩ := hz2.form
    obtain ⟨y2, g2, hy2, b2, e2, x2⟩ := one_box w2 (.bool (zneg (valZ t))) (.slice bo (zlim (valZ t)).length cb) 34
    have HY2 := hid hy2.symm; have E2 := hid e2.symm; have X2 := hid x2; have HB2 := hid (step_below HB1.out (step_below hb2 b2)); have HZ2 := hid (hz2.below b2)
    have X12 := hid ((X1.out.below hb2).below b2); have HZ12 := hid ((HZ1.out.below hb2).below b2)
    clear hy2 e2 x2 hb2 hz2 b2 HB1 X1 HZ1 HY1 E1 H1 H2
    go_wp2_with fail
    rw [HY2.out, E2.out]
    refine (awakeZ_any _).mono ?_
    rintro e w3 ⟨rfl, hb3⟩
    have HB3 := hid (step_below HB2.out hb3)
    have X13 := hid (X12.out.below hb3); have X23 := hid (X2.out.below hb3); have HZ13 := hid (HZ12.out.below hb3); have HZ23 := hid (HZ2.out.below hb3)
    obtain ⟨c0, c1, f0, f1⟩ := X13.out.cells
    obtain ⟨d0, d1, k0, k1⟩ := X23.out.cells
    clear hb3 HB2 X12 X2 HZ12 HZ2 HY2 E2
    go_wp2_with fail
    refine (law_sameZ HZ13.out.sees HZ23.out.sees).mono ?_
    rintro e w4 ⟨rfl, hb4⟩
    have HB4 := hid (step_below HB3.out hb4)
    clear hb4 HB3 X13 X23 HZ13 HZ23 c0 c1 f0 f1 d0 d1 k0 k1
    go_wp2
    go_ret
    exact ⟨by simp, HB4.out⟩
  · have hs1 : 600 < t.size := by omega
    have hs2 : ¬ t.size ≤ 10001 := by omega
    clear h
    go_wp2_with fail
    refine (H1.out _).mono ?_
    rintro e w1 ⟨v1, rfl, hz1, hb1⟩
    rw [HE.out]
    obtain ⟨ao, ca, rfl⟩ := hz1.form
    obtain ⟨y1, g1, hy1, b1, e1, x1⟩ := one_box w1 (.bool (zneg (valZ t))) (.slice ao (zlim (valZ t)).length ca) 34
    have HY1 := hid hy1.symm; have E1 := hid e1.symm; have X1 := hid x1; have HB1 := hid (step_below hb1 b1); have HZ1 := hid (hz1.below b1)
    clear hy1 e1 x1 hb1 hz1 b1
    go_wp2_with fail
    rw [HY1.out, E1.out]
    refine (H2.out _).mono ?_
    rintro e w2 ⟨v2, rfl, hz2, hb2⟩
    rw [HE.out]
    obtain ⟨bo, cb, rfl⟩ := hz2.form
    obtain ⟨y2, g2, hy2, b2, e2, x2⟩ := one_box w2 (.bool (zneg (valZ t))) (.slice bo (zlim (valZ t)).length cb) 34
    have HY2 := hid hy2.symm; have E2 := hid e2.symm; have X2 := hid x2; have HB2 := hid (step_below HB1.out (step_below hb2 b2)); have HZ2 := hid (hz2.below b2)
    have X12 := hid ((X1.out.below hb2).below b2); have HZ12 := hid ((HZ1.out.below hb2).below b2)
    clear hy2 e2 x2 hb2 hz2 b2 HB1 X1 HZ1 HY1 E1 H1 H2
    go_wp2_with fail
    rw [HY2.out, E2.out]
    refine (awakeZ_any _).mono ?_
    rintro e w3 ⟨rfl, hb3⟩
    have HB3 := hid (step_below HB2.out hb3)
    have X13 := hid (X12.out.below hb3); have X23 := hid (X2.out.below hb3); have HZ13 := hid (HZ12.out.below hb3); have HZ23 := hid (HZ2.out.below hb3)
    obtain ⟨c0, c1, f0, f1⟩ := X13.out.cells
    obtain ⟨d0, d1, k0, k1⟩ := X23.out.cells
    clear hb3 HB2 X12 X2 HZ12 HZ2 HY2 E2
    go_wp2_with fail
    refine (law_sameZ HZ13.out.sees HZ23.out.sees).mono ?_
    rintro e w4 ⟨rfl, hb4⟩
    have HB4 := hid (step_below HB3.out hb4)
    clear hb4 HB3 X13 X23 HZ13 HZ23 c0 c1 f0 f1 d0 d1 k0 k1
    go_wp2
    go_ret
    exact ⟨by simp, HB4.out⟩

theorem walk (t : ByteArray) (ht : t.size ≤ 140737488355328) {w : World} :
    Calls Tryd.prog 11 #[.string t] w fun e w' => e = .returned (.bool true) ∧ Below w.heap.size w w' := by
  by_cases h : 600 < t.size ∧ t.size ≤ 10001
  · exact walk_skip t w h
  · exact walk_all t w ht (by omega)

/-! ### The row's step and the card -/
set_option maxRecDepth 100000 in
theorem contract (H : Type) (enc : TypeId × Value → H) (W : World) (base : Nat) (args : Array Value) (ds gs : List (DataW H)) (before : List MemPlace)
    (hval0 : ∀ (j : Nat) t v, Tryd.f11.params[j]? = some t → args[j]? = some v → Value.okWide Tryd.prog W .any base t v)
    (hW : DataW.Whole enc Tryd.prog Tryd.f11.params.toList Rows.wholeParsesSpec.vars false W args.toList ds gs before)
    (hsz0 : (DataW.weightsEach Tryd.prog (Tryd.f11.params.toList ++ Rows.wholeParsesSpec.plain.varTypes Tryd.prog) (ds ++ gs)).all (· ≤ reachBytes) = true) :
    Calls Tryd.prog 11 args W fun e W' => ∃ v, e = .returned v ∧ Rows.wholeParsesSpec.post enc Tryd.prog Tryd.f11 false true false false W args v W' := by
  have hW' := hW
  obtain ⟨p, q, hA0, hV, rfl, hfz, hnd⟩ := hW
  have hA : DataW.TrodAll enc Tryd.prog W 0 (fun _ => true) true Tryd.f11.params.toList args.toList ds p := hA0
  have hval : ∀ (j : Nat) t v, Tryd.f11.params[j]? = some t → args[j]? = some v → Value.okWide Tryd.prog W .any base t v := hval0
  have hsz : (DataW.weightsEach Tryd.prog (Tryd.f11.params.toList ++ []) (ds ++ gs)).all (· ≤ reachBytes) = true := hsz0
  rw [Tryd.params11] at hA hval hsz
  obtain ⟨v0, vs0, d0, ds0, p0, q0, hargs, rfl, rfl, h0, r0⟩ := trodAll_cons hA
  obtain ⟨rfl, rfl, rfl⟩ := trodAll_nil r0
  obtain rfl : args = #[v0] := by cases args; simp_all
  obtain ⟨rfl, rfl⟩ := trodVars_none hV
  have k0 := h0
  have z0 := fun bytes e => sized_string hsz (j := 0) (t := 9) (bytes := bytes) rfl e
  obtain ⟨t0, rfl, rfl, rfl, wt0⟩ := Go.ChangeMaps.open_string Tryd.underlying9 (hval 0 9 v0 rfl rfl) h0
  refine (walk t0 (by have h := z0 _ rfl; have e : t0.data.toList.length = t0.size := by {cases t0; rfl}; rw [e] at h; exact Nat.le_trans h (by decide))).mono fun e W' ⟨he, hb⟩ => ?_
  subst he
  exact ⟨_, rfl, _, _, _, _, _, _, hW', trodAll_cons_mk (shut_bool Tryd.underlying4 _) trodAll_mk0, trodAll_cons_mk (Below.trod laidOut (by kernel_rfl) (of_decide_eq_true (by kernel_rfl)) k0 hb (fun x hx => by first | cases hx; done | (have := hW'.lt x (by simp [hx]); simpa using this))) (trodAll_mk0), rfl, hb.frame _, fun h => by cases h⟩

set_option maxRecDepth 100000 in
theorem lifted (os : Os) (started : os.Started) (H : Type) (enc : TypeId × Value → H) :
    ReturnsInHanded {} Tryd.checked os 11 .any (fun w args => (Rows.wholeParsesSpec.pre enc Tryd.prog Tryd.f11 [] false w args ∧ laidMetH Tryd.prog laidList w) ∧ sizedMet enc Tryd.prog Tryd.f11 (OpenSpec.ofChange Rows.wholeParsesSpec) false w args)
      (Rows.wholeParsesSpec.post enc Tryd.prog Tryd.f11 false true false false) := by
  refine returnsInHanded_of_change_and (C := Tryd.checked) (X := fun w _ => laidMetH Tryd.prog laidList w) (fun _ _ _ hh h => h.of_heap hh) own started (by kernel_rfl) Tryd.func11
    (ChangeSpec.witness_shaped (enc := enc) (C := Tryd.checked) (os := os) (X := fun w _ => laidMetH Tryd.prog laidList w) false (World.laidAll Tryd.prog os laidList) #[.string .empty] 8 (World.laidAll_os _ _ _)
      (World.shaped_of_ZipB (by kernel_rfl) (by kernel_rfl)) (by kernel_rfl) (by kernel_rfl) (by kernel_rfl) (laid_met os _)) ?_
  intro W base args ds gs before hval0 hW _ hsz _ _
  exact contract H enc W base args ds gs before hval0 hW hsz

theorem said : Rows.WholeParsesSaid :=
  OpenClaim.holds_of_wide 11 Tryd.f11 rfl rfl rfl rfl rfl rfl rfl ⟨rfl, rfl, rfl, rfl, rfl⟩ rfl rfl rfl rfl rfl (by kernel_rfl) Tryd.func11 (by kernel_rfl)
    (of_decide_eq_true (by kernel_rfl)) (by unfold Func.isWrapper; first | (rw [if_pos (by decide +kernel)]; kernel_rfl) | (rw [if_neg (by decide +kernel)]; exact ⟨rfl, rfl⟩))
    (fun os started H enc _ => lifted os started H enc)

theorem plain (f : FuncId) (fn : Func) (hf : Tryd.pinned.checked.prog.funcNamed "primrose/primroselaw02.WholeParses" = some f) (hfn : Tryd.pinned.checked.prog.funcs[f]? = some fn) :
    false = Tryd.pinned.checked.prog.looks [] ∧ ∀ (j : Nat) t, fn.params[j]? = some t → Tryd.pinned.checked.prog.wantsStandIn t = false := by
  obtain rfl : f = 11 := Option.some.inj ((show Tryd.prog.funcNamed "primrose/primroselaw02.WholeParses" = some 11 by kernel_rfl).symm.trans hf) |>.symm
  obtain rfl : fn = Tryd.f11 := (Option.some.inj (Tryd.func11.symm.trans hfn)).symm
  refine ⟨by kernel_rfl, fun j t ht => ?_⟩
  rw [Tryd.params11] at ht
  have hm : t ∈ [9] := by simpa using Array.mem_of_getElem? ht
  have hall : ([9].all fun u => !Tryd.prog.wantsStandIn u) = true := by kernel_rfl
  exact (show Tryd.prog.wantsStandIn t = false by simpa using List.all_eq_true.1 hall t hm)

/-- THE CARD. -/
theorem card : Rows.WholeParsesCardSaid :=
  Claim7.holds_tied_plain_at .later [] _ _ _ _ said (fun _ h => by cases h) (by kernel_rfl) (fun _ h => by cases h) wholeParses_row_tie rfl ⟨rfl, rfl⟩ (by kernel_rfl) rfl plain (by kernel_rfl)
end Go.Proofs.YtjnibefigglcjaaDoor.wholeParses
