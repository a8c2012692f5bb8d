/- For every float: what it is as a fraction becomes that float again; the zero below becomes the zero above; NaN and the infinities are refused. Conditions: none. -/
import Derived.Test.YtbmofdoehfjjdaaKP
import Derived.Test.YtbmofdoehfjjdaaKQ
import Derived.Test.YtbmofdoehfjjdaaKB
set_option linter.unusedVariables false
set_option linter.unusedSimpArgs false
namespace Go.Proofs.Ytbmofdoehfjjdaa.approxBack
open Go.ChangeShapes Go.WideShapes Go.ChangeAt Go.RowKit

set_option maxRecDepth 100000 in
set_option maxHeartbeats 4000000 in
theorem walk_bad {b : Nat} (hb : b < 18446744073709551616) (h : isNan b = true ∨ isInf b = true) (w : World) : Calls Try.prog 3 #[.float .f64 b] w fun e w' => e = .returned (.bool true) ∧ Below w.heap.size w w' := by
  have hn : (FloatKind.f64.format.order b b != some .eq) = isNan b := order_self b
  cases en : isNan b
  · rw [en] at h hn
    have hi : isInf b = true := by simpa using h
    clear h
    go_enter Try.func3, Try.ntmps3
    go_wp2_with fail
    refine (awakeF _).mono ?_
    rintro e w1 ⟨rfl, hb1⟩
    have HB1 := hid hb1
    clear hb1
    go_wp2_with fail
    refine (ap_from_bad hb (.inr hi) _).mono ?_
    rintro e w2 ⟨rfl, hb2⟩
    obtain ⟨w3, g, hw3, hg, hb3, hB3, hx3⟩ := box3_new (HB1.out.trans (hb2.mono HB1.out.size)) (.bool false) (.slice none 0 0) (.slice none 0 0)
    obtain ⟨r, hs, hrn, -⟩ := run_nan_sub 22 w3 (sub_none hi)
    have h0 := ne_nan hrn
    have HB3 := hid hB3; have HW3 := hid hw3.symm; have HG := hid hg.symm
    rw [hw3] at hs
    clear hw3 hg hb3 hB3 hx3 hb2 hrn en hi
    go_wp2_with fail
    go_ret
    exact ⟨by simp, by rw [← HW3.out] at HB3; exact HB3.out.drew⟩
  · rw [en] at hn
    clear h
    go_enter Try.func3, Try.ntmps3
    go_wp2_with fail
    refine (awakeF _).mono ?_
    rintro e w1 ⟨rfl, hb1⟩
    have HB1 := hid hb1
    clear hb1
    go_wp2_with fail
    refine (ap_from_bad hb (.inl en) _).mono ?_
    rintro e w2 ⟨rfl, hb2⟩
    have HB2 := hid ((HB1.out.trans (hb2.mono HB1.out.size)).alloc (HB1.out.trans (hb2.mono HB1.out.size)).size (.cells #[.bool false, .slice none 0 0, .slice none 0 0] 28))
    clear hb2 en
    go_wp2_with fail
    go_ret
    exact ⟨by simp, HB2.out⟩

set_option maxRecDepth 100000 in
set_option maxHeartbeats 4000000 in
theorem walk_fin {b : Nat} (hb : b < 18446744073709551616) (h : rung b < 9218868437227405312) (w : World) : Calls Try.prog 3 #[.float .f64 b] w fun e w' => e = .returned (.bool true) ∧ Below w.heap.size w w' := by
  have hn : (FloatKind.f64.format.order b b != some .eq) = false := (order_self b).trans (by unfold isNan; exact decide_eq_false (by omega))
  have h0 : (FloatKind.f64.format.order 0 0 != some .eq) = false := by decide +kernel
  have hz : (FloatKind.f64.format.order b 0 == some .eq) = isZ0 b := eq_zero b
  have hl := from_len h
  have HF := hid (fun w => ap_from hb h w)
  have hss := sub_self h
  cases ez : isZ0 b
  · have hp : 0 < rung b := Nat.pos_of_ne_zero (of_decide_eq_false ez)
    have hbk := back hb h hp
    have he : (FloatKind.f64.format.order b b == some .eq) = true := by
      have := hn
      unfold bne at this
      simpa using this
    rw [ez] at hz
    have HBK := hid hbk
    clear hbk hp ez
    generalize fnumer b = z at *
    generalize fdenom b = d at *
    go_enter Try.func3, Try.ntmps3
    go_wp2_with fail
    refine (awakeF _).mono ?_
    rintro e w1 ⟨rfl, hb1⟩
    have HB1 := hid hb1
    clear hb1
    go_wp2_with fail
    refine (HF.out _).mono ?_
    rintro e w2 ⟨v2, rfl, hq, hb2⟩
    have HQ2 := hid hq
    have hB2 := HB1.out.trans (hb2.mono HB1.out.size)
    obtain ⟨a1, b1, a2, b2, rfl⟩ := hq.form
    obtain ⟨w3, g, hw3, hg, hb3, hB3, hx3⟩ := box3_new hB2 (.bool (zneg z)) (.slice a1 (zlim z).length b1) (.slice a2 (limbs d).length b2)
    have hs := run_sub 22 w3 hss
    have HQ3 := hid (HQ2.out.below hb3)
    have HT := hid (ap_to (w := w3) HQ3.out (by omega) (by omega))
    rw [HBK.out] at HT
    have HB3 := hid hB3; have HX3 := hid hx3; have HW3 := hid hw3.symm; have HG := hid hg.symm
    rw [hw3] at hs
    clear hw3 hg hb3 hB3 hx3 hb2 hq hB2 HQ2 HF hss hl
    go_wp2_with fail
    rw [HW3.out]
    refine HT.out.mono ?_
    rintro e w4 ⟨rfl, hb4⟩
    have HB4 := hid (HB3.out.trans (hb4.mono HB3.out.size))
    clear hb4
    go_wp2_with fail
    go_ret
    exact ⟨by simp, HB4.out⟩
  · have hp : rung b = 0 := of_decide_eq_true ez
    obtain ⟨e1, e2⟩ := from_zero_parts hp
    rw [ez] at hz
    rw [e1, e2] at HF hl
    have ht : toF (zneg 0) (val (zlim 0)) (val (limbs 1)) = 0 := by unfold toF; rw [if_pos (.inr (by decide))]
    have h1 : (FloatKind.f64.format.order 0 0 == some .eq) = true := by decide +kernel
    have h2 : (FloatKind.f64.format.order 9218868437227405312 0 == some .gt) = true := by decide +kernel
    clear hp ez e1 e2
    go_enter Try.func3, Try.ntmps3
    go_wp2_with fail
    refine (awakeF _).mono ?_
    rintro e w1 ⟨rfl, hb1⟩
    have HB1 := hid hb1
    clear hb1
    go_wp2_with fail
    refine (HF.out _).mono ?_
    rintro e w2 ⟨v2, rfl, hq, hb2⟩
    have HQ2 := hid hq
    have hB2 := HB1.out.trans (hb2.mono HB1.out.size)
    obtain ⟨a1, b1, a2, b2, rfl⟩ := hq.form
    obtain ⟨w3, g, hw3, hg, hb3, hB3, hx3⟩ := box3_new hB2 (.bool (zneg 0)) (.slice a1 (zlim 0).length b1) (.slice a2 (limbs 1).length b2)
    have hs := run_sub 22 w3 hss
    have HQ3 := hid (HQ2.out.below hb3)
    have HT := hid (ap_to (w := w3) HQ3.out (by omega) (by omega))
    rw [ht] at HT
    have HB3 := hid hB3; have HX3 := hid hx3; have HW3 := hid hw3.symm; have HG := hid hg.symm
    rw [hw3] at hs
    clear hw3 hg hb3 hB3 hx3 hb2 hq hB2 HQ2 HF hss hl ht
    generalize zneg 0 = nb at *
    generalize zlim 0 = lb at *
    generalize limbs 1 = ld at *
    go_wp2_with fail
    rw [HW3.out]
    refine HT.out.mono ?_
    rintro e w4 ⟨rfl, hb4⟩
    have HB4 := hid (HB3.out.trans (hb4.mono HB3.out.size))
    have hq4 := run_quo 22 w4 (x := 4607182418800017408) (y := 0) (r := 9218868437227405312) (by decide +kernel)
    clear hb4
    go_wp2_with fail
    go_ret
    exact ⟨by simp, HB4.out⟩

theorem walk {b : Nat} (hb : b < 18446744073709551616) (w : World) : Calls Try.prog 3 #[.float .f64 b] w fun e w' => e = .returned (.bool true) ∧ Below w.heap.size w w' := by
  by_cases h : rung b < 9218868437227405312
  · exact walk_fin hb h w
  · refine walk_bad hb ?_ w
    unfold isNan isInf
    rcases Nat.lt_or_ge 9218868437227405312 (rung b) with g | g
    · exact .inl (decide_eq_true g)
    · exact .inr (decide_eq_true (by omega))

/-! ### The row's step -/
set_option maxRecDepth 100000 in
theorem contract (H : Type) (enc : TypeId × Value → H) (W : World) (base : Nat) (args : Array Value) (ds gs : List (DataW H)) (before : List MemPlace)
    (hval0 : ∀ (j : Nat) t v, Try.f3.params[j]? = some t → args[j]? = some v → Value.okWide Try.prog W .any base t v)
    (hW : DataW.Whole enc Try.prog Try.f3.params.toList Rows.approxBackSpec.vars false W args.toList ds gs before) :
    Calls Try.prog 3 args W fun e W' => ∃ v, e = .returned v ∧ Rows.approxBackSpec.post enc Try.prog Try.f3 false true false false W args v W' := by
  have hW' := hW
  obtain ⟨p, q, hA0, hV, rfl, hfz, hnd⟩ := hW
  have hA : DataW.TrodAll enc Try.prog W 0 (fun _ => true) true Try.f3.params.toList args.toList ds p := hA0
  have hval : ∀ (j : Nat) t v, Try.f3.params[j]? = some t → args[j]? = some v → Value.okWide Try.prog W .any base t v := hval0
  rw [Try.params3] at hA hval
  obtain ⟨v0, vs0, d0, ds0, p0, q0, hargs, rfl, rfl, h0, r0⟩ := trodAll_cons hA
  obtain ⟨rfl, rfl, rfl⟩ := trodAll_nil r0
  obtain rfl : args = #[v0] := by cases args; simp_all
  obtain ⟨rfl, rfl⟩ := trodVars_none hV
  have k0 := h0
  obtain ⟨b0, rfl, rfl, rfl, wb0⟩ := open_float Try.underlying22 (hval 0 22 v0 rfl rfl) h0
  have lb0 : b0 < 18446744073709551616 := by simpa [Lit.wf] using wb0
  refine (walk lb0 W).mono fun e W' ⟨he, hb⟩ => ?_
  subst he
  exact ⟨_, rfl, _, _, _, _, _, _, hW', trodAll_cons_mk (shut_bool Try.underlying4 _) trodAll_mk0, trodAll_cons_mk (Below.trod laidOut (by kernel_rfl) (of_decide_eq_true (by kernel_rfl)) k0 hb (fun x hx => by first | cases hx; done | (have := hW'.lt x (by simp [hx]); simpa using this))) (trodAll_mk0), rfl, hb.frame _, fun h => by cases h⟩

set_option maxRecDepth 100000 in
theorem lifted (os : Os) (started : os.Started) (H : Type) (enc : TypeId × Value → H) :
    ReturnsInHanded {} Try.checked os 3 .any (Rows.approxBackSpec.pre6 enc Try.prog Try.f3 Rows.approxBackRow.domain false) (Rows.approxBackSpec.post enc Try.prog Try.f3 false true false false) := by
  refine returnsInHanded_of_change (C := Try.checked) own started (by kernel_rfl) Try.func3
    (ChangeSpec.witness6 (enc := enc) (C := Try.checked) false ⟨#[], #[.float .f64 0], []⟩ 8 (by kernel_rfl) (by kernel_rfl) (by kernel_rfl) (by kernel_rfl)) ?_
  intro W base args ds gs before hval0 hW _ _
  exact contract H enc W base args ds gs before hval0 hW

theorem holds : Rows.ApproxBackSaid :=
  OpenClaim.holds_of_wide 3 Try.f3 rfl rfl rfl rfl rfl rfl rfl ⟨rfl, rfl, rfl, rfl, rfl⟩ rfl rfl rfl rfl rfl (by kernel_rfl) Try.func3 (by kernel_rfl)
    (of_decide_eq_true (by kernel_rfl)) (by unfold Func.isWrapper; first | (rw [if_pos (by decide +kernel)]; kernel_rfl) | (rw [if_neg (by decide +kernel)]; exact ⟨rfl, rfl⟩))
    (fun os started H enc _ => lifted os started H enc)
end Go.Proofs.Ytbmofdoehfjjdaa.approxBack
