/- For every float, approx.From answers the fraction, or the error, that the document's From answers. Conditions: none. -/
import Derived.Test.YtbmofdoehfjjdaaGreatKS
import Derived.Test.YtbmofdoehfjjdaaGreatKQ
import Derived.Test.YtbmofdoehfjjdaaGreatKB
set_option linter.unusedVariables false
set_option linter.unusedSimpArgs false
namespace Go.Proofs.YtbmofdoehfjjdaaGreat.approxFroms
open Go.ChangeShapes Go.WideShapes Go.ChangeAt Go.RowKit

set_option maxRecDepth 100000 in
set_option maxHeartbeats 4000000 in
/-- Both calls answer the same fraction z/d, with the same error. -/
theorem steps {b er : Nat} {n : Bool} {l d : List Nat} (w : World)
    (h1 : ∀ w, Calls Tryz.prog 17 #[.float .f64 b] w fun e w' => ∃ v, e = .returned (.tuple #[v, .int .i64 (er : Nat)]) ∧ SeesQ w' v n l d ∧ Below w.heap.size w w')
    (h2 : ∀ w, Calls Tryz.prog 18 #[.float .f64 b] w fun e w' => ∃ v, e = .returned (.tuple #[v, .int .i64 (er : Nat)]) ∧ SeesQ w' v n l d ∧ Below w.heap.size w w') :
    Calls Tryz.prog 4 #[.float .f64 b] w fun e w' => e = .returned (.bool true) ∧ Below w.heap.size w w' := by
  have H1 := hid h1; have H2 := hid h2
  clear h1 h2
  go_enter Tryz.func4, Tryz.ntmps4
  go_wp2_with fail
  refine (H1.out _).mono ?_
  rintro e w1 ⟨v1, rfl, hq, hb1⟩
  have HQ1 := hid hq
  obtain ⟨a1, b1, a2, b2, rfl⟩ := hq.form
  obtain ⟨w2, g1, hw2, hg1, hb2, hB2, hx2⟩ := box3_new hb1 (.bool n) (.slice a1 l.length b1) (.slice a2 d.length b2)
  have HQ2 := hid (HQ1.out.below hb2); have HB2 := hid hB2; have HX2 := hid hx2; have HW2 := hid hw2.symm; have HG1 := hid hg1.symm
  clear hq hb1 hw2 hg1 hb2 hB2 hx2 HQ1
  go_wp2_with fail
  rw [HW2.out, HG1.out]
  refine (H2.out _).mono ?_
  rintro e w3 ⟨v3, rfl, hq, hb⟩
  have HQ3 := hid hq
  have HB3 := hid (HB2.out.trans (hb.mono HB2.out.size)); have HX3 := hid (HX2.out.below hb); have HP3 := hid (HQ2.out.below hb)
  obtain ⟨a3, b3, a4, b4, rfl⟩ := hq.form
  obtain ⟨w4, g2, hw4, hg2, hb4, hB4, hy4⟩ := box3_new HB3.out (.bool n) (.slice a3 l.length b3) (.slice a4 d.length b4)
  have HQ4 := hid (HQ3.out.below hb4); have HB4 := hid hB4; have HY4 := hid hy4; have HX4 := hid (HX3.out.below hb4); have HP4 := hid (HP3.out.below hb4)
  have HW4 := hid hw4.symm; have HG2 := hid hg2.symm
  clear hq hb hw4 hg2 hb4 hB4 hy4 HQ2 HB2 HX2 HW2 HQ3 HB3 HX3 HP3
  go_wp2_with fail
  rw [HW4.out, HG2.out]
  refine (awakeF _).mono ?_
  rintro e w5 ⟨rfl, hb⟩
  have HB5 := hid (HB4.out.trans (hb.mono HB4.out.size)); have HX5 := hid (HX4.out.below hb); have HP5 := hid (HP4.out.below hb); have HY5 := hid (HY4.out.below hb); have HR5 := hid (HQ4.out.below hb)
  clear hb HQ4 HB4 HX4 HP4 HY4 HW4
  obtain ⟨c0, c1, c2, f0, f1, f2⟩ := HX5.out.open3
  obtain ⟨d0, d1, d2, k0, k1, k2⟩ := HY5.out.open3
  go_wp2_with fail
  refine (ref_sameQ HP5.out HR5.out).mono ?_
  rintro e w6 ⟨rfl, hb⟩
  have HB6 := hid (HB5.out.trans (hb.mono HB5.out.size))
  clear hb
  go_wp2_with fail
  go_ret
  exact ⟨by simp, HB6.out⟩

theorem walk {b : Nat} (hb : b < 18446744073709551616) (w : World) : Calls Tryz.prog 4 #[.float .f64 b] w fun e w' => e = .returned (.bool true) ∧ Below w.heap.size w w' := by
  by_cases h : rung b < 9218868437227405312
  · refine steps (er := 0) (n := zneg (fnumer b)) (l := zlim (fnumer b)) (d := limbs (fdenom b)) w (fun w => ?_) (fun w => ?_)
    · exact ap_from hb h w
    · rcases Nat.eq_zero_or_pos (rung b) with h0 | h0
      · exact ref_from_zero hb h0 w
      · exact ref_from_fin hb h h0 w
  · have hx : isNan b = true ∨ isInf b = true := by
      unfold isNan isInf
      rcases Nat.lt_or_ge 9218868437227405312 (rung b) with g | g
      · exact .inl (decide_eq_true g)
      · exact .inr (decide_eq_true (by omega))
    refine steps (er := 40) (n := false) (l := []) (d := []) w (fun w => ?_) (fun w => ?_)
    · refine (ap_from_bad hb hx w).mono ?_
      rintro e w' ⟨rfl, h2⟩
      exact ⟨_, rfl, ⟨_, _, rfl, Sees.nil _, Sees.nil _⟩, h2⟩
    · refine (ref_from_bad hx w).mono ?_
      rintro e w' ⟨rfl, h2⟩
      exact ⟨_, rfl, ⟨_, _, rfl, Sees.nil _, Sees.nil _⟩, h2⟩

/-! ### The row's step -/
set_option maxRecDepth 100000 in
theorem contract (H : Type) (enc : TypeId × Value → H) (W : World) (base : Nat) (args : Array Value) (ds gs : List (DataW H)) (before : List MemPlace)
    (hval0 : ∀ (j : Nat) t v, Tryz.f4.params[j]? = some t → args[j]? = some v → Value.okWide Tryz.prog W .any base t v)
    (hW : DataW.Whole enc Tryz.prog Tryz.f4.params.toList Rows.approxFromsSpec.vars false W args.toList ds gs before) :
    Calls Tryz.prog 4 args W fun e W' => ∃ v, e = .returned v ∧ Rows.approxFromsSpec.post enc Tryz.prog Tryz.f4 false true false false W args v W' := by
  have hW' := hW
  obtain ⟨p, q, hA0, hV, rfl, hfz, hnd⟩ := hW
  have hA : DataW.TrodAll enc Tryz.prog W 0 (fun _ => true) true Tryz.f4.params.toList args.toList ds p := hA0
  have hval : ∀ (j : Nat) t v, Tryz.f4.params[j]? = some t → args[j]? = some v → Value.okWide Tryz.prog W .any base t v := hval0
  rw [Tryz.params4] at hA hval
  obtain ⟨v0, vs0, d0, ds0, p0, q0, hargs, rfl, rfl, h0, r0⟩ := trodAll_cons hA
  obtain ⟨rfl, rfl, rfl⟩ := trodAll_nil r0
  obtain rfl : args = #[v0] := by cases args; simp_all
  obtain ⟨rfl, rfl⟩ := trodVars_none hV
  have k0 := h0
  obtain ⟨b0, rfl, rfl, rfl, wb0⟩ := open_float Tryz.underlying30 (hval 0 30 v0 rfl rfl) h0
  have lb0 : b0 < 18446744073709551616 := by simpa [Lit.wf] using wb0
  refine (walk lb0 W).mono fun e W' ⟨he, hb⟩ => ?_
  subst he
  exact ⟨_, rfl, _, _, _, _, _, _, hW', trodAll_cons_mk (shut_bool Tryz.underlying4 _) trodAll_mk0, trodAll_cons_mk (Below.trod laidOut (by kernel_rfl) (of_decide_eq_true (by kernel_rfl)) k0 hb (fun x hx => by first | cases hx; done | (have := hW'.lt x (by simp [hx]); simpa using this))) (trodAll_mk0), rfl, hb.frame _, fun h => by cases h⟩

set_option maxRecDepth 100000 in
theorem lifted (os : Os) (started : os.Started) (H : Type) (enc : TypeId × Value → H) :
    ReturnsInHanded {} Tryz.checked os 4 .any (Rows.approxFromsSpec.pre6 enc Tryz.prog Tryz.f4 Rows.approxFromsRow.domain false) (Rows.approxFromsSpec.post enc Tryz.prog Tryz.f4 false true false false) := by
  refine returnsInHanded_of_change (C := Tryz.checked) own started (by kernel_rfl) Tryz.func4
    (ChangeSpec.witness6 (enc := enc) (C := Tryz.checked) false ⟨#[], #[.float .f64 0], []⟩ 8 (by kernel_rfl) (by kernel_rfl) (by kernel_rfl) (by kernel_rfl)) ?_
  intro W base args ds gs before hval0 hW _ _
  exact contract H enc W base args ds gs before hval0 hW

theorem holds : Rows.ApproxFromsSaid :=
  OpenClaim.holds_of_wide 4 Tryz.f4 rfl rfl rfl rfl rfl rfl rfl ⟨rfl, rfl, rfl, rfl, rfl⟩ rfl rfl rfl rfl rfl (by kernel_rfl) Tryz.func4 (by kernel_rfl)
    (of_decide_eq_true (by kernel_rfl)) (by unfold Func.isWrapper; first | (rw [if_pos (by decide +kernel)]; kernel_rfl) | (rw [if_neg (by decide +kernel)]; exact ⟨rfl, rfl⟩))
    (fun os started H enc _ => lifted os started H enc)
end Go.Proofs.YtbmofdoehfjjdaaGreat.approxFroms
