/- For every fraction (the first 40 limbs), approx.To answers the float that the document's To answers. Conditions: none. -/
import Derived.Test.YtcogldhjkjiodaaGreatTd
import Derived.Test.YtcogldhjkjiodaaGreatDs
import Derived.Test.YtcogldhjkjiodaaGreatOq
import Derived.Test.YtcogldhjkjiodaaGreatKQ
import Derived.HandedShaped
set_option linter.unusedVariables false
set_option linter.unusedSimpArgs false
namespace Go.Proofs.YtcogldhjkjiodaaGreat.approxTos
open Go.ChangeShapes Go.WideShapes Go.ChangeAt Go.RowKit

theorem len40 (l : List Nat) : (l.take 40).length ≤ 40 := by simp; omega
theorem same_self {a : Nat} (h : isNan a = false) : sameB a a = true := by unfold sameB; rw [h]; simp

set_option maxRecDepth 100000 in
set_option maxHeartbeats 4000000 in
theorem walk {v : Value} {n : Bool} {xa ya : List Nat} {w : World} (ha : SeesQ w v n xa ya) (hxa : xa.length ≤ 35184372087808) (hya : ya.length ≤ 35184372087808) :
    Calls Tryz.prog 3 #[v] w fun e w' => e = .returned (.bool true) ∧ Below w.heap.size w w' := by
  have l1 := len40 xa; have l2 := len40 ya
  obtain ⟨ao, ac, bo, bc, rfl⟩ := id ha.form
  obtain ⟨y, hy⟩ : ∃ y, y = w.alloc (.cells #[.bool n, .slice ao xa.length ac, .slice bo ya.length bc] 26) := ⟨_, rfl⟩
  have bl : Below w.heap.size w y := by rw [hy]; exact (Below.refl _ w).alloc (Nat.le_refl _) _
  have xA : Blk y w.heap.size #[.bool n, .slice ao xa.length ac, .slice bo ya.length bc] := by rw [hy]; exact Blk.new ..
  have HSH := hid (law_shortQ 40 (ha.below bl) (by decide))
  generalize xa.take 40 = la at *
  generalize ya.take 40 = da at *
  obtain ⟨g, hg⟩ : ∃ g, g = w.heap.size := ⟨_, rfl⟩
  rw [← hg] at xA
  have g1 : w.heap.size ≤ g := by omega
  have HGE := hid g1
  have HY := hid hy.symm; have HG := hid hg.symm; have HBel := hid bl; have XA := hid xA
  clear hy hg bl xA ha g1
  go_enter Tryz.func3, Tryz.ntmps3
  go_wp2_with fail
  rw [HY.out, HG.out]
  clear HY HG
  refine HSH.out.mono ?_
  rintro e w1 ⟨v1, rfl, hq1, hb1⟩
  obtain ⟨p1, p2, p3, p4, rfl⟩ := hq1.form
  have ZA := XA.out.below hb1
  have HW1 := HBel.out.trans (hb1.mono HBel.out.size)
  have HS : Hid (SeesQ (((w1.setCell ⟨g, 0, none⟩ (.bool n)).setCell ⟨g, 1, none⟩ (.slice p1 la.length p2)).setCell ⟨g, 2, none⟩ (.slice p3 da.length p4)) (.agg #[.bool n, .slice p1 la.length p2, .slice p3 da.length p4]) n la da ∧ Blk (((w1.setCell ⟨g, 0, none⟩ (.bool n)).setCell ⟨g, 1, none⟩ (.slice p1 la.length p2)).setCell ⟨g, 2, none⟩ (.slice p3 da.length p4)) g #[.bool n, .slice p1 la.length p2, .slice p3 da.length p4] ∧ Below w.heap.size w (((w1.setCell ⟨g, 0, none⟩ (.bool n)).setCell ⟨g, 1, none⟩ (.slice p1 la.length p2)).setCell ⟨g, 2, none⟩ (.slice p3 da.length p4))) :=
    ⟨hq1.st ZA _ _ _, ZA.st _ _ _, below_st HW1 HGE.out _ _ _⟩
  obtain ⟨a0, a1, a2, a3, a4, a5⟩ := ZA.open3
  have hltA := ZA.lt
  clear hq1 hb1 HSH HW1 XA HBel
  go_wp2_with fail
  refine atWorld (fun w' => SeesQ w' (.agg #[.bool n, .slice p1 la.length p2, .slice p3 da.length p4]) n la da ∧ Blk w' g #[.bool n, .slice p1 la.length p2, .slice p3 da.length p4] ∧ Below w.heap.size w w') HS.out ?_
  rintro wf ⟨hf1, hf2, hf3⟩
  clear HS ZA a0 a1 a2 a3 a4 a5 hltA
  have HK1 := hid (fun (w' : World) (h : Below wf.heap.size wf w') => ap_to (hf1.below h) (by omega) (by omega))
  have HK2 := hid (fun (w' : World) (h : Below wf.heap.size wf w') => ref4_to (hf1.below h) (by omega) (by omega))
  have ht := toF_plain n la da
  rw [ht] at HK1
  have HSM := hid (law_same (tq_lt (qnum (zval n la) (val da)) (qden (zval n la) (val da))) (tq_lt (qnum (zval n la) (val da)) (qden (zval n la) (val da))))
  rw [same_self (tq_num _ _)] at HSM
  have HX := hid hf2; have HB := hid hf3
  have HF0 := hid (Below.refl wf.heap.size wf).drew
  clear hf1 hf2 hf3 ht
  generalize tq (qnum (zval n la) (val da)) (qden (zval n la) (val da)) = FF at *
  go_region_with (first
    | (go_at_call 9
       refine (awakeF _).mono ?_
       rintro e w2 ⟨rfl, hb2⟩
       have HF2 := hid (step_below HF0.out hb2)
       obtain ⟨d0, d1, d2, -, -, -⟩ := (HX.out.below HF2.out).open3
       clear hb2)
    | (go_at_call 11
       refine (HK1.out _ (by exact HF2.out)).mono ?_
       rintro e w3 ⟨rfl, hb3⟩
       have HF3 := hid (step_below HF2.out hb3)
       clear d0 d1 d2
       obtain ⟨d0, d1, d2, -, -, -⟩ := (HX.out.below HF3.out).open3
       clear hb3)
    | (go_at_call 12
       refine (HK2.out _ (by exact HF3.out)).mono ?_
       rintro e w4 ⟨rfl, hb4⟩
       have HF4 := hid (step_below HF3.out hb4)
       clear d0 d1 d2
       clear hb4)
    | (go_at_call 10
       refine (HSM.out _).mono ?_
       rintro e w5 ⟨rfl, rfl⟩))
  all_goals
    have HBE := hid (HB.out.trans (HF4.out.mono HB.out.size))
    go_wp2_with fail
    go_ret
    exact ⟨by first | rfl | simp, HBE.out⟩

/-! ### The row's step -/
set_option maxRecDepth 100000 in
theorem contract (H : Type) (enc : TypeId × Value → H) (W : World) (base : Nat) (args : Array Value) (ds gs : List (DataW H)) (before : List MemPlace)
    (hval0 : ∀ (j : Nat) t v, Tryz.f3.params[j]? = some t → args[j]? = some v → Value.okWide Tryz.prog W .any base t v)
    (hW : DataW.Whole enc Tryz.prog Tryz.f3.params.toList Rows.approxTosSpec.vars false W args.toList ds gs before)
    (hsz0 : (DataW.weightsEach Tryz.prog (Tryz.f3.params.toList ++ Rows.approxTosSpec.plain.varTypes Tryz.prog) (ds ++ gs)).all (· ≤ reachBytes) = true) :
    Calls Tryz.prog 3 args W fun e W' => ∃ v, e = .returned v ∧ Rows.approxTosSpec.post enc Tryz.prog Tryz.f3 false true false false W args v W' := by
  have hW' := hW
  obtain ⟨p, q, hA0, hV, rfl, hfz, hnd⟩ := hW
  have hA : DataW.TrodAll enc Tryz.prog W 0 (fun _ => true) true Tryz.f3.params.toList args.toList ds p := hA0
  have hval : ∀ (j : Nat) t v, Tryz.f3.params[j]? = some t → args[j]? = some v → Value.okWide Tryz.prog W .any base t v := hval0
  have hsz : (DataW.weightsEach Tryz.prog (Tryz.f3.params.toList ++ []) (ds ++ gs)).all (· ≤ reachBytes) = true := hsz0
  rw [Tryz.params3] at hA hval hsz
  obtain ⟨v0, vs0, d0, ds0, p0, q0, hargs, rfl, rfl, h0, r0⟩ := trodAll_cons hA
  obtain ⟨rfl, rfl, rfl⟩ := trodAll_nil r0
  obtain rfl : args = #[v0] := by cases args; simp_all
  obtain ⟨rfl, rfl⟩ := trodVars_none hV
  obtain ⟨g0, l0, m0, s0, bl0, bm0⟩ := open_q (hval 0 26 v0 rfl rfl) h0 (sized_arg hsz (j := 0) (t := 26) rfl rfl)
  refine (walk s0 bl0 bm0).mono fun e W' ⟨he, hb⟩ => ?_
  subst he
  exact ⟨_, rfl, _, _, _, _, _, _, hW', trodAll_cons_mk (shut_bool Tryz.underlying4 _) trodAll_mk0, trodAll_cons_mk (Below.trod laidOut (by kernel_rfl) (of_decide_eq_true (by kernel_rfl)) h0 hb (fun x hx => by first | cases hx; done | (have := hW'.lt x (by simp [hx]); simpa using this))) (trodAll_mk0), rfl, hb.frame _, fun h => by cases h⟩

set_option maxRecDepth 100000 in
theorem lifted (os : Os) (started : os.Started) (H : Type) (enc : TypeId × Value → H) :
    ReturnsInHanded {} Tryz.checked os 3 .any (Rows.approxTosSpec.pre6 enc Tryz.prog Tryz.f3 Rows.approxTosRow.domain false) (Rows.approxTosSpec.post enc Tryz.prog Tryz.f3 false true false false) := by
  refine returnsInHanded_of_change_shaped (C := Tryz.checked) own started (by kernel_rfl) Tryz.func3
    (ChangeSpec.witness6 (enc := enc) (C := Tryz.checked) false ⟨#[], #[.agg #[.bool false, .slice none 0 0, .slice none 0 0]], []⟩ 8 (by kernel_rfl) (by kernel_rfl) (by kernel_rfl) (by kernel_rfl)) ?_
  intro W base args ds gs before hval0 hW _ hsz _ _
  exact contract H enc W base args ds gs before hval0 hW hsz

theorem holds : Rows.ApproxTosSaid :=
  OpenClaim.holds_of_wide 3 Tryz.f3 rfl rfl rfl rfl rfl rfl rfl ⟨rfl, rfl, rfl, rfl, rfl⟩ rfl rfl rfl rfl rfl (by kernel_rfl) Tryz.func3 (by kernel_rfl)
    (of_decide_eq_true (by kernel_rfl)) (by unfold Func.isWrapper; first | (rw [if_pos (by decide +kernel)]; kernel_rfl) | (rw [if_neg (by decide +kernel)]; exact ⟨rfl, rfl⟩))
    (fun os started H enc _ => lifted os started H enc)
end Go.Proofs.YtcogldhjkjiodaaGreat.approxTos
