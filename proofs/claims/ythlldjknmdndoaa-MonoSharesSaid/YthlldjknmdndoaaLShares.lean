/- For all lists of ints a, b of at most 1000 each: mono.Lcm and mono.Gcd tell both or none; the first is divided by both, both are divided by the second, the two quotients are the same, and the sum of degrees is that of both. Conditions: none. -/
import Derived.Test.YthlldjknmdndoaaMoX
import Derived.Deep.RegionHeld3
import Derived.Deep.RegionLaw
set_option linter.unusedVariables false
set_option linter.unusedSimpArgs false
namespace Go.Proofs.Ythlldjknmdndoaa.monoShares
open Go.ChangeShapes Go.WideShapes Go.ChangeAt Go.RowKit Go.Joins

set_option maxRecDepth 100000 in
set_option maxHeartbeats 2000000 in
theorem walk {a b : Value} {l m : List Int} {w : World} (ha : SeesI w a l) (hb : SeesI w b m) : Calls Try.prog 10 #[a, b] w fun e w' => e = .returned (.bool true) ∧ Below w.heap.size w w' := by
  have HA : Hid (∀ w1, Below w.heap.size w w1 → SeesI w1 a l) := fun w1 h => SeesI.below ha h
  have HB : Hid (∀ w1, Below w.heap.size w w1 → SeesI w1 b m) := fun w1 h => SeesI.below hb h
  have hl1 := ha.len
  have hl2 := hb.len
  have B0 := hidP (Below.refl w.heap.size w)
  have C0 := hidP awake6
  obtain ⟨A, ca, rfl, hca⟩ := SeesF.form ha
  obtain ⟨Bq, cb, rfl, hcb⟩ := SeesF.form hb
  clear ha hb
  by_cases h1 : (l.length : Int) > 1000
  · clear HA HB
    go_enter Try.func10, Try.ntmps10
    go_wp2_with fail
    refine (C0.out _).mono ?_
    rintro e w1 ⟨rfl, hb1⟩
    have B1 := hidP (step_below B0.out hb1)
    clear hb1
    go_wp2
    go_ret
    exact ⟨rfl, B1.out⟩
  by_cases h2 : (m.length : Int) > 1000
  · clear HA HB
    go_enter Try.func10, Try.ntmps10
    go_wp2_with fail
    refine (C0.out _).mono ?_
    rintro e w1 ⟨rfl, hb1⟩
    have B1 := hidP (step_below B0.out hb1)
    clear hb1
    go_wp2
    go_ret
    exact ⟨rfl, B1.out⟩
  have hn1 : l.length ≤ 4096 := by omega
  have hn2 : m.length ≤ 4096 := by omega
  cases hal : alikeB l m with
  | false =>
    have L1 : opB gLcm l m = false := (lcm_alike l m).trans hal
    have L2 : opB gGcd l m = false := (gcd_alike l m).trans hal
    go_enter Try.func10, Try.ntmps10
    go_wp2_with fail
    refine (C0.out _).mono ?_
    rintro e w1 ⟨rfl, hb1⟩
    have B1 := hidP (step_below B0.out hb1)
    clear hb1
    go_wp2_with fail
    refine (tells_false (mono_Lcm (HA.out _ B1.out) (HB.out _ B1.out) hn1) L1).mono ?_
    rintro e w2 ⟨ao, cap, rfl, hb2⟩
    have B2 := hidP (step_below B1.out hb2)
    clear hb2
    go_wp2_with fail
    refine (tells_false (mono_Gcd (HA.out _ B2.out) (HB.out _ B2.out) hn1) L2).mono ?_
    rintro e w3 ⟨ao2, cap2, rfl, hb3⟩
    have B3 := hidP (step_below B2.out hb3)
    clear hb3
    go_wp2
    go_ret
    exact ⟨rfl, B3.out⟩
  | true =>
    have L1 : opB gLcm l m = true := (lcm_alike l m).trans hal
    have L2 : opB gGcd l m = true := (gcd_alike l m).trans hal
    obtain ⟨q1, q2, q3, q4, q5, q6⟩ := shares hal
    have hlm := (alikeB_iff.1 hal).1
    have z1 := zipG_len gLcm hlm
    have z2 := zipG_len gGcd hlm
    have O1 := opL_some L1
    have O2 := opL_some L2
    obtain ⟨x, hx⟩ : ∃ x, List.zipWith gLcm l m = x := ⟨_, rfl⟩
    obtain ⟨y, hy⟩ : ∃ y, List.zipWith gGcd l m = y := ⟨_, rfl⟩
    rw [hx] at q1 q3 q5 q6 z1 O1
    rw [hy] at q2 q4 q5 q6 z2 O2
    have d1 := degL_small (l := l) (by omega)
    have d2 := degL_small (l := m) (by omega)
    have d3 := degL_small (l := x) (by omega)
    have d4 := degL_small (l := y) (by omega)
    obtain ⟨X, hX⟩ : ∃ X, degL l = X := ⟨_, rfl⟩
    obtain ⟨Y, hY⟩ : ∃ Y, degL m = Y := ⟨_, rfl⟩
    obtain ⟨U, hU⟩ : ∃ U, degL x = U := ⟨_, rfl⟩
    obtain ⟨V, hV⟩ : ∃ V, degL y = V := ⟨_, rfl⟩
    rw [hX] at d1 q6
    rw [hY] at d2 q6
    rw [hU] at d3 q6
    rw [hV] at d4 q6
    obtain ⟨T, hT⟩ : ∃ T, X + Y = T := ⟨_, rfl⟩
    rw [hT] at q6
    have hw1 : IntKind.i64.wrap (X + Y) = T := by rw [IntKind.wrap_i64]; omega
    have hw2 : IntKind.i64.wrap (U + V) = T := by rw [IntKind.wrap_i64]; omega
    have hw3 : RowKit.wrap64 (X + Y) = T := by unfold RowKit.wrap64; omega
    have hw4 : RowKit.wrap64 (U + V) = T := by unfold RowKit.wrap64; omega
    have HX := hidP hX; have HY := hidP hY; have HU := hidP hU; have HV := hidP hV
    have N1 := hidP L1; have N2 := hidP L2; have Q1 := hidP q1; have Q2 := hidP q2; have Q3 := hidP q3; have Q4 := hidP q4; have Q5 := hidP q5; have HO1 := hidP O1; have HO2 := hidP O2
    have hn3 : x.length ≤ 4096 := by omega
    clear L1 L2 q1 q2 q3 q4 q5 hlm z1 z2 O1 O2 hx hy d1 d2 d3 d4 hX hY hU hV hal
    go_enter Try.func10, Try.ntmps10
    go_wp2_with fail
    refine (C0.out _).mono ?_
    rintro e w1 ⟨rfl, hb1⟩
    have B1 := hidP (step_below B0.out hb1)
    clear hb1
    go_wp2_with fail
    refine (tells_true (mono_Lcm (HA.out _ B1.out) (HB.out _ B1.out) hn1) N1.out HO1.out).mono ?_
    rintro e w2 ⟨p, rfl, hp, hb2⟩
    have B2 := hidP (step_below B1.out hb2)
    clear hb2
    have P := hidP hp
    clear hp
    go_wp2_with fail
    refine (tells_true (mono_Gcd (HA.out _ B2.out) (HB.out _ B2.out) hn1) N2.out HO2.out).mono ?_
    rintro e w3 ⟨q, rfl, hq, hb3⟩
    have B3 := hidP (step_below B2.out hb3)
    replace P := hidP (P.out.below hb3)
    clear hb3
    have Q := hidP hq
    clear hq
    go_wp2_with fail
    refine (tells_true (mono_Div P.out (HA.out _ B3.out) hn3) Q1.out Q5.out).mono ?_
    rintro e w4 ⟨c, rfl, hc, hb4⟩
    have B4 := hidP (step_below B3.out hb4)
    replace P := hidP (P.out.below hb4)
    replace Q := hidP (Q.out.below hb4)
    clear hb4
    have D1 := hidP hc
    clear hc
    go_wp2_with fail
    refine (tells_true (mono_Div (HB.out _ B4.out) Q.out hn2) Q2.out rfl).mono ?_
    rintro e w5 ⟨d, rfl, hd, hb5⟩
    have B5 := hidP (step_below B4.out hb5)
    replace P := hidP (P.out.below hb5)
    replace Q := hidP (Q.out.below hb5)
    replace D1 := hidP (D1.out.below hb5)
    clear hb5
    have D2 := hidP hd
    clear hd
    go_wp2_with fail
    refine (tells_true (mono_Div P.out (HB.out _ B5.out) hn3) Q3.out rfl).mono ?_
    rintro e w6 ⟨e3, rfl, he, hb6⟩
    have B6 := hidP (step_below B5.out hb6)
    replace P := hidP (P.out.below hb6)
    replace Q := hidP (Q.out.below hb6)
    replace D1 := hidP (D1.out.below hb6)
    replace D2 := hidP (D2.out.below hb6)
    clear hb6
    have D3 := hidP he
    clear he
    go_wp2_with fail
    refine (tells_true (mono_Div (HA.out _ B6.out) Q.out hn1) Q4.out rfl).mono ?_
    rintro e w7 ⟨e4, rfl, he, hb7⟩
    have B7 := hidP (step_below B6.out hb7)
    replace P := hidP (P.out.below hb7)
    replace Q := hidP (Q.out.below hb7)
    replace D1 := hidP (D1.out.below hb7)
    replace D2 := hidP (D2.out.below hb7)
    replace D3 := hidP (D3.out.below hb7)
    clear hb7
    have D4 := hidP he
    clear he
    go_wp2_with fail
    refine (same_true D1.out D2.out).mono ?_
    rintro e w8 ⟨rfl, hb8⟩
    have B8 := hidP (step_below B7.out hb8)
    replace P := hidP (P.out.below hb8)
    replace Q := hidP (Q.out.below hb8)
    replace D1 := hidP (D1.out.below hb8)
    replace D2 := hidP (D2.out.below hb8)
    replace D3 := hidP (D3.out.below hb8)
    replace D4 := hidP (D4.out.below hb8)
    clear hb8
    go_wp2_with fail
    refine (degree_below P.out HU.out).mono ?_
    rintro e w9 ⟨rfl, hb9⟩
    have B9 := hidP (step_below B8.out hb9)
    replace P := hidP (P.out.below hb9)
    replace Q := hidP (Q.out.below hb9)
    replace D1 := hidP (D1.out.below hb9)
    replace D2 := hidP (D2.out.below hb9)
    replace D3 := hidP (D3.out.below hb9)
    replace D4 := hidP (D4.out.below hb9)
    clear hb9
    go_wp2_with fail
    refine (degree_below Q.out HV.out).mono ?_
    rintro e w10 ⟨rfl, hb10⟩
    have B10 := hidP (step_below B9.out hb10)
    replace P := hidP (P.out.below hb10)
    replace Q := hidP (Q.out.below hb10)
    replace D1 := hidP (D1.out.below hb10)
    replace D2 := hidP (D2.out.below hb10)
    replace D3 := hidP (D3.out.below hb10)
    replace D4 := hidP (D4.out.below hb10)
    clear hb10
    go_wp2_with fail
    refine (degree_below (HA.out _ B10.out) HX.out).mono ?_
    rintro e w11 ⟨rfl, hb11⟩
    have B11 := hidP (step_below B10.out hb11)
    replace P := hidP (P.out.below hb11)
    replace Q := hidP (Q.out.below hb11)
    replace D1 := hidP (D1.out.below hb11)
    replace D2 := hidP (D2.out.below hb11)
    replace D3 := hidP (D3.out.below hb11)
    replace D4 := hidP (D4.out.below hb11)
    clear hb11
    go_wp2_with fail
    refine (degree_below (HB.out _ B11.out) HY.out).mono ?_
    rintro e w12 ⟨rfl, hb12⟩
    have B12 := hidP (step_below B11.out hb12)
    replace P := hidP (P.out.below hb12)
    replace Q := hidP (Q.out.below hb12)
    replace D1 := hidP (D1.out.below hb12)
    replace D2 := hidP (D2.out.below hb12)
    replace D3 := hidP (D3.out.below hb12)
    replace D4 := hidP (D4.out.below hb12)
    clear hb12
    go_wp2
    go_ret
    exact ⟨rfl, B12.out⟩

/-! ### The row's step -/
set_option maxRecDepth 100000 in
theorem contract (H : Type) (enc : TypeId × Value → H) (W : World) (base : Nat) (args : Array Value) (ds gs : List (DataW H)) (before : List MemPlace)
    (hval0 : ∀ (j : Nat) t v, Try.f10.params[j]? = some t → args[j]? = some v → Value.okWide Try.prog W .any base t v)
    (hW : DataW.Whole enc Try.prog Try.f10.params.toList Rows.monoSharesSpec.vars false W args.toList ds gs before)
    (hsz0 : (DataW.weightsEach Try.prog (Try.f10.params.toList ++ Rows.monoSharesSpec.plain.varTypes Try.prog) (ds ++ gs)).all (· ≤ reachBytes) = true) :
    Calls Try.prog 10 args W fun e W' => ∃ v, e = .returned v ∧ Rows.monoSharesSpec.post enc Try.prog Try.f10 false true false false W args v W' := by
  have hW' := hW
  obtain ⟨p, q, hA0, hV, rfl, hfz, hnd⟩ := hW
  have hA : DataW.TrodAll enc Try.prog W 0 (fun _ => true) true Try.f10.params.toList args.toList ds p := hA0
  have hval : ∀ (j : Nat) t v, Try.f10.params[j]? = some t → args[j]? = some v → Value.okWide Try.prog W .any base t v := hval0
  have hsz : (DataW.weightsEach Try.prog (Try.f10.params.toList ++ []) (ds ++ gs)).all (· ≤ reachBytes) = true := hsz0
  rw [Try.params10] at hA hval hsz
  obtain ⟨v0, vs0, d0, ds0, p0, q0, hargs, rfl, rfl, h0, r0⟩ := trodAll_cons hA
  obtain ⟨v1, vs1, d1, ds1, p1, q1, rfl, rfl, rfl, h1, r1⟩ := trodAll_cons r0
  obtain ⟨rfl, rfl, rfl⟩ := trodAll_nil r1
  obtain rfl : args = #[v0, v1] := by cases args; simp_all
  obtain ⟨rfl, rfl⟩ := trodVars_none hV
  obtain ⟨l0, s0⟩ := open_il (hval 0 25 v0 rfl rfl) h0 (fun elems spare e => by subst e; exact sized_slice hsz (j := 0) (t := 25) (e := 3) rfl rfl Try.underlying25)
  obtain ⟨l1, s1⟩ := open_il (hval 1 25 v1 rfl rfl) h1 (fun elems spare e => by subst e; exact sized_slice hsz (j := 1) (t := 25) (e := 3) rfl rfl Try.underlying25)
  refine (walk s0 s1).mono fun e W' ⟨he, hb⟩ => ?_
  subst he
  exact ⟨_, rfl, _, _, _, _, _, _, hW', trodAll_cons_mk (shut_bool Try.underlying4 _) trodAll_mk0, trodAll_cons_mk (Below.trod laidOut (by kernel_rfl) (of_decide_eq_true (by kernel_rfl)) h0 hb (fun x hx => by first | cases hx; done | (have := hW'.lt x (by simp [hx]); simpa using this))) (trodAll_cons_mk (Below.trod laidOut (by kernel_rfl) (of_decide_eq_true (by kernel_rfl)) h1 hb (fun x hx => by first | cases hx; done | (have := hW'.lt x (by simp [hx]); simpa using this))) (trodAll_mk0)), rfl, hb.frame _, fun h => by cases h⟩

set_option maxRecDepth 100000 in
theorem lifted (os : Os) (started : os.Started) (H : Type) (enc : TypeId × Value → H) :
    ReturnsInHanded {} Try.checked os 10 .any (Rows.monoSharesSpec.pre6 enc Try.prog Try.f10 Rows.monoSharesRow.domain false) (Rows.monoSharesSpec.post enc Try.prog Try.f10 false true false false) := by
  refine returnsInHanded_of_change_shaped (C := Try.checked) own started (by kernel_rfl) Try.func10
    (ChangeSpec.witness6 (enc := enc) (C := Try.checked) false ⟨#[], #[.slice none 0 0, .slice none 0 0], []⟩ 8 (by kernel_rfl) (by kernel_rfl) (by kernel_rfl) (by kernel_rfl)) ?_
  intro W base args ds gs before hval0 hW _ hsz _ _
  exact contract H enc W base args ds gs before hval0 hW hsz

theorem holds : Rows.MonoSharesSaid :=
  OpenClaim.holds_of_wide 10 Try.f10 rfl rfl rfl rfl rfl rfl rfl ⟨rfl, rfl, rfl, rfl, rfl⟩ rfl rfl rfl rfl rfl (by kernel_rfl) Try.func10 (by kernel_rfl)
    (of_decide_eq_true (by kernel_rfl)) (by unfold Func.isWrapper; first | (rw [if_pos (by decide +kernel)]; kernel_rfl) | (rw [if_neg (by decide +kernel)]; exact ⟨rfl, rfl⟩))
    (fun os started H enc _ => lifted os started H enc)
end Go.Proofs.Ythlldjknmdndoaa.monoShares
