/- For all lists of ints f, g of at most 12 each, every int x and the prime that is picked for p: modular's sums and products are evaluated part by part; x is a root just if the polynomial less x divides. Conditions: none. -/
import Derived.Test.YtbmneibliekfdaaJb2
set_option linter.unusedVariables false
set_option linter.unusedSimpArgs false
namespace Go.Proofs.Ytbmneibliekfdaa.modularValues
open Go.ChangeShapes Go.WideShapes Go.ChangeAt Go.RowKit Go.Joins

set_option maxRecDepth 100000 in
set_option maxHeartbeats 4000000 in
theorem walk {a b : Value} {f g : List Int} {x p : Int} {w : World} (ha : SeesI w a f) (hb : SeesI w b g) (hx : (Lit.int .i64 x).wf = true) (hp : (Lit.int .i64 p).wf = true) : Calls Try.prog 13 #[a, b, .int .i64 x, .int .i64 p] w fun e w' => e = .returned (.bool true) ∧ Below w.heap.size w w' := by
  obtain ⟨x1, x2⟩ := int_bounds5 hx
  obtain ⟨p1, p2⟩ := int_bounds5 hp
  have Ha : Hid (∀ w1, Below w.heap.size w w1 → SeesI w1 a f) := fun w1 h => SeesI.below ha h
  have Hb : Hid (∀ w1, Below w.heap.size w w1 → SeesI w1 b g) := fun w1 h => SeesI.below hb h
  have B0 := hidP (Below.refl w.heap.size w)
  have C0 := hidP awake10
  obtain ⟨ap, ac, rfl, hac⟩ := SeesF.form ha
  obtain ⟨bp, bc, rfl, hbc⟩ := SeesF.form hb
  clear ha hb hx hp
  by_cases z0 : (f.length : Int) > 12
  · go_enter Try.func13, Try.ntmps13
    go_wp2_with fail
    refine (C0.out _).mono ?_
    rintro e w1 ⟨rfl, hb1⟩
    have B1 := hidP (step_below B0.out hb1)
    clear hb1
    go_wp2_with fail
    go_ret
    exact ⟨rfl, B1.out⟩
  by_cases z1 : (g.length : Int) > 12
  · go_enter Try.func13, Try.ntmps13
    go_wp2_with fail
    refine (C0.out _).mono ?_
    rintro e w1 ⟨rfl, hb1⟩
    have B1 := hidP (step_below B0.out hb1)
    clear hb1
    go_wp2_with fail
    go_ret
    exact ⟨rfl, B1.out⟩
  have l0 : f.length ≤ 12 := by omega
  have L0 : f.length ≤ 4096 := by omega
  have l1 : g.length ≤ 12 := by omega
  have L1 : g.length ≤ 4096 := by omega
  go_enter Try.func13, Try.ntmps13
  go_wp2_with fail
  refine (C0.out _).mono ?_
  rintro e w1 ⟨rfl, hb1⟩
  have B1 := hidP (step_below B0.out hb1)
  clear hb1
  go_wp2_with fail
  refine (law_Pick p p1 p2 _).mono ?_
  rintro e w2 ⟨q, rfl, hq, hb2⟩
  have B2 := hidP (step_below B1.out hb2)
  clear hb2
  have HQ := hidP hq
  clear hq
  have hs := ev_sum HQ.out f g x
  have hm := ev_prod HQ.out f g x
  obtain ⟨q1, q2⟩ : -9223372036854775808 ≤ (q : Int) ∧ (q : Int) < 9223372036854775808 := ⟨by omega, by have := HQ.out.2.1; omega⟩
  have HRt : Hid (∀ Q R, DivIs q f (nf q (padd [0, 1] (psc (-1) [x]))) Q R → decide (R.length = 0) = decide (ev f x % (q : Int) = 0)) := fun Q R h => root_iff HQ.out h
  have HLn := hidP (line_nz HQ.out x)
  obtain ⟨y, hy⟩ : ∃ y, ev f x % (q : Int) = y := ⟨_, rfl⟩
  obtain ⟨z, hz⟩ : ∃ z, ev g x % (q : Int) = z := ⟨_, rfl⟩
  rw [hy, hz] at hs hm
  rw [hy] at HRt
  obtain ⟨u, hu⟩ : ∃ u, addP y z q = u := ⟨_, rfl⟩
  obtain ⟨v, hv⟩ : ∃ v, mulP y z q = v := ⟨_, rfl⟩
  rw [hu] at hs
  rw [hv] at hm
  have CE1 : Hid (∀ w1, Below w.heap.size w w1 → Calls Try.prog 31 #[.slice ap f.length ac, .int .i64 x, .int .i64 q] w1 fun e w' => e = .returned (.int .i64 y) ∧ Below w1.heap.size w1 w') := fun w1 h => by rw [← hy]; exact mod_Eval x (Ha.out w1 h) (by omega) HQ.out
  have CE2 : Hid (∀ w1, Below w.heap.size w w1 → Calls Try.prog 31 #[.slice bp g.length bc, .int .i64 x, .int .i64 q] w1 fun e w' => e = .returned (.int .i64 z) ∧ Below w1.heap.size w1 w') := fun w1 h => by rw [← hz]; exact mod_Eval x (Hb.out w1 h) (by omega) HQ.out
  have CE3 : Hid (∀ w1 t, SeesI w1 t (nf q (padd f g)) → Calls Try.prog 31 #[t, .int .i64 x, .int .i64 q] w1 fun e w' => e = .returned (.int .i64 u) ∧ Below w1.heap.size w1 w') := fun w1 t h => by rw [hs]; exact mod_Eval x h (Nat.le_trans (len_nf (len_add l0 l1)) (by omega)) HQ.out
  have CE4 : Hid (∀ w1 t, SeesI w1 t (nf q (pmul f g)) → Calls Try.prog 31 #[t, .int .i64 x, .int .i64 q] w1 fun e w' => e = .returned (.int .i64 v) ∧ Below w1.heap.size w1 w') := fun w1 t h => by rw [hm]; exact mod_Eval x h (Nat.le_trans (len_nf (len_mul l0 l1)) (by omega)) HQ.out
  have CA5 : Hid (∀ w1, Calls Try.prog 40 #[.int .i64 y, .int .i64 z, .int .i64 q] w1 fun e w' => e = .returned (.int .i64 u) ∧ Below w1.heap.size w1 w') := fun w1 => by rw [← hu]; exact ref5_add y z q q1 q2 w1
  have CM5 : Hid (∀ w1, Calls Try.prog 41 #[.int .i64 y, .int .i64 z, .int .i64 q] w1 fun e w' => e = .returned (.int .i64 v) ∧ Below w1.heap.size w1 w') := fun w1 => by rw [← hv]; exact ref5_mul y z q q1 q2 w1
  clear hs hm hy hz hu hv q1 q2
  go_wp2_with fail
  refine (CE1.out _ B2.out).mono ?_
  rintro e w3 ⟨rfl, hb3⟩
  have B3 := hidP (step_below B2.out hb3)
  clear hb3
  go_wp2_with fail
  refine (CE2.out _ B3.out).mono ?_
  rintro e w4 ⟨rfl, hb4⟩
  have B4 := hidP (step_below B3.out hb4)
  clear hb4
  obtain ⟨Y, hY, hYb, hl1, hl2⟩ := lits21 w4 0 1 x
  have BY := hidP (step_below B4.out hYb)
  have HYe := hidP hY
  have CS := hidP (modT_Sub hl1 hl2 (by simp) (by simp) HQ.out)
  clear hY hYb hl1 hl2
  go_wp2_with fail
  rw [← HYe.out]
  refine CS.out.mono ?_
  rintro e w5 ⟨vl, rfl, hvl, hb5⟩
  have B5 := hidP (step_below BY.out hb5)
  have S1 := hidP hvl
  clear hvl hb5
  go_wp2_with fail
  refine (mod_DMl (Ha.out _ B5.out) S1.out (by omega) (line_len q x) HQ.out HLn.out.1).mono ?_
  rintro e w6 ⟨v1, a1, c1, Q, R, rfl, hv1, hv2, hd, hb6⟩
  have B6 := hidP (step_below B5.out hb6)
  replace S1 := hidP (S1.out.below hb6)
  clear hb6
  have HD := hidP hd
  clear hd
  have hrt := HRt.out Q R HD.out
  clear hv1 hv2 S1 HD
  go_wp2_with fail
  refine (modT_Add (Ha.out _ B6.out) (Hb.out _ B6.out) (by omega) (by omega) HQ.out).mono ?_
  rintro e w7 ⟨v3, rfl, hv3, hb7⟩
  have B7 := hidP (step_below B6.out hb7)
  clear hb7
  have S3 := hidP hv3
  clear hv3
  go_wp2_with fail
  refine (CE3.out _ _ S3.out).mono ?_
  rintro e w8 ⟨rfl, hb8⟩
  have B8 := hidP (step_below B7.out hb8)
  replace S3 := hidP (S3.out.below hb8)
  clear hb8
  go_wp2_with fail
  refine (CA5.out _).mono ?_
  rintro e w9 ⟨rfl, hb9⟩
  have B9 := hidP (step_below B8.out hb9)
  replace S3 := hidP (S3.out.below hb9)
  clear hb9
  clear S3
  go_wp2_with fail
  refine (mod_Mul (Ha.out _ B9.out) (Hb.out _ B9.out) (by omega) (by omega) HQ.out).mono ?_
  rintro e w10 ⟨v4, rfl, hv4, hb10⟩
  have B10 := hidP (step_below B9.out hb10)
  clear hb10
  have S4 := hidP hv4
  clear hv4
  go_wp2_with fail
  refine (CE4.out _ _ S4.out).mono ?_
  rintro e w11 ⟨rfl, hb11⟩
  have B11 := hidP (step_below B10.out hb11)
  replace S4 := hidP (S4.out.below hb11)
  clear hb11
  go_wp2_with fail
  refine (CM5.out _).mono ?_
  rintro e w12 ⟨rfl, hb12⟩
  have B12 := hidP (step_below B11.out hb12)
  replace S4 := hidP (S4.out.below hb12)
  clear hb12
  clear S4
  by_cases hy0 : y = 0
  · subst hy0
    have hr0 : R.length = 0 := by simpa using hrt
    have hr1 : ((R.length : Int) == 0) = true := by rw [hr0]; rfl
    clear hrt hr0
    go_wp2_with fail
    go_ret
    exact ⟨rfl, B12.out⟩
  · have hyb : (y == 0) = false := by simpa using hy0
    have hr0 : R.length ≠ 0 := by rw [decide_eq_false hy0] at hrt; exact of_decide_eq_false hrt
    have hr1 : ((R.length : Int) == 0) = false := by rw [beq_eq_false_iff_ne]; omega
    clear hrt
    go_wp2_with fail
    go_ret
    exact ⟨rfl, B12.out⟩

/-! ### The row's step -/
set_option maxRecDepth 100000 in
theorem contract (H : Type) (enc : TypeId × Value → H) (W : World) (base : Nat) (args : Array Value) (ds gs : List (DataW H)) (before : List MemPlace)
    (hval0 : ∀ (j : Nat) t v, Try.f13.params[j]? = some t → args[j]? = some v → Value.okWide Try.prog W .any base t v)
    (hW : DataW.Whole enc Try.prog Try.f13.params.toList Rows.modularValuesSpec.vars false W args.toList ds gs before)
    (hsz0 : (DataW.weightsEach Try.prog (Try.f13.params.toList ++ Rows.modularValuesSpec.plain.varTypes Try.prog) (ds ++ gs)).all (· ≤ reachBytes) = true) :
    Calls Try.prog 13 args W fun e W' => ∃ v, e = .returned v ∧ Rows.modularValuesSpec.post enc Try.prog Try.f13 false true false false W args v W' := by
  have hW' := hW
  obtain ⟨p, q, hA0, hV, rfl, hfz, hnd⟩ := hW
  have hA : DataW.TrodAll enc Try.prog W 0 (fun _ => true) true Try.f13.params.toList args.toList ds p := hA0
  have hval : ∀ (j : Nat) t v, Try.f13.params[j]? = some t → args[j]? = some v → Value.okWide Try.prog W .any base t v := hval0
  have hsz : (DataW.weightsEach Try.prog (Try.f13.params.toList ++ []) (ds ++ gs)).all (· ≤ reachBytes) = true := hsz0
  rw [Try.params13] at hA hval hsz
  obtain ⟨v0, vs0, d0, ds0, p0, q0, hargs, rfl, rfl, h0, r0⟩ := trodAll_cons hA
  obtain ⟨v1, vs1, d1, ds1, p1, q1, rfl, rfl, rfl, h1, r1⟩ := trodAll_cons r0
  obtain ⟨v2, vs2, d2, ds2, p2, q2, rfl, rfl, rfl, h2, r2⟩ := trodAll_cons r1
  obtain ⟨v3, vs3, d3, ds3, p3, q3, rfl, rfl, rfl, h3, r3⟩ := trodAll_cons r2
  obtain ⟨rfl, rfl, rfl⟩ := trodAll_nil r3
  obtain rfl : args = #[v0, v1, v2, v3] := by cases args; simp_all
  obtain ⟨rfl, rfl⟩ := trodVars_none hV
  obtain ⟨l0, s0⟩ := open_il (hval 0 22 v0 rfl rfl) h0 (fun elems spare e => by subst e; exact sized_slice hsz (j := 0) (t := 22) (e := 3) rfl rfl Try.underlying22)
  obtain ⟨l1, s1⟩ := open_il (hval 1 22 v1 rfl rfl) h1 (fun elems spare e => by subst e; exact sized_slice hsz (j := 1) (t := 22) (e := 3) rfl rfl Try.underlying22)
  have k2 := h2
  obtain ⟨n2, rfl, rfl, rfl, wn2⟩ := open_int Try.underlying3 (hval 2 3 v2 rfl rfl) h2
  have k3 := h3
  obtain ⟨n3, rfl, rfl, rfl, wn3⟩ := open_int Try.underlying3 (hval 3 3 v3 rfl rfl) h3
  refine (walk s0 s1 wn2 wn3).mono fun e W' ⟨he, hb⟩ => ?_
  subst he
  exact ⟨_, rfl, _, _, _, _, _, _, hW', trodAll_cons_mk (shut_bool Try.underlying4 _) trodAll_mk0, trodAll_cons_mk (Below.trod laidOut (by kernel_rfl) (of_decide_eq_true (by kernel_rfl)) h0 hb (fun x hx => by first | cases hx; done | (have := hW'.lt x (by simp [hx]); simpa using this))) (trodAll_cons_mk (Below.trod laidOut (by kernel_rfl) (of_decide_eq_true (by kernel_rfl)) h1 hb (fun x hx => by first | cases hx; done | (have := hW'.lt x (by simp [hx]); simpa using this))) (trodAll_cons_mk (Below.trod laidOut (by kernel_rfl) (of_decide_eq_true (by kernel_rfl)) k2 hb (fun x hx => by first | cases hx; done | (have := hW'.lt x (by simp [hx]); simpa using this))) (trodAll_cons_mk (Below.trod laidOut (by kernel_rfl) (of_decide_eq_true (by kernel_rfl)) k3 hb (fun x hx => by first | cases hx; done | (have := hW'.lt x (by simp [hx]); simpa using this))) (trodAll_mk0)))), rfl, hb.frame _, fun h => by cases h⟩

set_option maxRecDepth 100000 in
theorem lifted (os : Os) (started : os.Started) (H : Type) (enc : TypeId × Value → H) :
    ReturnsInHanded {} Try.checked os 13 .any (Rows.modularValuesSpec.pre6 enc Try.prog Try.f13 Rows.modularValuesRow.domain false) (Rows.modularValuesSpec.post enc Try.prog Try.f13 false true false false) := by
  refine returnsInHanded_of_change_shaped (C := Try.checked) own started (by kernel_rfl) Try.func13
    (ChangeSpec.witness6 (enc := enc) (C := Try.checked) false ⟨#[], #[.slice none 0 0, .slice none 0 0, .int .i64 0, .int .i64 0], []⟩ 8 (by kernel_rfl) (by kernel_rfl) (by kernel_rfl) (by kernel_rfl)) ?_
  intro W base args ds gs before hval0 hW _ hsz _ _
  exact contract H enc W base args ds gs before hval0 hW hsz

theorem holds : Rows.ModularValuesSaid :=
  OpenClaim.holds_of_wide 13 Try.f13 rfl rfl rfl rfl rfl rfl rfl ⟨rfl, rfl, rfl, rfl, rfl⟩ rfl rfl rfl rfl rfl (by kernel_rfl) Try.func13 (by kernel_rfl)
    (of_decide_eq_true (by kernel_rfl)) (by unfold Func.isWrapper; first | (rw [if_pos (by decide +kernel)]; kernel_rfl) | (rw [if_neg (by decide +kernel)]; exact ⟨rfl, rfl⟩))
    (fun os started H enc _ => lifted os started H enc)
end Go.Proofs.Ytbmneibliekfdaa.modularValues
