/- For all lists of ints f, g, h of at most 8 each and the prime that is picked for p: modular.Gcd divides both, is the same the other way round, and that of f*h and g*h is it times the monic h; it is 0 just if both are. Conditions: none. -/
import Derived.Test.YtbmneibliekfdaaJb2
set_option linter.unusedVariables false
set_option linter.unusedSimpArgs false
namespace Go.Proofs.Ytbmneibliekfdaa.modularShares
open Go.ChangeShapes Go.WideShapes Go.ChangeAt Go.RowKit Go.Joins

set_option maxRecDepth 100000 in
set_option maxHeartbeats 4000000 in
theorem walk {a b c : Value} {f g h : List Int} {p : Int} {w : World} (ha : SeesI w a f) (hb : SeesI w b g) (hc : SeesI w c h) (hp : (Lit.int .i64 p).wf = true) : Calls Try.prog 11 #[a, b, c, .int .i64 p] w fun e w' => e = .returned (.bool true) ∧ Below w.heap.size w w' := by
  obtain ⟨p1, p2⟩ := int_bounds5 hp
  have Ha : Hid (∀ w1, Below w.heap.size w w1 → SeesI w1 a f) := fun w1 h => SeesI.below ha h
  have Hb : Hid (∀ w1, Below w.heap.size w w1 → SeesI w1 b g) := fun w1 h => SeesI.below hb h
  have Hc : Hid (∀ w1, Below w.heap.size w w1 → SeesI w1 c h) := fun w1 h => SeesI.below hc h
  have B0 := hidP (Below.refl w.heap.size w)
  have C0 := hidP awake10
  obtain ⟨ap, ac, rfl, hac⟩ := SeesF.form ha
  obtain ⟨bp, bc, rfl, hbc⟩ := SeesF.form hb
  obtain ⟨cp, cc, rfl, hcc⟩ := SeesF.form hc
  clear ha hb hc hp
  by_cases z0 : (f.length : Int) > 8
  · go_enter Try.func11, Try.ntmps11
    go_wp2_with fail
    refine (C0.out _).mono ?_
    rintro e w1 ⟨rfl, hb1⟩
    have B1 := hidP (step_below B0.out hb1)
    clear hb1
    go_wp2_with fail
    go_ret
    exact ⟨rfl, B1.out⟩
  by_cases z1 : (g.length : Int) > 8
  · go_enter Try.func11, Try.ntmps11
    go_wp2_with fail
    refine (C0.out _).mono ?_
    rintro e w1 ⟨rfl, hb1⟩
    have B1 := hidP (step_below B0.out hb1)
    clear hb1
    go_wp2_with fail
    go_ret
    exact ⟨rfl, B1.out⟩
  by_cases z2 : (h.length : Int) > 8
  · go_enter Try.func11, Try.ntmps11
    go_wp2_with fail
    refine (C0.out _).mono ?_
    rintro e w1 ⟨rfl, hb1⟩
    have B1 := hidP (step_below B0.out hb1)
    clear hb1
    go_wp2_with fail
    go_ret
    exact ⟨rfl, B1.out⟩
  have l0 : f.length ≤ 8 := by omega
  have L0 : f.length ≤ 4096 := by omega
  have l1 : g.length ≤ 8 := by omega
  have L1 : g.length ≤ 4096 := by omega
  have l2 : h.length ≤ 8 := by omega
  have L2 : h.length ≤ 4096 := by omega
  go_enter Try.func11, Try.ntmps11
  go_wp2_with fail
  refine (C0.out _).mono ?_
  rintro e w1 ⟨rfl, hb1⟩
  have B1 := hidP (step_below B0.out hb1)
  clear hb1
  go_wp2_with fail
  refine (law_Pick p p1 p2 _).mono ?_
  rintro e w2 ⟨q, rfl, hq, hb2⟩
  have B2 := hidP (step_below B1.out hb2)
  clear hb2
  have HQ := hidP hq
  clear hq
  go_wp2_with fail
  refine (mod_Gcds (Ha.out _ B2.out) (Hb.out _ B2.out) (by omega) (by omega) HQ.out).mono ?_
  rintro e w3 ⟨ao, cap, d, rfl, hv1, hd, hdl, hb3⟩
  have B3 := hidP (step_below B2.out hb3)
  clear hb3
  have S1 := hidP hv1
  clear hv1
  have HD := hidP hd
  clear hd
  by_cases hz : d = []
  · skip
    subst hz
    have HZ := hidP (gcd_zero HD.out)
    clear S1
    go_wp2_with fail
    refine (plain_zero (Ha.out _ B3.out) (by omega) HQ.out HZ.out.1).mono ?_
    rintro e w4 ⟨a1, c1, rfl, hb4⟩
    have B4 := hidP (step_below B3.out hb4)
    clear hb4
    go_wp2_with fail
    refine (plain_zero (Hb.out _ B4.out) (by omega) HQ.out HZ.out.2).mono ?_
    rintro e w5 ⟨a2, c2, rfl, hb5⟩
    have B5 := hidP (step_below B4.out hb5)
    clear hb5
    go_wp2_with fail
    go_ret
    exact ⟨rfl, B5.out⟩
  · skip
    have HZ : Hid (nf q d ≠ []) := by show _ ≠ _; rw [nf_self HD.out.mon.1]; exact hz
    have hb0 : ((d.length : Int) == 0) = false := by rw [beq_eq_false_iff_ne]; have := List.length_pos_iff.2 hz; omega
    clear hz
    go_wp2_with fail
    refine (mod_DMn (Ha.out _ B3.out) S1.out (by omega) hdl HQ.out HZ.out HD.out.sp.f1.zero).mono ?_
    rintro e w4 ⟨v2, a2, c2, rfl, hb4⟩
    have B4 := hidP (step_below B3.out hb4)
    replace S1 := hidP (S1.out.below hb4)
    clear hb4
    go_wp2_with fail
    refine (mod_DMn (Hb.out _ B4.out) S1.out (by omega) hdl HQ.out HZ.out HD.out.sp.g1.zero).mono ?_
    rintro e w5 ⟨v3, a3, c3, rfl, hb5⟩
    have B5 := hidP (step_below B4.out hb5)
    replace S1 := hidP (S1.out.below hb5)
    clear hb5
    go_wp2_with fail
    refine (mod_Mul (Ha.out _ B5.out) (Hc.out _ B5.out) (by omega) (by omega) HQ.out).mono ?_
    rintro e w6 ⟨v4, rfl, hv4, hb6⟩
    have B6 := hidP (step_below B5.out hb6)
    replace S1 := hidP (S1.out.below hb6)
    clear hb6
    have S4 := hidP hv4
    clear hv4
    go_wp2_with fail
    refine (mod_Mul (Hb.out _ B6.out) (Hc.out _ B6.out) (by omega) (by omega) HQ.out).mono ?_
    rintro e w7 ⟨v5, rfl, hv5, hb7⟩
    have B7 := hidP (step_below B6.out hb7)
    replace S1 := hidP (S1.out.below hb7)
    replace S4 := hidP (S4.out.below hb7)
    clear hb7
    have S5 := hidP hv5
    clear hv5
    go_wp2_with fail
    refine (mod_Gcd S4.out S5.out (Nat.le_trans (len_nf (len_mul l0 l2)) (by omega)) (Nat.le_trans (len_nf (len_mul l1 l2)) (by omega)) HQ.out).mono ?_
    rintro e w8 ⟨v6, e2, rfl, hv6, he2, hel, hb8⟩
    have B8 := hidP (step_below B7.out hb8)
    replace S1 := hidP (S1.out.below hb8)
    replace S4 := hidP (S4.out.below hb8)
    replace S5 := hidP (S5.out.below hb8)
    clear hb8
    have S6 := hidP hv6
    clear hv6
    have HE := hidP he2
    clear he2
    clear S4 S5
    go_wp2_with fail
    refine (mod_Gcd (Hb.out _ B8.out) (Ha.out _ B8.out) (by omega) (by omega) HQ.out).mono ?_
    rintro e w9 ⟨v7, d2, rfl, hv7, hd2, hdl2, hb9⟩
    have B9 := hidP (step_below B8.out hb9)
    replace S1 := hidP (S1.out.below hb9)
    replace S6 := hidP (S6.out.below hb9)
    clear hb9
    have S7 := hidP hv7
    clear hv7
    have HD2 := hidP hd2
    clear hd2
    go_wp2_with fail
    refine (same_is S1.out S7.out (r := true) (decide_eq_true (gcd_swap HQ.out HD.out HD2.out))).mono ?_
    rintro e w10 ⟨rfl, hb10⟩
    have B10 := hidP (step_below B9.out hb10)
    replace S1 := hidP (S1.out.below hb10)
    replace S6 := hidP (S6.out.below hb10)
    replace S7 := hidP (S7.out.below hb10)
    clear hb10
    clear S7
    go_wp2_with fail
    refine (mod_Monic (Hc.out _ B10.out) (by omega) HQ.out).mono ?_
    rintro e w11 ⟨v8, rfl, hv8, hb11⟩
    have B11 := hidP (step_below B10.out hb11)
    replace S1 := hidP (S1.out.below hb11)
    replace S6 := hidP (S6.out.below hb11)
    clear hb11
    have S8 := hidP hv8
    clear hv8
    have hml : (mon q (nf q h)).length ≤ 65536 := by rw [(mon_mon HQ.out (nf_plain (isP_bounds HQ.out).1 h)).2]; have := nf_len q h; omega
    go_wp2_with fail
    refine (mod_Mul S1.out S8.out hdl hml HQ.out).mono ?_
    rintro e w12 ⟨v9, rfl, hv9, hb12⟩
    have B12 := hidP (step_below B11.out hb12)
    replace S1 := hidP (S1.out.below hb12)
    replace S6 := hidP (S6.out.below hb12)
    replace S8 := hidP (S8.out.below hb12)
    clear hb12
    have S9 := hidP hv9
    clear hv9
    go_wp2_with fail
    refine (same_is S6.out S9.out (r := true) (decide_eq_true (HE.out.unique HQ.out (gcd_mul HQ.out HD.out) (Both.refl q _ _)))).mono ?_
    rintro e w13 ⟨rfl, hb13⟩
    have B13 := hidP (step_below B12.out hb13)
    replace S1 := hidP (S1.out.below hb13)
    replace S6 := hidP (S6.out.below hb13)
    replace S8 := hidP (S8.out.below hb13)
    replace S9 := hidP (S9.out.below hb13)
    clear hb13
    go_wp2_with fail
    go_ret
    exact ⟨rfl, B13.out⟩

/-! ### The row's step -/
set_option maxRecDepth 100000 in
theorem contract (H : Type) (enc : TypeId × Value → H) (W : World) (base : Nat) (args : Array Value) (ds gs : List (DataW H)) (before : List MemPlace)
    (hval0 : ∀ (j : Nat) t v, Try.f11.params[j]? = some t → args[j]? = some v → Value.okWide Try.prog W .any base t v)
    (hW : DataW.Whole enc Try.prog Try.f11.params.toList Rows.modularSharesSpec.vars false W args.toList ds gs before)
    (hsz0 : (DataW.weightsEach Try.prog (Try.f11.params.toList ++ Rows.modularSharesSpec.plain.varTypes Try.prog) (ds ++ gs)).all (· ≤ reachBytes) = true) :
    Calls Try.prog 11 args W fun e W' => ∃ v, e = .returned v ∧ Rows.modularSharesSpec.post enc Try.prog Try.f11 false true false false W args v W' := by
  have hW' := hW
  obtain ⟨p, q, hA0, hV, rfl, hfz, hnd⟩ := hW
  have hA : DataW.TrodAll enc Try.prog W 0 (fun _ => true) true Try.f11.params.toList args.toList ds p := hA0
  have hval : ∀ (j : Nat) t v, Try.f11.params[j]? = some t → args[j]? = some v → Value.okWide Try.prog W .any base t v := hval0
  have hsz : (DataW.weightsEach Try.prog (Try.f11.params.toList ++ []) (ds ++ gs)).all (· ≤ reachBytes) = true := hsz0
  rw [Try.params11] at hA hval hsz
  obtain ⟨v0, vs0, d0, ds0, p0, q0, hargs, rfl, rfl, h0, r0⟩ := trodAll_cons hA
  obtain ⟨v1, vs1, d1, ds1, p1, q1, rfl, rfl, rfl, h1, r1⟩ := trodAll_cons r0
  obtain ⟨v2, vs2, d2, ds2, p2, q2, rfl, rfl, rfl, h2, r2⟩ := trodAll_cons r1
  obtain ⟨v3, vs3, d3, ds3, p3, q3, rfl, rfl, rfl, h3, r3⟩ := trodAll_cons r2
  obtain ⟨rfl, rfl, rfl⟩ := trodAll_nil r3
  obtain rfl : args = #[v0, v1, v2, v3] := by cases args; simp_all
  obtain ⟨rfl, rfl⟩ := trodVars_none hV
  obtain ⟨l0, s0⟩ := open_il (hval 0 22 v0 rfl rfl) h0 (fun elems spare e => by subst e; exact sized_slice hsz (j := 0) (t := 22) (e := 3) rfl rfl Try.underlying22)
  obtain ⟨l1, s1⟩ := open_il (hval 1 22 v1 rfl rfl) h1 (fun elems spare e => by subst e; exact sized_slice hsz (j := 1) (t := 22) (e := 3) rfl rfl Try.underlying22)
  obtain ⟨l2, s2⟩ := open_il (hval 2 22 v2 rfl rfl) h2 (fun elems spare e => by subst e; exact sized_slice hsz (j := 2) (t := 22) (e := 3) rfl rfl Try.underlying22)
  have k3 := h3
  obtain ⟨n3, rfl, rfl, rfl, wn3⟩ := open_int Try.underlying3 (hval 3 3 v3 rfl rfl) h3
  refine (walk s0 s1 s2 wn3).mono fun e W' ⟨he, hb⟩ => ?_
  subst he
  exact ⟨_, rfl, _, _, _, _, _, _, hW', trodAll_cons_mk (shut_bool Try.underlying4 _) trodAll_mk0, trodAll_cons_mk (Below.trod laidOut (by kernel_rfl) (of_decide_eq_true (by kernel_rfl)) h0 hb (fun x hx => by first | cases hx; done | (have := hW'.lt x (by simp [hx]); simpa using this))) (trodAll_cons_mk (Below.trod laidOut (by kernel_rfl) (of_decide_eq_true (by kernel_rfl)) h1 hb (fun x hx => by first | cases hx; done | (have := hW'.lt x (by simp [hx]); simpa using this))) (trodAll_cons_mk (Below.trod laidOut (by kernel_rfl) (of_decide_eq_true (by kernel_rfl)) h2 hb (fun x hx => by first | cases hx; done | (have := hW'.lt x (by simp [hx]); simpa using this))) (trodAll_cons_mk (Below.trod laidOut (by kernel_rfl) (of_decide_eq_true (by kernel_rfl)) k3 hb (fun x hx => by first | cases hx; done | (have := hW'.lt x (by simp [hx]); simpa using this))) (trodAll_mk0)))), rfl, hb.frame _, fun h => by cases h⟩

set_option maxRecDepth 100000 in
theorem lifted (os : Os) (started : os.Started) (H : Type) (enc : TypeId × Value → H) :
    ReturnsInHanded {} Try.checked os 11 .any (Rows.modularSharesSpec.pre6 enc Try.prog Try.f11 Rows.modularSharesRow.domain false) (Rows.modularSharesSpec.post enc Try.prog Try.f11 false true false false) := by
  refine returnsInHanded_of_change_shaped (C := Try.checked) own started (by kernel_rfl) Try.func11
    (ChangeSpec.witness6 (enc := enc) (C := Try.checked) false ⟨#[], #[.slice none 0 0, .slice none 0 0, .slice none 0 0, .int .i64 0], []⟩ 8 (by kernel_rfl) (by kernel_rfl) (by kernel_rfl) (by kernel_rfl)) ?_
  intro W base args ds gs before hval0 hW _ hsz _ _
  exact contract H enc W base args ds gs before hval0 hW hsz

theorem holds : Rows.ModularSharesSaid :=
  OpenClaim.holds_of_wide 11 Try.f11 rfl rfl rfl rfl rfl rfl rfl ⟨rfl, rfl, rfl, rfl, rfl⟩ rfl rfl rfl rfl rfl (by kernel_rfl) Try.func11 (by kernel_rfl)
    (of_decide_eq_true (by kernel_rfl)) (by unfold Func.isWrapper; first | (rw [if_pos (by decide +kernel)]; kernel_rfl) | (rw [if_neg (by decide +kernel)]; exact ⟨rfl, rfl⟩))
    (fun os started H enc _ => lifted os started H enc)
end Go.Proofs.Ytbmneibliekfdaa.modularShares
