/- For all lists of ints f, g, m of at most 6 each, all ints n, k and the prime that is picked for p: modular.Pow of a sum by p is the sum of the powers; powers by n and k from 0 to 2^40 add up. Conditions: none. -/
import Derived.Test.YtbmneibliekfdaaJb2
set_option linter.unusedVariables false
set_option linter.unusedSimpArgs false
namespace Go.Proofs.Ytbmneibliekfdaa.modularFrobenius
open Go.ChangeShapes Go.WideShapes Go.ChangeAt Go.RowKit Go.Joins

/-- .. its exponent as an int. -/
theorem mod_PWi {va vm : Value} {q N : Nat} {n : Int} {f m : List Int} {w : World} (h : Hid (n = (N : Int))) (hf : SeesI w va f) (hm : SeesI w vm m) (hn : N < 9223372036854775808) (hlf : f.length ≤ 4096) (hlm : m.length ≤ 4096) (hq : IsP q) (hz : nf q m ≠ []) :
    Calls Try.prog 30 #[va, .int .i64 n, vm, .int .i64 q] w fun e w' => Pows q N f m w e w' := by
  rw [h.out]; exact mod_PW hf hm hn hlf hlm hq hz
theorem exps {n k : Int} (h0 : ¬ n < 0) (h1 : ¬ k < 0) (h2 : ¬ n > 1099511627776) (h3 : ¬ k > 1099511627776) :
    ∃ (N K T : Nat) (t : Int), n = N ∧ k = K ∧ t = T ∧ N + K = T ∧ N < 9223372036854775808 ∧ K < 9223372036854775808 ∧ T < 9223372036854775808 ∧ n + k = t ∧ IntKind.i64.wrap t = t := by
  obtain ⟨N, K, T, h4, h5, h6, h7, h8, h9, h10, h11⟩ := exp_nums h0 h1 h2 h3
  exact ⟨N, K, T, T, h4, h5, rfl, h6, h7, h8, h9, by rw [h4, h5]; exact h10, h11⟩

set_option maxRecDepth 100000 in
set_option maxHeartbeats 4000000 in
theorem walk {a b c : Value} {f g m : List Int} {n k p : Int} {w : World} (ha : SeesI w a f) (hb : SeesI w b g) (hc : SeesI w c m) (hn : (Lit.int .i64 n).wf = true) (hk : (Lit.int .i64 k).wf = true) (hp : (Lit.int .i64 p).wf = true) : Calls Try.prog 12 #[a, b, c, .int .i64 n, .int .i64 k, .int .i64 p] w fun e w' => e = .returned (.bool true) ∧ Below w.heap.size w w' := by
  obtain ⟨n1, n2⟩ := int_bounds5 hn
  obtain ⟨k1, k2⟩ := int_bounds5 hk
  obtain ⟨p1, p2⟩ := int_bounds5 hp
  have Ha : Hid (∀ w1, Below w.heap.size w w1 → SeesI w1 a f) := fun w1 h => SeesI.below ha h
  have Hb : Hid (∀ w1, Below w.heap.size w w1 → SeesI w1 b g) := fun w1 h => SeesI.below hb h
  have Hc : Hid (∀ w1, Below w.heap.size w w1 → SeesI w1 c m) := fun w1 h => SeesI.below hc h
  have B0 := hidP (Below.refl w.heap.size w)
  have C0 := hidP awake10
  obtain ⟨ap, ac, rfl, hac⟩ := SeesF.form ha
  obtain ⟨bp, bc, rfl, hbc⟩ := SeesF.form hb
  obtain ⟨cp, cc, rfl, hcc⟩ := SeesF.form hc
  clear ha hb hc hn hk hp
  by_cases z0 : (f.length : Int) > 6
  · go_enter Try.func12, Try.ntmps12
    go_wp2_with fail
    refine (C0.out _).mono ?_
    rintro e w1 ⟨rfl, hb1⟩
    have B1 := hidP (step_below B0.out hb1)
    clear hb1
    go_wp2_with fail
    go_ret
    exact ⟨rfl, B1.out⟩
  by_cases z1 : (g.length : Int) > 6
  · go_enter Try.func12, Try.ntmps12
    go_wp2_with fail
    refine (C0.out _).mono ?_
    rintro e w1 ⟨rfl, hb1⟩
    have B1 := hidP (step_below B0.out hb1)
    clear hb1
    go_wp2_with fail
    go_ret
    exact ⟨rfl, B1.out⟩
  by_cases z2 : (m.length : Int) > 6
  · go_enter Try.func12, Try.ntmps12
    go_wp2_with fail
    refine (C0.out _).mono ?_
    rintro e w1 ⟨rfl, hb1⟩
    have B1 := hidP (step_below B0.out hb1)
    clear hb1
    go_wp2_with fail
    go_ret
    exact ⟨rfl, B1.out⟩
  have l0 : f.length ≤ 6 := by omega
  have L0 : f.length ≤ 4096 := by omega
  have l1 : g.length ≤ 6 := by omega
  have L1 : g.length ≤ 4096 := by omega
  have l2 : m.length ≤ 6 := by omega
  have L2 : m.length ≤ 4096 := by omega
  go_enter Try.func12, Try.ntmps12
  go_wp2_with fail
  refine (C0.out _).mono ?_
  rintro e w1 ⟨rfl, hb1⟩
  have B1 := hidP (step_below B0.out hb1)
  clear hb1
  go_wp2_with fail
  refine (law_Pick p p1 p2 _).mono ?_
  rintro e w2 ⟨q, rfl, hq, hb2⟩
  have B2 := hidP (step_below B1.out hb2)
  clear hb2
  have HQ := hidP hq
  clear hq
  by_cases hz : nf q m = []
  · skip
    have HZ := hidP hz
    clear hz
    go_wp2_with fail
    refine (plain_zero (Hc.out _ B2.out) (by omega) HQ.out HZ.out).mono ?_
    rintro e w3 ⟨ao, cap, rfl, hb3⟩
    have B3 := hidP (step_below B2.out hb3)
    clear hb3
    go_wp2_with fail
    go_ret
    exact ⟨rfl, B3.out⟩
  have HZ := hidP hz
  have hb0 : (((nf q m).length : Int) == 0) = false := by rw [beq_eq_false_iff_ne]; have := List.length_pos_iff.2 hz; omega
  clear hz
  have hqn : q < 9223372036854775808 := by have := HQ.out.2.1; omega
  go_wp2_with fail
  refine (plain_nz (Hc.out _ B2.out) (by omega) HQ.out).mono ?_
  rintro e w3 ⟨ao, cap, rfl, hb3⟩
  have B3 := hidP (step_below B2.out hb3)
  clear hb3
  go_wp2_with fail
  refine (modT_Add (Ha.out _ B3.out) (Hb.out _ B3.out) (by omega) (by omega) HQ.out).mono ?_
  rintro e w4 ⟨v1, rfl, hv1, hb4⟩
  have B4 := hidP (step_below B3.out hb4)
  clear hb4
  have S1 := hidP hv1
  clear hv1
  go_wp2_with fail
  refine (mod_PW S1.out (Hc.out _ B4.out) hqn (Nat.le_trans (len_nf (len_add l0 l1)) (by omega)) (by omega) HQ.out HZ.out).mono ?_
  rintro e w5 ⟨v2, A, rfl, hv2, hA, hb5⟩
  have B5 := hidP (step_below B4.out hb5)
  replace S1 := hidP (S1.out.below hb5)
  clear hb5
  have S2 := hidP hv2
  clear hv2
  have HA1 := hidP hA
  clear hA
  clear S1
  go_wp2_with fail
  refine (mod_PW (Ha.out _ B5.out) (Hc.out _ B5.out) hqn (by omega) (by omega) HQ.out HZ.out).mono ?_
  rintro e w6 ⟨v3, Bq, rfl, hv3, hB, hb6⟩
  have B6 := hidP (step_below B5.out hb6)
  replace S2 := hidP (S2.out.below hb6)
  clear hb6
  have S3 := hidP hv3
  clear hv3
  have HB1 := hidP hB
  clear hB
  go_wp2_with fail
  refine (mod_PW (Hb.out _ B6.out) (Hc.out _ B6.out) hqn (by omega) (by omega) HQ.out HZ.out).mono ?_
  rintro e w7 ⟨v4, Cq, rfl, hv4, hC, hb7⟩
  have B7 := hidP (step_below B6.out hb7)
  replace S2 := hidP (S2.out.below hb7)
  replace S3 := hidP (S3.out.below hb7)
  clear hb7
  have S4 := hidP hv4
  clear hv4
  have HC1 := hidP hC
  clear hC
  go_wp2_with fail
  refine (modT_Add S3.out S4.out (Nat.le_trans (rest_short HB1.out L2) (by omega)) (Nat.le_trans (rest_short HC1.out L2) (by omega)) HQ.out).mono ?_
  rintro e w8 ⟨v5, rfl, hv5, hb8⟩
  have B8 := hidP (step_below B7.out hb8)
  replace S2 := hidP (S2.out.below hb8)
  replace S3 := hidP (S3.out.below hb8)
  replace S4 := hidP (S4.out.below hb8)
  clear hb8
  have S5 := hidP hv5
  clear hv5
  go_wp2_with fail
  refine (same_is S2.out S5.out (r := true) (decide_eq_true (frob_rest HQ.out HA1.out HB1.out HC1.out))).mono ?_
  rintro e w9 ⟨rfl, hb9⟩
  have B9 := hidP (step_below B8.out hb9)
  replace S2 := hidP (S2.out.below hb9)
  replace S3 := hidP (S3.out.below hb9)
  replace S4 := hidP (S4.out.below hb9)
  replace S5 := hidP (S5.out.below hb9)
  clear hb9
  clear S2 S3 S4 S5
  by_cases y0 : n < 0
  · skip
    go_wp2_with fail
    go_ret
    exact ⟨rfl, B9.out⟩
  by_cases y1 : k < 0
  · skip
    go_wp2_with fail
    go_ret
    exact ⟨rfl, B9.out⟩
  by_cases y2 : n > 1099511627776
  · skip
    go_wp2_with fail
    go_ret
    exact ⟨rfl, B9.out⟩
  by_cases y3 : k > 1099511627776
  · skip
    go_wp2_with fail
    go_ret
    exact ⟨rfl, B9.out⟩
  obtain ⟨N, K, T, t, hn, hk, ht, hT, hN, hK, hNK, eT, hwT⟩ := exps y0 y1 y2 y3
  have HT := hidP hT
  clear hT
  have Hn := hidP hn
  clear hn
  have Hk := hidP hk
  clear hk
  have Ht := hidP ht
  clear ht
  have HN := hidP hN
  clear hN
  have HK := hidP hK
  clear hK
  have HNK := hidP hNK
  clear hNK
  go_wp2_with fail
  refine (mod_PWi Hn (Ha.out _ B9.out) (Hc.out _ B9.out) HN.out (by omega) (by omega) HQ.out HZ.out).mono ?_
  rintro e w10 ⟨x1, X, rfl, hx1, hX, hb10⟩
  have B10 := hidP (step_below B9.out hb10)
  clear hb10
  have S1 := hidP hx1
  clear hx1
  have HX := hidP hX
  clear hX
  go_wp2_with fail
  refine (mod_PWi Hk (Ha.out _ B10.out) (Hc.out _ B10.out) HK.out (by omega) (by omega) HQ.out HZ.out).mono ?_
  rintro e w11 ⟨x2, Y, rfl, hx2, hY, hb11⟩
  have B11 := hidP (step_below B10.out hb11)
  replace S1 := hidP (S1.out.below hb11)
  clear hb11
  have S2 := hidP hx2
  clear hx2
  have HY := hidP hY
  clear hY
  go_wp2_with fail
  refine (mod_PWi Ht (Ha.out _ B11.out) (Hc.out _ B11.out) HNK.out (by omega) (by omega) HQ.out HZ.out).mono ?_
  rintro e w12 ⟨x3, Z, rfl, hx3, hZ, hb12⟩
  have B12 := hidP (step_below B11.out hb12)
  replace S1 := hidP (S1.out.below hb12)
  replace S2 := hidP (S2.out.below hb12)
  clear hb12
  have S3 := hidP hx3
  clear hx3
  have HZ1 := hidP hZ
  clear hZ
  go_wp2_with fail
  refine (mod_Mul S1.out S2.out (Nat.le_trans (rest_short HX.out L2) (by omega)) (Nat.le_trans (rest_short HY.out L2) (by omega)) HQ.out).mono ?_
  rintro e w13 ⟨x4, rfl, hx4, hb13⟩
  have B13 := hidP (step_below B12.out hb13)
  replace S1 := hidP (S1.out.below hb13)
  replace S2 := hidP (S2.out.below hb13)
  replace S3 := hidP (S3.out.below hb13)
  clear hb13
  have S4 := hidP hx4
  clear hx4
  clear S1 S2
  go_wp2_with fail
  refine (mod_DMl S4.out (Hc.out _ B13.out) (Nat.le_trans (len_nf (len_mul (rest_short HX.out L2) (rest_short HY.out L2))) (by omega)) (by omega) HQ.out HZ.out).mono ?_
  rintro e w14 ⟨x5, a5, c5, Q, R, rfl, hx5, hx6, hd, hb14⟩
  have B14 := hidP (step_below B13.out hb14)
  replace S3 := hidP (S3.out.below hb14)
  replace S4 := hidP (S4.out.below hb14)
  clear hb14
  have S5 := hidP hx5
  clear hx5
  have S6 := hidP hx6
  clear hx6
  have HD := hidP hd
  clear hd
  have HE : Hid (Z = R) := pow_rest HQ.out HX.out HY.out (by rw [HT.out]; exact HZ1.out) HD.out
  go_wp2_with fail
  refine (same_is S3.out S6.out (r := true) (decide_eq_true HE.out)).mono ?_
  rintro e w15 ⟨rfl, hb15⟩
  have B15 := hidP (step_below B14.out hb15)
  replace S3 := hidP (S3.out.below hb15)
  replace S4 := hidP (S4.out.below hb15)
  replace S5 := hidP (S5.out.below hb15)
  replace S6 := hidP (S6.out.below hb15)
  clear hb15
  go_wp2_with fail
  go_ret
  exact ⟨rfl, B15.out⟩

/-! ### The row's step -/
set_option maxRecDepth 100000 in
theorem contract (H : Type) (enc : TypeId × Value → H) (W : World) (base : Nat) (args : Array Value) (ds gs : List (DataW H)) (before : List MemPlace)
    (hval0 : ∀ (j : Nat) t v, Try.f12.params[j]? = some t → args[j]? = some v → Value.okWide Try.prog W .any base t v)
    (hW : DataW.Whole enc Try.prog Try.f12.params.toList Rows.modularFrobeniusSpec.vars false W args.toList ds gs before)
    (hsz0 : (DataW.weightsEach Try.prog (Try.f12.params.toList ++ Rows.modularFrobeniusSpec.plain.varTypes Try.prog) (ds ++ gs)).all (· ≤ reachBytes) = true) :
    Calls Try.prog 12 args W fun e W' => ∃ v, e = .returned v ∧ Rows.modularFrobeniusSpec.post enc Try.prog Try.f12 false true false false W args v W' := by
  have hW' := hW
  obtain ⟨p, q, hA0, hV, rfl, hfz, hnd⟩ := hW
  have hA : DataW.TrodAll enc Try.prog W 0 (fun _ => true) true Try.f12.params.toList args.toList ds p := hA0
  have hval : ∀ (j : Nat) t v, Try.f12.params[j]? = some t → args[j]? = some v → Value.okWide Try.prog W .any base t v := hval0
  have hsz : (DataW.weightsEach Try.prog (Try.f12.params.toList ++ []) (ds ++ gs)).all (· ≤ reachBytes) = true := hsz0
  rw [Try.params12] at hA hval hsz
  obtain ⟨v0, vs0, d0, ds0, p0, q0, hargs, rfl, rfl, h0, r0⟩ := trodAll_cons hA
  obtain ⟨v1, vs1, d1, ds1, p1, q1, rfl, rfl, rfl, h1, r1⟩ := trodAll_cons r0
  obtain ⟨v2, vs2, d2, ds2, p2, q2, rfl, rfl, rfl, h2, r2⟩ := trodAll_cons r1
  obtain ⟨v3, vs3, d3, ds3, p3, q3, rfl, rfl, rfl, h3, r3⟩ := trodAll_cons r2
  obtain ⟨v4, vs4, d4, ds4, p4, q4, rfl, rfl, rfl, h4, r4⟩ := trodAll_cons r3
  obtain ⟨v5, vs5, d5, ds5, p5, q5, rfl, rfl, rfl, h5, r5⟩ := trodAll_cons r4
  obtain ⟨rfl, rfl, rfl⟩ := trodAll_nil r5
  obtain rfl : args = #[v0, v1, v2, v3, v4, v5] := by cases args; simp_all
  obtain ⟨rfl, rfl⟩ := trodVars_none hV
  obtain ⟨l0, s0⟩ := open_il (hval 0 22 v0 rfl rfl) h0 (fun elems spare e => by subst e; exact sized_slice hsz (j := 0) (t := 22) (e := 3) rfl rfl Try.underlying22)
  obtain ⟨l1, s1⟩ := open_il (hval 1 22 v1 rfl rfl) h1 (fun elems spare e => by subst e; exact sized_slice hsz (j := 1) (t := 22) (e := 3) rfl rfl Try.underlying22)
  obtain ⟨l2, s2⟩ := open_il (hval 2 22 v2 rfl rfl) h2 (fun elems spare e => by subst e; exact sized_slice hsz (j := 2) (t := 22) (e := 3) rfl rfl Try.underlying22)
  have k3 := h3
  obtain ⟨n3, rfl, rfl, rfl, wn3⟩ := open_int Try.underlying3 (hval 3 3 v3 rfl rfl) h3
  have k4 := h4
  obtain ⟨n4, rfl, rfl, rfl, wn4⟩ := open_int Try.underlying3 (hval 4 3 v4 rfl rfl) h4
  have k5 := h5
  obtain ⟨n5, rfl, rfl, rfl, wn5⟩ := open_int Try.underlying3 (hval 5 3 v5 rfl rfl) h5
  refine (walk s0 s1 s2 wn3 wn4 wn5).mono fun e W' ⟨he, hb⟩ => ?_
  subst he
  exact ⟨_, rfl, _, _, _, _, _, _, hW', trodAll_cons_mk (shut_bool Try.underlying4 _) trodAll_mk0, trodAll_cons_mk (Below.trod laidOut (by kernel_rfl) (of_decide_eq_true (by kernel_rfl)) h0 hb (fun x hx => by first | cases hx; done | (have := hW'.lt x (by simp [hx]); simpa using this))) (trodAll_cons_mk (Below.trod laidOut (by kernel_rfl) (of_decide_eq_true (by kernel_rfl)) h1 hb (fun x hx => by first | cases hx; done | (have := hW'.lt x (by simp [hx]); simpa using this))) (trodAll_cons_mk (Below.trod laidOut (by kernel_rfl) (of_decide_eq_true (by kernel_rfl)) h2 hb (fun x hx => by first | cases hx; done | (have := hW'.lt x (by simp [hx]); simpa using this))) (trodAll_cons_mk (Below.trod laidOut (by kernel_rfl) (of_decide_eq_true (by kernel_rfl)) k3 hb (fun x hx => by first | cases hx; done | (have := hW'.lt x (by simp [hx]); simpa using this))) (trodAll_cons_mk (Below.trod laidOut (by kernel_rfl) (of_decide_eq_true (by kernel_rfl)) k4 hb (fun x hx => by first | cases hx; done | (have := hW'.lt x (by simp [hx]); simpa using this))) (trodAll_cons_mk (Below.trod laidOut (by kernel_rfl) (of_decide_eq_true (by kernel_rfl)) k5 hb (fun x hx => by first | cases hx; done | (have := hW'.lt x (by simp [hx]); simpa using this))) (trodAll_mk0)))))), rfl, hb.frame _, fun h => by cases h⟩

set_option maxRecDepth 100000 in
theorem lifted (os : Os) (started : os.Started) (H : Type) (enc : TypeId × Value → H) :
    ReturnsInHanded {} Try.checked os 12 .any (Rows.modularFrobeniusSpec.pre6 enc Try.prog Try.f12 Rows.modularFrobeniusRow.domain false) (Rows.modularFrobeniusSpec.post enc Try.prog Try.f12 false true false false) := by
  refine returnsInHanded_of_change_shaped (C := Try.checked) own started (by kernel_rfl) Try.func12
    (ChangeSpec.witness6 (enc := enc) (C := Try.checked) false ⟨#[], #[.slice none 0 0, .slice none 0 0, .slice none 0 0, .int .i64 0, .int .i64 0, .int .i64 0], []⟩ 8 (by kernel_rfl) (by kernel_rfl) (by kernel_rfl) (by kernel_rfl)) ?_
  intro W base args ds gs before hval0 hW _ hsz _ _
  exact contract H enc W base args ds gs before hval0 hW hsz

theorem holds : Rows.ModularFrobeniusSaid :=
  OpenClaim.holds_of_wide 12 Try.f12 rfl rfl rfl rfl rfl rfl rfl ⟨rfl, rfl, rfl, rfl, rfl⟩ rfl rfl rfl rfl rfl (by kernel_rfl) Try.func12 (by kernel_rfl)
    (of_decide_eq_true (by kernel_rfl)) (by unfold Func.isWrapper; first | (rw [if_pos (by decide +kernel)]; kernel_rfl) | (rw [if_neg (by decide +kernel)]; exact ⟨rfl, rfl⟩))
    (fun os started H enc _ => lifted os started H enc)
end Go.Proofs.Ytbmneibliekfdaa.modularFrobenius
