/- For all ints a, b, c and the prime that is picked for p: sums and products may be taken in any order, products of sums apart, they are rests, and a number whose rest is not 0 times its inverse has the rest 1. Conditions: none. -/
import Derived.Test.YtbbopmniepkoiaaPr4
import Derived.Test.YtbbopmniepkoiaaPr6
import Derived.Test.YtbbopmniepkoiaaPrB
import Derived.Test.YtbbopmniepkoiaaPrF
import Derived.ProofKit
import Derived.OpenShut
import Derived.SizedLaws
import Derived.Lay
import Derived.LaidOnce
import Derived.Laws.Bits128
set_option linter.unusedVariables false
set_option linter.unusedSimpArgs false
namespace Go.Proofs.Ytbbopmniepkoiaa.primeField
open Go.ChangeShapes Go.WideShapes Go.ChangeAt Go.RowKit

set_option maxRecDepth 100000 in
set_option maxHeartbeats 4000000 in
theorem walk {a b c p : Int} (ha : (Lit.int .i64 a).wf = true) (hb : (Lit.int .i64 b).wf = true) (hc : (Lit.int .i64 c).wf = true) (hp : (Lit.int .i64 p).wf = true) (w : World) : Calls Try.prog 6 #[.int .i64 a, .int .i64 b, .int .i64 c, .int .i64 p] w fun e w' => e = .returned (.bool true) ∧ Below w.heap.size w w' := by
  obtain ⟨p1, p2⟩ := int_bounds5 hp
  have C0 := hidP awake5
  have CP := hidP (law_pick p p1 p2)
  clear ha hb hc hp p1 p2
  go_enter Try.func6, Try.ntmps6
  go_wp2_with fail
  refine (C0.out _).mono ?_
  rintro e w0 ⟨rfl, hb0⟩
  have B0 := hidP hb0
  clear hb0
  go_wp2_with fail
  refine (CP.out _).mono ?_
  rintro e w1 ⟨q, rfl, hq, hb1⟩
  have B1 := hidP (B0.out.trans (hb1.mono B0.out.size))
  clear hb1
  have q1 : -9223372036854775808 ≤ (q : Int) := by omega
  have q2 : (q : Int) < 9223372036854775808 := by have := hq.2.1; omega
  have s1 := addP_range hq a b
  have m1 := mulP_range hq a b
  have D0 := hidP (prime_add (a) (b) (q : Int) q1 q2)
  have D1 := hidP (prime_mul (a) (b) (q : Int) q1 q2)
  have D2 := hidP (prime_add (b) (a) (q : Int) q1 q2)
  rw [addP_comm hq] at D2
  have D3 := hidP (prime_add (addP a b q) (c) (q : Int) q1 q2)
  have D4 := hidP (prime_add (b) (c) (q : Int) q1 q2)
  have D5 := hidP (prime_add (a) (addP b c q) (q : Int) q1 q2)
  rw [addP_assoc hq] at D5
  have D6 := hidP (prime_mul (b) (a) (q : Int) q1 q2)
  rw [mulP_comm hq] at D6
  have D7 := hidP (prime_mul (mulP a b q) (c) (q : Int) q1 q2)
  have D8 := hidP (prime_mul (b) (c) (q : Int) q1 q2)
  have D9 := hidP (prime_mul (a) (mulP b c q) (q : Int) q1 q2)
  rw [mulP_assoc hq] at D9
  have D10 := hidP (prime_mul (addP a b q) (c) (q : Int) q1 q2)
  have D11 := hidP (prime_mul (a) (c) (q : Int) q1 q2)
  have D12 := hidP (prime_mul (b) (c) (q : Int) q1 q2)
  have D13 := hidP (prime_add (mulP a c q) (mulP b c q) (q : Int) q1 q2)
  rw [dist_eq hq] at D13
  have DI := hidP (prime_inv a (q : Int) q1 q2)
  have DZ := hidP (prime_add a 0 (q : Int) q1 q2)
  have DM := hidP (prime_mul a (invP a q) (q : Int) q1 q2)
  have D1' := hidP (prime_add 1 0 (q : Int) q1 q2)
  rw [addP_one hq] at D1'
  have z0 := fun h => invP_zero hq (a := a) h
  have z1 := fun h => invP_one hq (a := a) h
  obtain ⟨S, eS⟩ : ∃ z, addP a b q = z := ⟨_, rfl⟩
  obtain ⟨M, eM⟩ : ∃ z, mulP a b q = z := ⟨_, rfl⟩
  obtain ⟨T, eT⟩ : ∃ z, addP (addP a b q) c q = z := ⟨_, rfl⟩
  obtain ⟨U, eU⟩ : ∃ z, addP b c q = z := ⟨_, rfl⟩
  obtain ⟨V, eV⟩ : ∃ z, mulP (mulP a b q) c q = z := ⟨_, rfl⟩
  obtain ⟨X, eX⟩ : ∃ z, mulP b c q = z := ⟨_, rfl⟩
  obtain ⟨Y, eY⟩ : ∃ z, mulP (addP a b q) c q = z := ⟨_, rfl⟩
  obtain ⟨A, eA⟩ : ∃ z, mulP a c q = z := ⟨_, rfl⟩
  obtain ⟨I, eI⟩ : ∃ z, invP a q = z := ⟨_, rfl⟩
  obtain ⟨Z, eZ⟩ : ∃ z, addP a 0 q = z := ⟨_, rfl⟩
  rw [eS] at eT eY; rw [eM] at eV
  rw [eS] at s1 D0 D2 D3 D5 D10 D13
  rw [eM] at m1 D1 D6 D7 D9
  simp only [eT] at D3 D5
  simp only [eU] at D4 D5
  simp only [eV] at D7 D9
  simp only [eX] at D8 D9 D12 D13
  simp only [eY] at D10 D13
  simp only [eA] at D11 D13
  simp only [eI] at z0 z1 DI DM
  simp only [eZ] at z0 z1 DZ
  obtain ⟨s1, s2⟩ := s1
  obtain ⟨m1, m2⟩ := m1
  have HQ := hidP hq
  have H0 := hidP z0; have H1 := hidP z1
  clear hq q1 q2 z0 z1 eS eM eT eU eV eX eY eA eI eZ
  have t1 : ¬ S < 0 := by omega
  have t2 : ¬ S ≥ (q : Int) := by omega
  have t3 : ¬ M < 0 := by omega
  have t4 : ¬ M ≥ (q : Int) := by omega
  clear s1 s2 m1 m2
  go_wp2_with fail
  refine (D0.out _).mono ?_
  rintro e w2 ⟨rfl, hb2⟩
  have B2 := hidP (B1.out.trans (hb2.mono B1.out.size))
  clear hb2
  go_wp2_with fail
  refine (D1.out _).mono ?_
  rintro e w3 ⟨rfl, hb3⟩
  have B3 := hidP (B2.out.trans (hb3.mono B2.out.size))
  clear hb3
  go_wp2_with fail
  refine (D2.out _).mono ?_
  rintro e w4 ⟨rfl, hb4⟩
  have B4 := hidP (B3.out.trans (hb4.mono B3.out.size))
  clear hb4
  go_wp2_with fail
  refine (D3.out _).mono ?_
  rintro e w5 ⟨rfl, hb5⟩
  have B5 := hidP (B4.out.trans (hb5.mono B4.out.size))
  clear hb5
  go_wp2_with fail
  refine (D4.out _).mono ?_
  rintro e w6 ⟨rfl, hb6⟩
  have B6 := hidP (B5.out.trans (hb6.mono B5.out.size))
  clear hb6
  go_wp2_with fail
  refine (D5.out _).mono ?_
  rintro e w7 ⟨rfl, hb7⟩
  have B7 := hidP (B6.out.trans (hb7.mono B6.out.size))
  clear hb7
  go_wp2_with fail
  refine (D6.out _).mono ?_
  rintro e w8 ⟨rfl, hb8⟩
  have B8 := hidP (B7.out.trans (hb8.mono B7.out.size))
  clear hb8
  go_wp2_with fail
  refine (D7.out _).mono ?_
  rintro e w9 ⟨rfl, hb9⟩
  have B9 := hidP (B8.out.trans (hb9.mono B8.out.size))
  clear hb9
  go_wp2_with fail
  refine (D8.out _).mono ?_
  rintro e w10 ⟨rfl, hb10⟩
  have B10 := hidP (B9.out.trans (hb10.mono B9.out.size))
  clear hb10
  go_wp2_with fail
  refine (D9.out _).mono ?_
  rintro e w11 ⟨rfl, hb11⟩
  have B11 := hidP (B10.out.trans (hb11.mono B10.out.size))
  clear hb11
  go_wp2_with fail
  refine (D10.out _).mono ?_
  rintro e w12 ⟨rfl, hb12⟩
  have B12 := hidP (B11.out.trans (hb12.mono B11.out.size))
  clear hb12
  go_wp2_with fail
  refine (D11.out _).mono ?_
  rintro e w13 ⟨rfl, hb13⟩
  have B13 := hidP (B12.out.trans (hb13.mono B12.out.size))
  clear hb13
  go_wp2_with fail
  refine (D12.out _).mono ?_
  rintro e w14 ⟨rfl, hb14⟩
  have B14 := hidP (B13.out.trans (hb14.mono B13.out.size))
  clear hb14
  go_wp2_with fail
  refine (D13.out _).mono ?_
  rintro e w15 ⟨rfl, hb15⟩
  have B15 := hidP (B14.out.trans (hb15.mono B14.out.size))
  clear hb15
  by_cases hz : Z = 0
  · have hi := H0.out hz
    subst hz hi
    go_wp2_with fail
    refine (DI.out _).mono ?_
    rintro e w16 ⟨rfl, hb16⟩
    have B16 := hidP (B15.out.trans (hb16.mono B15.out.size))
    clear hb16
    go_wp2_with fail
    refine (DZ.out _).mono ?_
    rintro e w17 ⟨rfl, hb17⟩
    have B17 := hidP (B16.out.trans (hb17.mono B16.out.size))
    clear hb17
    go_wp2_with fail
    go_ret
    exact ⟨rfl, B17.out⟩
  · have hi := H1.out hz
    have hz' : (Z == 0) = false := by simpa using hz
    simp only [hi] at DM
    clear hi
    go_wp2_with fail
    refine (DI.out _).mono ?_
    rintro e w16 ⟨rfl, hb16⟩
    have B16 := hidP (B15.out.trans (hb16.mono B15.out.size))
    clear hb16
    go_wp2_with fail
    refine (DZ.out _).mono ?_
    rintro e w17 ⟨rfl, hb17⟩
    have B17 := hidP (B16.out.trans (hb17.mono B16.out.size))
    clear hb17
    go_wp2_with fail
    refine (DM.out _).mono ?_
    rintro e w18 ⟨rfl, hb18⟩
    have B18 := hidP (B17.out.trans (hb18.mono B17.out.size))
    clear hb18
    go_wp2_with fail
    refine (D1'.out _).mono ?_
    rintro e w19 ⟨rfl, hb19⟩
    have B19 := hidP (B18.out.trans (hb19.mono B18.out.size))
    clear hb19
    go_wp2_with fail
    go_ret
    exact ⟨rfl, B19.out⟩

/-! ### The row's step -/
set_option maxRecDepth 100000 in
theorem contract (H : Type) (enc : TypeId × Value → H) (W : World) (base : Nat) (args : Array Value) (ds gs : List (DataW H)) (before : List MemPlace)
    (hval0 : ∀ (j : Nat) t v, Try.f6.params[j]? = some t → args[j]? = some v → Value.okWide Try.prog W .any base t v)
    (hW : DataW.Whole enc Try.prog Try.f6.params.toList Rows.primeFieldSpec.vars false W args.toList ds gs before) :
    Calls Try.prog 6 args W fun e W' => ∃ v, e = .returned v ∧ Rows.primeFieldSpec.post enc Try.prog Try.f6 false true false false W args v W' := by
  have hW' := hW
  obtain ⟨p, q, hA0, hV, rfl, hfz, hnd⟩ := hW
  have hA : DataW.TrodAll enc Try.prog W 0 (fun _ => true) true Try.f6.params.toList args.toList ds p := hA0
  have hval : ∀ (j : Nat) t v, Try.f6.params[j]? = some t → args[j]? = some v → Value.okWide Try.prog W .any base t v := hval0
  rw [Try.params6] at hA hval
  obtain ⟨v0, vs0, d0, ds0, p0, q0, hargs, rfl, rfl, h0, r0⟩ := trodAll_cons hA
  obtain ⟨v1, vs1, d1, ds1, p1, q1, rfl, rfl, rfl, h1, r1⟩ := trodAll_cons r0
  obtain ⟨v2, vs2, d2, ds2, p2, q2, rfl, rfl, rfl, h2, r2⟩ := trodAll_cons r1
  obtain ⟨v3, vs3, d3, ds3, p3, q3, rfl, rfl, rfl, h3, r3⟩ := trodAll_cons r2
  obtain ⟨rfl, rfl, rfl⟩ := trodAll_nil r3
  obtain rfl : args = #[v0, v1, v2, v3] := by cases args; simp_all
  obtain ⟨rfl, rfl⟩ := trodVars_none hV
  have k0 := h0
  obtain ⟨n0, rfl, rfl, rfl, wn0⟩ := open_int Try.underlying3 (hval 0 3 v0 rfl rfl) h0
  have k1 := h1
  obtain ⟨n1, rfl, rfl, rfl, wn1⟩ := open_int Try.underlying3 (hval 1 3 v1 rfl rfl) h1
  have k2 := h2
  obtain ⟨n2, rfl, rfl, rfl, wn2⟩ := open_int Try.underlying3 (hval 2 3 v2 rfl rfl) h2
  have k3 := h3
  obtain ⟨n3, rfl, rfl, rfl, wn3⟩ := open_int Try.underlying3 (hval 3 3 v3 rfl rfl) h3
  refine (walk wn0 wn1 wn2 wn3 W).mono fun e W' ⟨he, hb⟩ => ?_
  subst he
  exact ⟨_, rfl, _, _, _, _, _, _, hW', trodAll_cons_mk (shut_bool Try.underlying4 _) trodAll_mk0, trodAll_cons_mk (Below.trod laidOut (by kernel_rfl) (of_decide_eq_true (by kernel_rfl)) k0 hb (fun x hx => by first | cases hx; done | (have := hW'.lt x (by simp [hx]); simpa using this))) (trodAll_cons_mk (Below.trod laidOut (by kernel_rfl) (of_decide_eq_true (by kernel_rfl)) k1 hb (fun x hx => by first | cases hx; done | (have := hW'.lt x (by simp [hx]); simpa using this))) (trodAll_cons_mk (Below.trod laidOut (by kernel_rfl) (of_decide_eq_true (by kernel_rfl)) k2 hb (fun x hx => by first | cases hx; done | (have := hW'.lt x (by simp [hx]); simpa using this))) (trodAll_cons_mk (Below.trod laidOut (by kernel_rfl) (of_decide_eq_true (by kernel_rfl)) k3 hb (fun x hx => by first | cases hx; done | (have := hW'.lt x (by simp [hx]); simpa using this))) (trodAll_mk0)))), rfl, hb.frame _, fun h => by cases h⟩

set_option maxRecDepth 100000 in
theorem lifted (os : Os) (started : os.Started) (H : Type) (enc : TypeId × Value → H) :
    ReturnsInHanded {} Try.checked os 6 .any (Rows.primeFieldSpec.pre6 enc Try.prog Try.f6 Rows.primeFieldRow.domain false) (Rows.primeFieldSpec.post enc Try.prog Try.f6 false true false false) := by
  refine returnsInHanded_of_change (C := Try.checked) own started (by kernel_rfl) Try.func6
    (ChangeSpec.witness6 (enc := enc) (C := Try.checked) false ⟨#[], #[.int .i64 0, .int .i64 0, .int .i64 0, .int .i64 0], []⟩ 8 (by kernel_rfl) (by kernel_rfl) (by kernel_rfl) (by kernel_rfl)) ?_
  intro W base args ds gs before hval0 hW _ _
  exact contract H enc W base args ds gs before hval0 hW

theorem holds : Rows.PrimeFieldSaid :=
  OpenClaim.holds_of_wide 6 Try.f6 rfl rfl rfl rfl rfl rfl rfl ⟨rfl, rfl, rfl, rfl, rfl⟩ rfl rfl rfl rfl rfl (by kernel_rfl) Try.func6 (by kernel_rfl)
    (of_decide_eq_true (by kernel_rfl)) (by unfold Func.isWrapper; first | (rw [if_pos (by decide +kernel)]; kernel_rfl) | (rw [if_neg (by decide +kernel)]; exact ⟨rfl, rfl⟩))
    (fun os started H enc _ => lifted os started H enc)
end Go.Proofs.Ytbbopmniepkoiaa.primeField
