/- For all ints a, n, m and the prime that is picked for p: a to the power of the prime has a's own rest; powers by numbers from 0 to 2^60 add up. Conditions: none. -/
import Derived.Test.YtbbopmniepkoiaaPr4
import Derived.Test.YtbbopmniepkoiaaPr6
import Derived.Test.YtbbopmniepkoiaaPrB
import Derived.Test.YtbbopmniepkoiaaPrF
import Derived.ProofKit
import Derived.OpenShut
import Derived.SizedLaws
import Derived.Lay
import Derived.LaidOnce
import Derived.Laws.Bits128
set_option linter.unusedVariables false
set_option linter.unusedSimpArgs false
namespace Go.Proofs.Ytbbopmniepkoiaa.primeFermat
open Go.ChangeShapes Go.WideShapes Go.ChangeAt Go.RowKit

set_option maxRecDepth 100000 in
set_option maxHeartbeats 4000000 in
theorem walk {a n m p : Int} (ha : (Lit.int .i64 a).wf = true) (hn : (Lit.int .i64 n).wf = true) (hm : (Lit.int .i64 m).wf = true) (hp : (Lit.int .i64 p).wf = true) (w : World) : Calls Try.prog 7 #[.int .i64 a, .int .i64 n, .int .i64 m, .int .i64 p] w fun e w' => e = .returned (.bool true) ∧ Below w.heap.size w w' := by
  obtain ⟨p1, p2⟩ := int_bounds5 hp
  have C0 := hidP awake5
  have CP := hidP (law_pick p p1 p2)
  clear ha hn hm hp p1 p2
  go_enter Try.func7, Try.ntmps7
  go_wp2_with fail
  refine (C0.out _).mono ?_
  rintro e w0 ⟨rfl, hb0⟩
  have B0 := hidP hb0
  clear hb0
  go_wp2_with fail
  refine (CP.out _).mono ?_
  rintro e w1 ⟨q, rfl, hq, hb1⟩
  have B1 := hidP (B0.out.trans (hb1.mono B0.out.size))
  clear hb1
  have q1 : -9223372036854775808 ≤ (q : Int) := by omega
  have q2 : (q : Int) < 9223372036854775808 := by have := hq.2.1; omega
  have DF := hidP (prime_pow a q (q : Int) q1 q2 q2)
  have DZ := hidP (prime_add a 0 (q : Int) q1 q2)
  rw [powP_fermat hq] at DF
  obtain ⟨Z, eZ⟩ : ∃ z, addP a 0 q = z := ⟨_, rfl⟩
  simp only [eZ] at DF DZ
  by_cases hbig : n < 0 ∨ m < 0 ∨ n > 1152921504606846976 ∨ m > 1152921504606846976
  · have HQ := hidP hq
    clear eZ hq q1 q2
    by_cases a1 : n < 0
    · clear hbig
      go_wp2_with fail
      refine (DF.out _).mono ?_
      rintro e w2 ⟨rfl, hb2⟩
      have B2 := hidP (B1.out.trans (hb2.mono B1.out.size))
      clear hb2
      go_wp2_with fail
      refine (DZ.out _).mono ?_
      rintro e w3 ⟨rfl, hb3⟩
      have B3 := hidP (B2.out.trans (hb3.mono B2.out.size))
      clear hb3
      go_wp2_with fail
      go_ret
      exact ⟨rfl, B3.out⟩
    by_cases a2 : m < 0
    · clear hbig
      go_wp2_with fail
      refine (DF.out _).mono ?_
      rintro e w2 ⟨rfl, hb2⟩
      have B2 := hidP (B1.out.trans (hb2.mono B1.out.size))
      clear hb2
      go_wp2_with fail
      refine (DZ.out _).mono ?_
      rintro e w3 ⟨rfl, hb3⟩
      have B3 := hidP (B2.out.trans (hb3.mono B2.out.size))
      clear hb3
      go_wp2_with fail
      go_ret
      exact ⟨rfl, B3.out⟩
    by_cases a3 : n > 1152921504606846976
    · clear hbig
      go_wp2_with fail
      refine (DF.out _).mono ?_
      rintro e w2 ⟨rfl, hb2⟩
      have B2 := hidP (B1.out.trans (hb2.mono B1.out.size))
      clear hb2
      go_wp2_with fail
      refine (DZ.out _).mono ?_
      rintro e w3 ⟨rfl, hb3⟩
      have B3 := hidP (B2.out.trans (hb3.mono B2.out.size))
      clear hb3
      go_wp2_with fail
      go_ret
      exact ⟨rfl, B3.out⟩
    by_cases a4 : m > 1152921504606846976
    · clear hbig
      go_wp2_with fail
      refine (DF.out _).mono ?_
      rintro e w2 ⟨rfl, hb2⟩
      have B2 := hidP (B1.out.trans (hb2.mono B1.out.size))
      clear hb2
      go_wp2_with fail
      refine (DZ.out _).mono ?_
      rintro e w3 ⟨rfl, hb3⟩
      have B3 := hidP (B2.out.trans (hb3.mono B2.out.size))
      clear hb3
      go_wp2_with fail
      go_ret
      exact ⟨rfl, B3.out⟩
    · exfalso; omega
  · obtain ⟨N, rfl⟩ : ∃ N : Nat, n = N := ⟨n.toNat, by omega⟩
    obtain ⟨M, rfl⟩ : ∃ M : Nat, m = M := ⟨m.toNat, by omega⟩
    have a1 : ¬ (N : Int) < 0 := by omega
    have a2 : ¬ (M : Int) < 0 := by omega
    have a3 : ¬ (N : Int) > 1152921504606846976 := by omega
    have a4 : ¬ (M : Int) > 1152921504606846976 := by omega
    have hw : IntKind.i64.wrap ((N : Int) + (M : Int)) = ((N + M : Nat) : Int) := by rw [IntKind.wrap_i64]; omega
    have D1 := hidP (prime_pow a ((N + M : Nat) : Int) (q : Int) q1 q2 (by omega))
    have D2 := hidP (prime_pow a N (q : Int) q1 q2 (by omega))
    have D3 := hidP (prime_pow a M (q : Int) q1 q2 (by omega))
    have D4 := hidP (prime_mul (powP a N q) (powP a M q) (q : Int) q1 q2)
    rw [powP_add hq] at D4
    obtain ⟨X, eX⟩ : ∃ z, powP a N q = z := ⟨_, rfl⟩
    obtain ⟨Y, eY⟩ : ∃ z, powP a M q = z := ⟨_, rfl⟩
    obtain ⟨V, eV⟩ : ∃ z, powP a ((N + M : Nat) : Int) q = z := ⟨_, rfl⟩
    rw [eX] at D2 D4; rw [eY] at D3 D4; rw [eV] at D1 D4
    obtain ⟨S, hS⟩ : ∃ S, N + M = S := ⟨_, rfl⟩
    have hw2 : (N : Int) + (M : Int) = (S : Int) := by omega
    have hw3 : IntKind.i64.wrap (S : Int) = (S : Int) := by rw [IntKind.wrap_i64]; omega
    rw [hS] at D1
    have HQ := hidP hq
    clear eX eY eV eZ hq q1 q2 hbig hw hS
    go_wp2_with fail
    refine (DF.out _).mono ?_
    rintro e w2 ⟨rfl, hb2⟩
    have B2 := hidP (B1.out.trans (hb2.mono B1.out.size))
    clear hb2
    go_wp2_with fail
    refine (DZ.out _).mono ?_
    rintro e w3 ⟨rfl, hb3⟩
    have B3 := hidP (B2.out.trans (hb3.mono B2.out.size))
    clear hb3
    go_wp2_with fail
    refine (D1.out _).mono ?_
    rintro e w4 ⟨rfl, hb4⟩
    have B4 := hidP (B3.out.trans (hb4.mono B3.out.size))
    clear hb4
    go_wp2_with fail
    refine (D2.out _).mono ?_
    rintro e w5 ⟨rfl, hb5⟩
    have B5 := hidP (B4.out.trans (hb5.mono B4.out.size))
    clear hb5
    go_wp2_with fail
    refine (D3.out _).mono ?_
    rintro e w6 ⟨rfl, hb6⟩
    have B6 := hidP (B5.out.trans (hb6.mono B5.out.size))
    clear hb6
    go_wp2_with fail
    refine (D4.out _).mono ?_
    rintro e w7 ⟨rfl, hb7⟩
    have B7 := hidP (B6.out.trans (hb7.mono B6.out.size))
    clear hb7
    go_wp2_with fail
    go_ret
    exact ⟨rfl, B7.out⟩

/-! ### The row's step -/
set_option maxRecDepth 100000 in
theorem contract (H : Type) (enc : TypeId × Value → H) (W : World) (base : Nat) (args : Array Value) (ds gs : List (DataW H)) (before : List MemPlace)
    (hval0 : ∀ (j : Nat) t v, Try.f7.params[j]? = some t → args[j]? = some v → Value.okWide Try.prog W .any base t v)
    (hW : DataW.Whole enc Try.prog Try.f7.params.toList Rows.primeFermatSpec.vars false W args.toList ds gs before) :
    Calls Try.prog 7 args W fun e W' => ∃ v, e = .returned v ∧ Rows.primeFermatSpec.post enc Try.prog Try.f7 false true false false W args v W' := by
  have hW' := hW
  obtain ⟨p, q, hA0, hV, rfl, hfz, hnd⟩ := hW
  have hA : DataW.TrodAll enc Try.prog W 0 (fun _ => true) true Try.f7.params.toList args.toList ds p := hA0
  have hval : ∀ (j : Nat) t v, Try.f7.params[j]? = some t → args[j]? = some v → Value.okWide Try.prog W .any base t v := hval0
  rw [Try.params7] at hA hval
  obtain ⟨v0, vs0, d0, ds0, p0, q0, hargs, rfl, rfl, h0, r0⟩ := trodAll_cons hA
  obtain ⟨v1, vs1, d1, ds1, p1, q1, rfl, rfl, rfl, h1, r1⟩ := trodAll_cons r0
  obtain ⟨v2, vs2, d2, ds2, p2, q2, rfl, rfl, rfl, h2, r2⟩ := trodAll_cons r1
  obtain ⟨v3, vs3, d3, ds3, p3, q3, rfl, rfl, rfl, h3, r3⟩ := trodAll_cons r2
  obtain ⟨rfl, rfl, rfl⟩ := trodAll_nil r3
  obtain rfl : args = #[v0, v1, v2, v3] := by cases args; simp_all
  obtain ⟨rfl, rfl⟩ := trodVars_none hV
  have k0 := h0
  obtain ⟨n0, rfl, rfl, rfl, wn0⟩ := open_int Try.underlying3 (hval 0 3 v0 rfl rfl) h0
  have k1 := h1
  obtain ⟨n1, rfl, rfl, rfl, wn1⟩ := open_int Try.underlying3 (hval 1 3 v1 rfl rfl) h1
  have k2 := h2
  obtain ⟨n2, rfl, rfl, rfl, wn2⟩ := open_int Try.underlying3 (hval 2 3 v2 rfl rfl) h2
  have k3 := h3
  obtain ⟨n3, rfl, rfl, rfl, wn3⟩ := open_int Try.underlying3 (hval 3 3 v3 rfl rfl) h3
  refine (walk wn0 wn1 wn2 wn3 W).mono fun e W' ⟨he, hb⟩ => ?_
  subst he
  exact ⟨_, rfl, _, _, _, _, _, _, hW', trodAll_cons_mk (shut_bool Try.underlying4 _) trodAll_mk0, trodAll_cons_mk (Below.trod laidOut (by kernel_rfl) (of_decide_eq_true (by kernel_rfl)) k0 hb (fun x hx => by first | cases hx; done | (have := hW'.lt x (by simp [hx]); simpa using this))) (trodAll_cons_mk (Below.trod laidOut (by kernel_rfl) (of_decide_eq_true (by kernel_rfl)) k1 hb (fun x hx => by first | cases hx; done | (have := hW'.lt x (by simp [hx]); simpa using this))) (trodAll_cons_mk (Below.trod laidOut (by kernel_rfl) (of_decide_eq_true (by kernel_rfl)) k2 hb (fun x hx => by first | cases hx; done | (have := hW'.lt x (by simp [hx]); simpa using this))) (trodAll_cons_mk (Below.trod laidOut (by kernel_rfl) (of_decide_eq_true (by kernel_rfl)) k3 hb (fun x hx => by first | cases hx; done | (have := hW'.lt x (by simp [hx]); simpa using this))) (trodAll_mk0)))), rfl, hb.frame _, fun h => by cases h⟩

set_option maxRecDepth 100000 in
theorem lifted (os : Os) (started : os.Started) (H : Type) (enc : TypeId × Value → H) :
    ReturnsInHanded {} Try.checked os 7 .any (Rows.primeFermatSpec.pre6 enc Try.prog Try.f7 Rows.primeFermatRow.domain false) (Rows.primeFermatSpec.post enc Try.prog Try.f7 false true false false) := by
  refine returnsInHanded_of_change (C := Try.checked) own started (by kernel_rfl) Try.func7
    (ChangeSpec.witness6 (enc := enc) (C := Try.checked) false ⟨#[], #[.int .i64 0, .int .i64 0, .int .i64 0, .int .i64 0], []⟩ 8 (by kernel_rfl) (by kernel_rfl) (by kernel_rfl) (by kernel_rfl)) ?_
  intro W base args ds gs before hval0 hW _ _
  exact contract H enc W base args ds gs before hval0 hW

theorem holds : Rows.PrimeFermatSaid :=
  OpenClaim.holds_of_wide 7 Try.f7 rfl rfl rfl rfl rfl rfl rfl ⟨rfl, rfl, rfl, rfl, rfl⟩ rfl rfl rfl rfl rfl (by kernel_rfl) Try.func7 (by kernel_rfl)
    (of_decide_eq_true (by kernel_rfl)) (by unfold Func.isWrapper; first | (rw [if_pos (by decide +kernel)]; kernel_rfl) | (rw [if_neg (by decide +kernel)]; exact ⟨rfl, rfl⟩))
    (fun os started H enc _ => lifted os started H enc)
end Go.Proofs.Ytbbopmniepkoiaa.primeFermat
