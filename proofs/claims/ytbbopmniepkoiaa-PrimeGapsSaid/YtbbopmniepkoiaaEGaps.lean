/- For every int n from 0 to 2^24 and every int k: prime.After(n) is a prime above n, and no k between both is one. Conditions: none. -/
import Derived.Test.YtbbopmniepkoiaaPr4
import Derived.Test.YtbbopmniepkoiaaPr6
import Derived.Test.YtbbopmniepkoiaaPrF
import Derived.ProofKit
import Derived.OpenShut
import Derived.SizedLaws
import Derived.Lay
import Derived.LaidOnce
import Derived.Laws.Bits128
set_option linter.unusedVariables false
set_option linter.unusedSimpArgs false
namespace Go.Proofs.Ytbbopmniepkoiaa.primeGaps
open Go.ChangeShapes Go.WideShapes Go.ChangeAt Go.RowKit

theorem isP_above : isP 16777259 = true := by
  rw [show (16777259 : Int) = ((16777259 : Nat) : Int) from rfl, isP_nat, decide_eq_true_eq]
  have h : ∀ a, a < 65 → ∀ b, b < 64 → 2 ≤ 64 * a + b → 16777259 % (64 * a + b) ≠ 0 := by decide +kernel
  refine isP_of_small (k := 4097) (by decide) (by decide) (by decide) (fun e h1 h2 h3 => ?_)
  have h4 := h (e / 64) (by omega) (e % 64) (Nat.mod_lt _ (by decide))
  rw [Nat.div_add_mod] at h4
  exact h4 h2 (Nat.mod_eq_zero_of_dvd h3)

set_option maxRecDepth 100000 in
set_option maxHeartbeats 4000000 in
theorem walk {n k : Int} (hn : (Lit.int .i64 n).wf = true) (hk : (Lit.int .i64 k).wf = true) (w : World) : Calls Try.prog 8 #[.int .i64 n, .int .i64 k] w fun e w' => e = .returned (.bool true) ∧ Below w.heap.size w w' := by
  obtain ⟨n1, n2⟩ := int_bounds5 hn
  obtain ⟨k1, k2⟩ := int_bounds5 hk
  have C0 := hidP awake5
  have CA := hidP (prime_after n n1 n2)
  have CK := hidP (prime_is k k1 k2)
  have HI : Hid (∀ z : Int, -9223372036854775808 ≤ z → z < 9223372036854775808 → ∀ w, Calls Try.prog 9 #[.int .i64 z] w fun e w' => e = .returned (.bool (isP z)) ∧ Below w.heap.size w w') := fun z h1 h2 => prime_is z h1 h2
  clear hn hk k1 k2 n1 n2
  by_cases a1 : n < 0
  · go_enter Try.func8, Try.ntmps8
    go_wp2_with fail
    refine (C0.out _).mono ?_
    rintro e w0 ⟨rfl, hb0⟩
    have B0 := hidP hb0
    clear hb0
    go_wp2_with fail
    go_ret
    exact ⟨rfl, B0.out⟩
  by_cases a2 : n > 16777216
  · go_enter Try.func8, Try.ntmps8
    go_wp2_with fail
    refine (C0.out _).mono ?_
    rintro e w0 ⟨rfl, hb0⟩
    have B0 := hidP hb0
    clear hb0
    go_wp2_with fail
    go_ret
    exact ⟨rfl, B0.out⟩
  go_enter Try.func8, Try.ntmps8
  go_wp2_with fail
  refine (C0.out _).mono ?_
  rintro e w0 ⟨rfl, hb0⟩
  have B0 := hidP hb0
  clear hb0
  go_wp2_with fail
  refine (CA.out _).mono ?_
  rintro e w1 ⟨r, rfl, hr, hb1⟩
  have B1 := hidP (B0.out.trans (hb1.mono B0.out.size))
  clear hb1
  have hr2 : n < r ∧ isP r = true ∧ ∀ z, n < z → z < r → isP z = false := by
    rcases hr with ⟨-, h⟩ | h
    · have := h 16777259 (by omega)
      rw [isP_above] at this; cases this
    · exact h
  obtain ⟨r1, r2, r3⟩ := hr2
  obtain ⟨R, hR, hR1, hR2⟩ : ∃ R : Nat, r = R ∧ R < 2147483648 ∧ 2 ≤ R := by
    obtain ⟨R, h1, h2, h3, -⟩ := isP_true r2
    exact ⟨R, h1, h3, h2⟩
  have CR := hidP (HI.out r (by omega) (by omega))
  rw [r2] at CR
  have a3 : ¬ r ≤ n := by omega
  have HN := hidP r3
  clear hr r1 r2 r3 HI hR hR1 hR2
  by_cases c1 : k ≤ n
  · clear HN CK
    go_wp2_with fail
    refine (CR.out _).mono ?_
    rintro e w2 ⟨rfl, hb2⟩
    have B2 := hidP (B1.out.trans (hb2.mono B1.out.size))
    clear hb2
    go_wp2_with fail
    go_ret
    exact ⟨rfl, B2.out⟩
  by_cases c2 : k ≥ r
  · clear HN CK
    go_wp2_with fail
    refine (CR.out _).mono ?_
    rintro e w2 ⟨rfl, hb2⟩
    have B2 := hidP (B1.out.trans (hb2.mono B1.out.size))
    clear hb2
    go_wp2_with fail
    go_ret
    exact ⟨rfl, B2.out⟩
  · have hk := HN.out k (by omega) (by omega)
    rw [hk] at CK
    clear hk HN
    go_wp2_with fail
    refine (CR.out _).mono ?_
    rintro e w2 ⟨rfl, hb2⟩
    have B2 := hidP (B1.out.trans (hb2.mono B1.out.size))
    clear hb2
    go_wp2_with fail
    refine (CK.out _).mono ?_
    rintro e w3 ⟨rfl, hb3⟩
    have B3 := hidP (B2.out.trans (hb3.mono B2.out.size))
    clear hb3
    go_wp2_with fail
    go_ret
    exact ⟨rfl, B3.out⟩

/-! ### The row's step -/
set_option maxRecDepth 100000 in
theorem contract (H : Type) (enc : TypeId × Value → H) (W : World) (base : Nat) (args : Array Value) (ds gs : List (DataW H)) (before : List MemPlace)
    (hval0 : ∀ (j : Nat) t v, Try.f8.params[j]? = some t → args[j]? = some v → Value.okWide Try.prog W .any base t v)
    (hW : DataW.Whole enc Try.prog Try.f8.params.toList Rows.primeGapsSpec.vars false W args.toList ds gs before) :
    Calls Try.prog 8 args W fun e W' => ∃ v, e = .returned v ∧ Rows.primeGapsSpec.post enc Try.prog Try.f8 false true false false W args v W' := by
  have hW' := hW
  obtain ⟨p, q, hA0, hV, rfl, hfz, hnd⟩ := hW
  have hA : DataW.TrodAll enc Try.prog W 0 (fun _ => true) true Try.f8.params.toList args.toList ds p := hA0
  have hval : ∀ (j : Nat) t v, Try.f8.params[j]? = some t → args[j]? = some v → Value.okWide Try.prog W .any base t v := hval0
  rw [Try.params8] at hA hval
  obtain ⟨v0, vs0, d0, ds0, p0, q0, hargs, rfl, rfl, h0, r0⟩ := trodAll_cons hA
  obtain ⟨v1, vs1, d1, ds1, p1, q1, rfl, rfl, rfl, h1, r1⟩ := trodAll_cons r0
  obtain ⟨rfl, rfl, rfl⟩ := trodAll_nil r1
  obtain rfl : args = #[v0, v1] := by cases args; simp_all
  obtain ⟨rfl, rfl⟩ := trodVars_none hV
  have k0 := h0
  obtain ⟨n0, rfl, rfl, rfl, wn0⟩ := open_int Try.underlying3 (hval 0 3 v0 rfl rfl) h0
  have k1 := h1
  obtain ⟨n1, rfl, rfl, rfl, wn1⟩ := open_int Try.underlying3 (hval 1 3 v1 rfl rfl) h1
  refine (walk wn0 wn1 W).mono fun e W' ⟨he, hb⟩ => ?_
  subst he
  exact ⟨_, rfl, _, _, _, _, _, _, hW', trodAll_cons_mk (shut_bool Try.underlying4 _) trodAll_mk0, trodAll_cons_mk (Below.trod laidOut (by kernel_rfl) (of_decide_eq_true (by kernel_rfl)) k0 hb (fun x hx => by first | cases hx; done | (have := hW'.lt x (by simp [hx]); simpa using this))) (trodAll_cons_mk (Below.trod laidOut (by kernel_rfl) (of_decide_eq_true (by kernel_rfl)) k1 hb (fun x hx => by first | cases hx; done | (have := hW'.lt x (by simp [hx]); simpa using this))) (trodAll_mk0)), rfl, hb.frame _, fun h => by cases h⟩

set_option maxRecDepth 100000 in
theorem lifted (os : Os) (started : os.Started) (H : Type) (enc : TypeId × Value → H) :
    ReturnsInHanded {} Try.checked os 8 .any (Rows.primeGapsSpec.pre6 enc Try.prog Try.f8 Rows.primeGapsRow.domain false) (Rows.primeGapsSpec.post enc Try.prog Try.f8 false true false false) := by
  refine returnsInHanded_of_change (C := Try.checked) own started (by kernel_rfl) Try.func8
    (ChangeSpec.witness6 (enc := enc) (C := Try.checked) false ⟨#[], #[.int .i64 0, .int .i64 0], []⟩ 8 (by kernel_rfl) (by kernel_rfl) (by kernel_rfl) (by kernel_rfl)) ?_
  intro W base args ds gs before hval0 hW _ _
  exact contract H enc W base args ds gs before hval0 hW

theorem holds : Rows.PrimeGapsSaid :=
  OpenClaim.holds_of_wide 8 Try.f8 rfl rfl rfl rfl rfl rfl rfl ⟨rfl, rfl, rfl, rfl, rfl⟩ rfl rfl rfl rfl rfl (by kernel_rfl) Try.func8 (by kernel_rfl)
    (of_decide_eq_true (by kernel_rfl)) (by unfold Func.isWrapper; first | (rw [if_pos (by decide +kernel)]; kernel_rfl) | (rw [if_neg (by decide +kernel)]; exact ⟨rfl, rfl⟩))
    (fun os started H enc _ => lifted os started H enc)
end Go.Proofs.Ytbbopmniepkoiaa.primeGaps
