/- What every right program of layer 5 answers (awake); a prime for any number (pick). -/
import Derived.Test.YtbbopmniepkoiaaPr4
import Derived.ProofKit
import Derived.OpenShut
import Derived.SizedLaws
import Derived.Lay
import Derived.LaidOnce
import Derived.Laws.Bits128
set_option linter.unusedVariables false
set_option linter.unusedSimpArgs false
namespace Go.Proofs.Ytbbopmniepkoiaa
open Go.ChangeShapes Go.WideShapes Go.ChangeAt Go.RowKit

theorem i64_and1 (n : Int) : bits .and .i64 n 1 = n % 2 := by
  have h1 : (BitVec.ofInt 64 1).toNat = 2 ^ 1 - 1 := by decide
  have key : (BitVec.ofInt 64 n &&& BitVec.ofInt 64 1).toNat = (n % ((2 ^ 64 : Nat) : Int)).toNat % 2 ^ 1 := by
    rw [BitVec.toNat_and, BitVec.toNat_ofInt, h1, Nat.and_two_pow_sub_one_eq_mod]
  show IntKind.i64.wrap ((BitVec.ofInt 64 n &&& BitVec.ofInt 64 1).toNat : Nat) = n % 2
  rw [key, IntKind.wrap_i64]
  omega
theorem isP_7 : isP 7 = true := by decide +kernel
theorem isP_9 : isP 9 = false := by decide +kernel
theorem isP_5 : isP 5 = true := by decide +kernel
theorem isP_3 : isP 3 = true := by decide +kernel
theorem isP_2 : isP 2 = true := by decide +kernel
theorem after_7 : IsAfter 7 11 := .inr ⟨by decide, by decide +kernel, fun q h1 h2 => by
  have : q = 8 ∨ q = 9 ∨ q = 10 := by omega
  rcases this with rfl | rfl | rfl <;> decide +kernel⟩
theorem isP_million : isP 1000003 = true := by
  rw [show (1000003 : Int) = ((1000003 : Nat) : Int) from rfl, isP_nat, decide_eq_true_eq]
  exact isP_of_small (k := 1001) (by decide) (by decide) (by decide) (by decide +kernel)
theorem inv_3 : invP 3 7 = 5 := by decide +kernel
theorem half_4 : halfP 4 5 = -1 := by decide +kernel
theorem pow_2 : powP 2 10 1000003 = 1024 := by
  unfold powP; rw [if_pos ⟨by decide, isP_million⟩]; decide +kernel

set_option maxRecDepth 100000 in
theorem awake5 (w : World) : Calls Try.prog 11 #[] w fun e w' => e = .returned (.bool true) ∧ Below w.heap.size w w' := by
  have A1 := hidP (fun w => prime_is 7 (by decide) (by decide) w)
  have A2 := hidP (fun w => prime_is 9 (by decide) (by decide) w)
  have A3 := hidP (fun w => prime_after 7 (by decide) (by decide) w)
  have A4 := hidP (fun w => prime_inv 3 7 (by decide) (by decide) w)
  have A5 := hidP (fun w => prime_half 4 5 (by decide) (by decide) w)
  have A6 := hidP (fun w => prime_pow 2 10 1000003 (by decide) (by decide) (by decide) w)
  rw [isP_7] at A1
  rw [isP_9] at A2
  rw [inv_3] at A4
  rw [half_4] at A5
  rw [pow_2] at A6
  go_enter Try.func11, Try.ntmps11
  go_wp2_with fail
  refine (A1.out _).mono ?_
  rintro e w0 ⟨rfl, hb0⟩
  have B0 := hidP hb0
  clear hb0
  go_wp2_with fail
  refine (A2.out _).mono ?_
  rintro e w1 ⟨rfl, hb1⟩
  have B1 := hidP (B0.out.trans (hb1.mono B0.out.size))
  clear hb1
  go_wp2_with fail
  refine (A3.out _).mono ?_
  rintro e w2 ⟨r, rfl, hr, hb2⟩
  have B2 := hidP (B1.out.trans (hb2.mono B1.out.size))
  clear hb2
  obtain rfl := hr.unique after_7
  clear hr
  go_wp2_with fail
  refine (A4.out _).mono ?_
  rintro e w3 ⟨rfl, hb3⟩
  have B3 := hidP (B2.out.trans (hb3.mono B2.out.size))
  clear hb3
  go_wp2_with fail
  refine (A5.out _).mono ?_
  rintro e w4 ⟨rfl, hb4⟩
  have B4 := hidP (B3.out.trans (hb4.mono B3.out.size))
  clear hb4
  go_wp2_with fail
  refine (A6.out _).mono ?_
  rintro e w5 ⟨rfl, hb5⟩
  have B5 := hidP (B4.out.trans (hb5.mono B4.out.size))
  clear hb5
  go_wp2_with fail
  go_ret
  exact ⟨rfl, B5.out⟩

/-- What is picked is a prime. -/
theorem law_pick (p : Int) (h1 : -9223372036854775808 ≤ p) (h2 : p < 9223372036854775808) (w : World) :
    Calls Try.prog 24 #[.int .i64 p] w fun e w' => ∃ q : Nat, e = .returned (.int .i64 q) ∧ IsP q ∧ Below w.heap.size w w' := by
  have HI := hidP (prime_is p h1 h2)
  cases hp : isP p with
  | true =>
    rw [hp] at HI
    obtain ⟨q, rfl, hq⟩ := isP_true hp
    have HQ := hidP hq
    clear hp hq h1 h2
    go_enter Try.func24, Try.ntmps24
    go_wp2_with fail
    refine (HI.out _).mono ?_
    rintro e w0 ⟨rfl, hb0⟩
    have B0 := hidP hb0
    clear hb0
    go_wp2_with fail
    go_ret
    exact ⟨q, rfl, HQ.out, B0.out⟩
  | false =>
    rw [hp] at HI
    clear hp
    go_enter Try.func24, Try.ntmps24
    go_wp2_with fail
    refine (HI.out _).mono ?_
    rintro e w0 ⟨rfl, hb0⟩
    have B0 := hidP hb0
    clear hb0
    obtain ⟨r, s, e1, e2, hr, hs⟩ : ∃ r s : Nat, bits .and .i64 p 1 = r ∧ bits .and .i64 (p / 2) 1 = s ∧ r ≤ 1 ∧ s ≤ 1 := by
      rw [i64_and1, i64_and1]
      exact ⟨(p % 2).toNat, (p / 2 % 2).toNat, by omega, by omega, by omega, by omega⟩
    have hr' : r = 0 ∨ r = 1 := by omega
    have hs' : s = 0 ∨ s = 1 := by omega
    clear h1 h2 hr hs
    rcases hr' with rfl | rfl
    · go_wp2_with fail
      go_ret
      exact ⟨2, by simp [RowKit.wrap64, e1, e2], by decide, B0.out⟩
    · rcases hs' with rfl | rfl
      · go_wp2_with fail
        go_ret
        exact ⟨3, by simp [RowKit.wrap64, e1, e2], by decide, B0.out⟩
      · go_wp2_with fail
        go_ret
        exact ⟨5, by simp [RowKit.wrap64, e1, e2], by decide, B0.out⟩

theorem int_bounds5 {n : Int} (wn : (Lit.int .i64 n).wf = true) : -9223372036854775808 ≤ n ∧ n < 9223372036854775808 := by
  simp [Lit.wf, IntKind.min, IntKind.max, IntKind.signed, IntKind.bits] at wn; omega
end Go.Proofs.Ytbbopmniepkoiaa
