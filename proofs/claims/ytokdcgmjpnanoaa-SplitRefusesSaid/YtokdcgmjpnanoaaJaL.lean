/- modular.Eval by its contract, by a prime; all of modular's calls by what is no prime. -/
import Derived.Test.YtokdcgmjpnanoaaJaK

set_option linter.unusedVariables false
set_option linter.unusedSimpArgs false
namespace Go.Proofs.Ytokdcgmjpnanoaa
open Go.RowKit

theorem horner {q : Nat} (f : List Int) (x y : Int) (n : Nat) (hn : n < f.length) (hy : y = ev (f.drop (n + 1)) x % (q : Int)) : (y * (x % (q : Int)) + f.getD n 0 % (q : Int)) % (q : Int) = ev (f.drop n) x % (q : Int) := by
  have e : f.drop n = f.getD n 0 :: f.drop (n + 1) := by
    rw [List.drop_eq_getElem_cons hn, List.getD_eq_getElem?_getD, List.getElem?_eq_getElem hn]; rfl
  rw [e, ev_cons, hy, Int.add_emod, ← Int.mul_emod, Int.emod_emod_of_dvd _ (Int.dvd_refl _), ← Int.add_emod, Int.add_comm, Int.mul_comm]

theorem not_prime {p : Int} (h1 : -9223372036854775808 ≤ p) (h2 : p < 9223372036854775808) (hp : isP p = false) (w : World) : Calls Try.prog 30 #[.int .i64 p] w fun e w' => e = .returned (.bool false) ∧ Below w.heap.size w w' := by
  have := prime_is p h1 h2 w
  rwa [hp] at this

theorem none_Add {vf vg : Value} {p : Int} {w : World} (h1 : -9223372036854775808 ≤ p) (h2 : p < 9223372036854775808) (hp : isP p = false) :
    Calls Try.prog 68 #[vf, vg, .int .i64 p] w fun e w' => e = .returned (.slice none 0 0) ∧ Below w.heap.size w w' := by
  have IS := hidP (not_prime h1 h2 hp)
  clear h1 h2 hp
  go_enter Try.func68, Try.ntmps68
  go_wp2_with (go_at_call 66; go_in)
  refine (IS.out _).mono ?_
  rintro e w1 ⟨rfl, hb1⟩
  have B1 := hidP hb1
  clear hb1
  go_wp2_with fail
  go_ret
  exact ⟨rfl, B1.out⟩

theorem none_Sub {vf vg : Value} {p : Int} {w : World} (h1 : -9223372036854775808 ≤ p) (h2 : p < 9223372036854775808) (hp : isP p = false) :
    Calls Try.prog 35 #[vf, vg, .int .i64 p] w fun e w' => e = .returned (.slice none 0 0) ∧ Below w.heap.size w w' := by
  have IS := hidP (not_prime h1 h2 hp)
  clear h1 h2 hp
  go_enter Try.func35, Try.ntmps35
  go_wp2_with (go_at_call 66; go_in)
  refine (IS.out _).mono ?_
  rintro e w1 ⟨rfl, hb1⟩
  have B1 := hidP hb1
  clear hb1
  go_wp2_with fail
  go_ret
  exact ⟨rfl, B1.out⟩

theorem none_Mul {vf vg : Value} {p : Int} {w : World} (h1 : -9223372036854775808 ≤ p) (h2 : p < 9223372036854775808) (hp : isP p = false) :
    Calls Try.prog 59 #[vf, vg, .int .i64 p] w fun e w' => e = .returned (.slice none 0 0) ∧ Below w.heap.size w w' := by
  have IS := hidP (not_prime h1 h2 hp)
  clear h1 h2 hp
  go_enter Try.func59, Try.ntmps59
  go_wp2_with fail
  refine (IS.out _).mono ?_
  rintro e w1 ⟨rfl, hb1⟩
  have B1 := hidP hb1
  clear hb1
  go_wp2_with fail
  go_ret
  exact ⟨rfl, B1.out⟩

theorem none_DivMod {vf vg : Value} {p : Int} {w : World} (h1 : -9223372036854775808 ≤ p) (h2 : p < 9223372036854775808) (hp : isP p = false) :
    Calls Try.prog 39 #[vf, vg, .int .i64 p] w fun e w' => e = .returned (.tuple #[.slice none 0 0, .slice none 0 0, .int .i64 50]) ∧ Below w.heap.size w w' := by
  have IS := hidP (not_prime h1 h2 hp)
  clear h1 h2 hp
  go_enter Try.func39, Try.ntmps39
  go_wp2_with fail
  refine (IS.out _).mono ?_
  rintro e w1 ⟨rfl, hb1⟩
  have B1 := hidP hb1
  clear hb1
  go_wp2_with fail
  go_ret3
  exact ⟨rfl, B1.out⟩

theorem none_Monic {vf : Value} {p : Int} {w : World} (h1 : -9223372036854775808 ≤ p) (h2 : p < 9223372036854775808) (hp : isP p = false) :
    Calls Try.prog 31 #[vf, .int .i64 p] w fun e w' => e = .returned (.slice none 0 0) ∧ Below w.heap.size w w' := by
  have IS := hidP (not_prime h1 h2 hp)
  clear h1 h2 hp
  go_enter Try.func31, Try.ntmps31
  go_wp2_with fail
  refine (IS.out _).mono ?_
  rintro e w1 ⟨rfl, hb1⟩
  have B1 := hidP hb1
  clear hb1
  go_wp2_with fail
  go_ret
  exact ⟨rfl, B1.out⟩

theorem none_Gcd {vf vg : Value} {p : Int} {w : World} (h1 : -9223372036854775808 ≤ p) (h2 : p < 9223372036854775808) (hp : isP p = false) :
    Calls Try.prog 34 #[vf, vg, .int .i64 p] w fun e w' => e = .returned (.slice none 0 0) ∧ Below w.heap.size w w' := by
  have IS := hidP (not_prime h1 h2 hp)
  clear h1 h2 hp
  go_enter Try.func34, Try.ntmps34
  go_wp2_with fail
  refine (IS.out _).mono ?_
  rintro e w1 ⟨rfl, hb1⟩
  have B1 := hidP hb1
  clear hb1
  go_wp2_with fail
  go_ret
  exact ⟨rfl, B1.out⟩

theorem none_Deriv {vf : Value} {p : Int} {w : World} (h1 : -9223372036854775808 ≤ p) (h2 : p < 9223372036854775808) (hp : isP p = false) :
    Calls Try.prog 58 #[vf, .int .i64 p] w fun e w' => e = .returned (.slice none 0 0) ∧ Below w.heap.size w w' := by
  have IS := hidP (not_prime h1 h2 hp)
  clear h1 h2 hp
  go_enter Try.func58, Try.ntmps58
  go_wp2_with fail
  refine (IS.out _).mono ?_
  rintro e w1 ⟨rfl, hb1⟩
  have B1 := hidP hb1
  clear hb1
  go_wp2_with fail
  go_ret
  exact ⟨rfl, B1.out⟩

end Go.Proofs.Ytokdcgmjpnanoaa
