/- prime.residue, the document's Rest, prime.product, prime.power, prime.inverse by their contracts. -/
import Derived.Test.YtbmneibliekfdaaPr1
import Derived.Test.YtbmneibliekfdaaPrA
set_option linter.unusedVariables false
set_option linter.unusedSimpArgs false
namespace Go.Proofs.Ytbmneibliekfdaa
open Go.RowKit

theorem ref_rest (a p : Int) (hp : 0 < p) (hp2 : p < 2147483648) (w : World) :
    Calls Try.prog 45 #[.int .i64 a, .int .i64 p] w fun e w' => e = .returned (.int .i64 (a % p)) ∧ Below w.heap.size w w' := by
  obtain ⟨t, r, ht, hr, t1, t2, r1, r2, h⟩ := rest_letters a p hp hp2
  have wt : IntKind.i64.wrap t = t := by rw [IntKind.wrap_i64]; omega
  have hp0 : ¬ p = 0 := by omega
  have HR := hidP hr
  rw [hr]
  clear hr
  rcases h with ⟨h0, hs⟩ | ⟨h0, hs⟩
  · have ws : IntKind.i64.wrap (t + p) = r := by rw [IntKind.wrap_i64]; omega
    clear hs
    go_enter Try.func45, Try.ntmps45
    go_wp2
    go_ret
    exact ⟨by first | rfl | (simp [ws]), by first | exact Below.refl _ _ | exact (Below.refl _ _).drew⟩
  · subst hs
    have h1 : ¬ t < 0 := h0
    go_enter Try.func45, Try.ntmps45
    go_wp2
    go_ret
    exact ⟨rfl, by first | exact Below.refl _ _ | exact (Below.refl _ _).drew⟩

theorem prod_fits {a b : Nat} (ha : a < 2147483648) (hb : b < 2147483648) : a * b < 4611686018427387904 := by
  have := Nat.mul_le_mul (show a ≤ 2147483647 by omega) (show b ≤ 2147483647 by omega)
  omega

end Go.Proofs.Ytbmneibliekfdaa
