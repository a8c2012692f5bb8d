/- prime.first, prime.Is and prime.After by their contracts. -/
import Derived.WalkKit
import Derived.Deep.LoopGhost
import Derived.Deep.Draws
import Derived.Test.YtbbopmniepkoiaaRows
import Derived.Test.YtbbopmniepkoiaaPrN
set_option linter.unusedVariables false
set_option linter.unusedSimpArgs false
namespace Go.Proofs.Ytbbopmniepkoiaa
open Go.RowKit

theorem hidP {p : Prop} (h : p) : Hid p := h

/-- The least prime from a to b, or 0. -/
def FirstIs (a b r : Int) : Prop := (r = 0 ∧ ∀ q, a ≤ q → q ≤ b → isP q = false) ∨ (a ≤ r ∧ r ≤ b ∧ isP r = true ∧ ∀ q, a ≤ q → q < r → isP q = false)

theorem notP_step {a : Int} {n : Nat} (h : ∀ q : Int, a ≤ q → q < n → isP q = false) (hn : ¬ IsP n) : ∀ q : Int, a ≤ q → q < ((n + 1 : Nat) : Int) → isP q = false := by
  intro q h1 h2
  rcases Int.lt_or_le q n with h3 | h3
  · exact h q h1 h3
  · have : q = (n : Int) := by omega
    rw [this, isP_nat]; simpa using hn

set_option maxRecDepth 100000 in
set_option maxHeartbeats 4000000 in
theorem first_from {a b : Int} (w : World) (L : Nat) (hst : (a < 2 ∧ L = 2) ∨ (a = L ∧ ¬ (L : Int) < 2)) (hL2 : 2 ≤ L) (hLm : L < 9223372036854775808) (hb : b ≤ 2147483647) :
    Calls Try.prog 25 #[.int .i64 a, .int .i64 b] w fun e w' => ∃ r, e = .returned (.int .i64 r) ∧ FirstIs (L : Int) b r ∧ Below w.heap.size w w' := by
  rcases hst with ⟨h2, h3⟩ | ⟨h3, h2⟩
  all_goals
    have H3 := hidP h3
    try subst a
    try clear h3
    go_enter Try.func25, Try.ntmps25
    go_wp2
    go_step3
    go_wp2
    go_step3
    go_wp2
    go_loopg [5] (b + 1 - L).toNat (fun g v wr => ∃ n : Nat, v = .int .i64 n ∧ n < 9223372036854775808 ∧ 2 ≤ n ∧ Hid ((b + 1 - n).toNat = g) ∧ Hid (∀ q : Int, (L : Int) ≤ q → q < n → isP q = false) ∧ Hid ((L : Int) ≤ n) ∧ Hid (Below w.heap.size w wr))
    case atStart => exact ⟨L, by first | rfl | (rw [H3.out]; rfl), hLm, hL2, rfl, fun q h1 h2 => absurd h1 (by omega), Int.le_refl _, Below.refl _ _⟩
    case round =>
      obtain ⟨n, rfl, hn, hn2, hG, hN, hLn, hB⟩ := hrel
      by_cases hnb : (n : Int) ≤ b
      · have hn31 : n < 2147483648 := by omega
        have wn : IntKind.u32.wrap (n : Int) = (n : Int) := by rw [IntKind.wrap_u32]; omega
        have gdec : (b + 1 - ((n + 1 : Nat) : Int)).toNat < gk := by have := hG.out; omega
        have GD := hidP gdec
        clear gdec hG
        go_wp2
        go_loopg [7, 8, 9] n (fun g7 v7 v8 v9 wi => ∃ k D X S : Nat, v7 = .int .u32 D ∧ v8 = .int .u32 X ∧ v9 = .int .u32 S ∧ D ≤ 46346 ∧ 2 ≤ D ∧ X ≤ 46348 ∧ 2 ≤ X ∧ S ≤ 46351 ∧ 6 ≤ S ∧ Hid (D = wd k ∧ X = wx k ∧ S = 6 * k + 6) ∧ Hid (n - k = g7) ∧ Hid (Clear n k) ∧ Hid (Below w.heap.size w wi))
        case atStart => exact ⟨0, 2, 3, 6, rfl, rfl, rfl, by omega, by omega, by omega, by omega, by omega, by omega, ⟨rfl, rfl, rfl⟩, rfl, Clear.zero n, hB⟩
        case round =>
          obtain ⟨k, D, X, S, rfl, rfl, rfl, hD, hD2, hX, hX2, hS, hS6, hK, hI, hC, hBi⟩ := hrel
          obtain ⟨Q, hQ⟩ : ∃ Q, Q = D * D := ⟨_, rfl⟩
          have hQb : Q < 4294967296 := by have := Nat.mul_le_mul hD hD; omega
          have eQ : IntKind.u32.wrap ((D : Int) * (D : Int)) = (Q : Int) := by rw [IntKind.wrap_u32, ← Int.natCast_mul, ← hQ]; omega
          have HQ := hidP hQ
          clear hQ
          by_cases hle : Q ≤ n
          · obtain ⟨r1, hr1⟩ : ∃ r, r = n % D := ⟨_, rfl⟩
            obtain ⟨r2, hr2⟩ : ∃ r, r = n % X := ⟨_, rfl⟩
            have d1 : (n : Int) % (D : Int) = (r1 : Int) := by rw [hr1]; exact (Int.natCast_emod _ _).symm
            have d2 : Int.tmod (n : Int) (D : Int) = (r1 : Int) := by rw [Int.tmod_eq_emod_of_nonneg (by omega)]; exact d1
            have d3 : (n : Int) % (X : Int) = (r2 : Int) := by rw [hr2]; exact (Int.natCast_emod _ _).symm
            have d4 : Int.tmod (n : Int) (X : Int) = (r2 : Int) := by rw [Int.tmod_eq_emod_of_nonneg (by omega)]; exact d3
            have l1 : r1 < D := by rw [hr1]; exact Nat.mod_lt _ (by omega)
            have l2 : r2 < X := by rw [hr2]; exact Nat.mod_lt _ (by omega)
            have w1 : IntKind.u32.wrap (r1 : Int) = (r1 : Int) := by rw [IntKind.wrap_u32]; omega
            have w2 : IntKind.u32.wrap (r2 : Int) = (r2 : Int) := by rw [IntKind.wrap_u32]; omega
            have z1 : ¬ (D : Int) = 0 := by omega
            have z2 : ¬ (X : Int) = 0 := by omega
            have H1 := hidP hr1; have H2 := hidP hr2
            clear hr1 hr2
            by_cases h1 : r1 = 0
            · subst h1
              go_wp2
              go_roundg (b + 1 - ((n + 1 : Nat) : Int)).toNat
              case rel =>
                obtain ⟨k1, k2, k3⟩ := hK.out
                exact ⟨n + 1, by go_num, by omega, by omega, rfl, notP_step hN.out (hit_left (k := k) (by rw [← k1, ← HQ.out]; exact hle) (by rw [← k1]; exact H1.out.symm)), by have := hLn.out; show (L : Int) ≤ _; omega, hBi⟩
              case measure => exact GD.out
            · have h1' : ¬ (r1 : Int) = 0 := by omega
              by_cases h3 : r2 = 0
              · subst h3
                go_wp2
                go_roundg (b + 1 - ((n + 1 : Nat) : Int)).toNat
                case rel =>
                  obtain ⟨k1, k2, k3⟩ := hK.out
                  exact ⟨n + 1, by go_num, by omega, by omega, rfl, notP_step hN.out (hit_right (k := k) (by rw [← k1, ← HQ.out]; exact hle) (by rw [← k2]; exact H2.out.symm)), by have := hLn.out; show (L : Int) ≤ _; omega, hBi⟩
                case measure => exact GD.out
              · have h3' : ¬ (r2 : Int) = 0 := by omega
                have hs : D ≤ 46340 ∧ k < n ∧ S ≤ 46347 := by
                  obtain ⟨k1, k2, k3⟩ := hK.out
                  have a1 := wd_small (n := n) (k := k) hn31 (by rw [← k1, ← HQ.out]; exact hle)
                  have a2 := wd_le_two k
                  have a3 := Nat.mul_le_mul_right D hD2
                  have a4 := HQ.out
                  omega
                obtain ⟨hs1, hs2, hs3⟩ := hs
                have e1 : IntKind.u32.wrap ((S : Int) - 1) = ((S - 1 : Nat) : Int) := by rw [IntKind.wrap_u32]; omega
                have e2 : IntKind.u32.wrap ((S : Int) + 1) = ((S + 1 : Nat) : Int) := by rw [IntKind.wrap_u32]; omega
                have e3 : IntKind.u32.wrap ((S : Int) + 6) = ((S + 6 : Nat) : Int) := by rw [IntKind.wrap_u32]; omega
                have b1 : ((r1 : Int) == 0) = false := by simpa using h1
                have b2 : ((r2 : Int) == 0) = false := by simpa using h3
                go_wp2
                go_roundg (n - (k + 1))
                case rel =>
                  obtain ⟨k1, k2, k3⟩ := hK.out
                  exact ⟨k + 1, S - 1, S + 1, S + 6, by go_num, by go_num, by go_num, by omega, by omega, by omega, by omega, by omega, by omega, ⟨by rw [wd_succ]; omega, by rw [wx_succ]; omega, by omega⟩, rfl, hC.out.succ (by rw [← k1, ← H1.out]; exact h1) (by rw [← k2, ← H2.out]; exact h3), hBi⟩
                case measure => have := hI.out; omega
          · go_wp2
            rw [Exit.noGoto_ret]
            go_ret
            obtain ⟨k1, k2, k3⟩ := hK.out
            exact ⟨n, rfl, Or.inr ⟨hLn.out, hnb, by rw [isP_nat]; simpa using hC.out.isP hn2 hn31 (by rw [← k1, ← HQ.out]; omega), hN.out⟩, hBi.out⟩
      · go_wp2
        try rw [Exit.noGoto_ret]
        go_ret
        refine ⟨0, rfl, Or.inl ⟨rfl, fun q h1 h2 => hN.out q h1 (by omega)⟩, hB.out⟩

set_option maxRecDepth 100000 in
set_option maxHeartbeats 2000000 in
theorem prime_first (a b : Int) (ha : -9223372036854775808 ≤ a) (ha' : a < 9223372036854775808) (hb0 : -9223372036854775808 ≤ b) (hb : b ≤ 2147483647) (w : World) :
    Calls Try.prog 25 #[.int .i64 a, .int .i64 b] w fun e w' => ∃ r, e = .returned (.int .i64 r) ∧ FirstIs (max a 2) b r ∧ Below w.heap.size w w' := by
  obtain ⟨L, hL⟩ : ∃ L : Nat, (L : Int) = max a 2 := ⟨(max a 2).toNat, by omega⟩
  have hL2 : 2 ≤ L := by omega
  have hLm : L < 9223372036854775808 := by omega
  have em : max a 2 = (L : Int) := hL.symm
  rw [em]
  rcases (by omega : (a < 2 ∧ L = 2) ∨ (a = L ∧ ¬ (L : Int) < 2)) with ⟨h2, h3⟩ | ⟨h3, h2⟩
  · exact first_from w L (.inl ⟨h2, h3⟩) hL2 hLm hb
  · exact first_from w L (.inr ⟨h3, h2⟩) hL2 hLm hb
end Go.Proofs.Ytbbopmniepkoiaa
