/- prime.residue, the document's Rest, prime.product, prime.power, prime.inverse by their contracts. -/
import Derived.Test.YtbbopmniepkoiaaPr1
import Derived.Test.YtbbopmniepkoiaaPrA
set_option linter.unusedVariables false
set_option linter.unusedSimpArgs false
namespace Go.Proofs.Ytbbopmniepkoiaa
open Go.RowKit

theorem prime_residue (a p : Int) (hp : 0 < p) (hp2 : p < 2147483648) (w : World) :
    Calls Try.prog 26 #[.int .i64 a, .int .i64 p] w fun e w' => e = .returned (.int .i64 (a % p)) ∧ Below w.heap.size w w' := by
  obtain ⟨t, r, ht, hr, t1, t2, r1, r2, h⟩ := rest_letters a p hp hp2
  have wt : IntKind.i64.wrap t = t := by rw [IntKind.wrap_i64]; omega
  have hp0 : ¬ p = 0 := by omega
  have HR := hidP hr
  rw [hr]
  clear hr
  rcases h with ⟨h0, hs⟩ | ⟨h0, hs⟩
  · have ws : IntKind.i64.wrap (t + p) = r := by rw [IntKind.wrap_i64]; omega
    clear hs
    go_enter Try.func26, Try.ntmps26
    go_wp2
    go_ret
    exact ⟨by first | rfl | (simp [ws]), by first | exact Below.refl _ _ | exact (Below.refl _ _).drew⟩
  · subst hs
    have h1 : ¬ t < 0 := h0
    go_enter Try.func26, Try.ntmps26
    go_wp2
    go_ret
    exact ⟨rfl, by first | exact Below.refl _ _ | exact (Below.refl _ _).drew⟩

theorem ref_rest (a p : Int) (hp : 0 < p) (hp2 : p < 2147483648) (w : World) :
    Calls Try.prog 27 #[.int .i64 a, .int .i64 p] w fun e w' => e = .returned (.int .i64 (a % p)) ∧ Below w.heap.size w w' := by
  obtain ⟨t, r, ht, hr, t1, t2, r1, r2, h⟩ := rest_letters a p hp hp2
  have wt : IntKind.i64.wrap t = t := by rw [IntKind.wrap_i64]; omega
  have hp0 : ¬ p = 0 := by omega
  have HR := hidP hr
  rw [hr]
  clear hr
  rcases h with ⟨h0, hs⟩ | ⟨h0, hs⟩
  · have ws : IntKind.i64.wrap (t + p) = r := by rw [IntKind.wrap_i64]; omega
    clear hs
    go_enter Try.func27, Try.ntmps27
    go_wp2
    go_ret
    exact ⟨by first | rfl | (simp [ws]), by first | exact Below.refl _ _ | exact (Below.refl _ _).drew⟩
  · subst hs
    have h1 : ¬ t < 0 := h0
    go_enter Try.func27, Try.ntmps27
    go_wp2
    go_ret
    exact ⟨rfl, by first | exact Below.refl _ _ | exact (Below.refl _ _).drew⟩

theorem prod_fits {a b : Nat} (ha : a < 2147483648) (hb : b < 2147483648) : a * b < 4611686018427387904 := by
  have := Nat.mul_le_mul (show a ≤ 2147483647 by omega) (show b ≤ 2147483647 by omega)
  omega

theorem prime_product (a b p : Nat) (ha : a < 2147483648) (hb : b < 2147483648) (hp : 0 < p) (hp2 : p < 2147483648) (w : World) :
    Calls Try.prog 28 #[.int .i64 a, .int .i64 b, .int .i64 p] w fun e w' => e = .returned (.int .i64 (a * b % p : Nat)) ∧ Below w.heap.size w w' := by
  obtain ⟨Q, hQ⟩ : ∃ Q, Q = a * b := ⟨_, rfl⟩
  have hQb : Q < 4611686018427387904 := by rw [hQ]; exact prod_fits ha hb
  have eQ' : (a : Int) * (b : Int) = (Q : Int) := by rw [hQ]; exact (Int.natCast_mul a b).symm
  have eQ : IntKind.i64.wrap (Q : Int) = (Q : Int) := by rw [IntKind.wrap_i64]; omega
  rw [← hQ]
  clear hQ ha hb
  obtain ⟨r, hr⟩ : ∃ r, r = Q % p := ⟨_, rfl⟩
  have d1 : (Q : Int) % (p : Int) = (r : Int) := by rw [hr]; exact (Int.natCast_emod _ _).symm
  have d2 : Int.tmod (Q : Int) (p : Int) = (r : Int) := by rw [Int.tmod_eq_emod_of_nonneg (by omega)]; exact d1
  have l1 : r < p := by rw [hr]; exact Nat.mod_lt _ hp
  have w1 : IntKind.i64.wrap (r : Int) = (r : Int) := by rw [IntKind.wrap_i64]; omega
  have hp0 : ¬ (p : Int) = 0 := by omega
  rw [← hr]
  clear hr hQb
  go_enter Try.func28, Try.ntmps28
  go_wp2
  go_ret
  exact ⟨rfl, by first | exact Below.refl _ _ | exact (Below.refl _ _).drew⟩

set_option maxRecDepth 100000 in
set_option maxHeartbeats 1000000 in
theorem prime_power (a n p : Nat) (ha : a < 2147483648) (hn : n < 9223372036854775808) (hp : 2 ≤ p) (hp2 : p < 2147483648) (w : World) :
    Calls Try.prog 29 #[.int .i64 a, .int .i64 n, .int .i64 p] w fun e w' => e = .returned (.int .i64 (a ^ n % p : Nat)) ∧ Below w.heap.size w w' := by
  obtain ⟨E, hE⟩ : ∃ E, a ^ n % p = E := ⟨_, rfl⟩
  have HE : Hid (1 * a ^ n % p = E) := by show _ = _; rw [Nat.one_mul]; exact hE
  rw [hE]
  clear hE
  have HP : Hid (∀ (x y : Nat) w, x < 2147483648 → y < 2147483648 → Calls Try.prog 28 #[.int .i64 x, .int .i64 y, .int .i64 p] w fun e w' => e = .returned (.int .i64 (x * y % p : Nat)) ∧ Below w.heap.size w w') :=
    fun x y w hx hy => prime_product x y p hx hy (by omega) hp2 w
  go_enter Try.func29, Try.ntmps29
  go_wp2
  go_loopg [0, 1, 7] n (fun g v0 v1 v7 wr => ∃ x m r : Nat, v0 = .int .i64 x ∧ v1 = .int .i64 m ∧ v7 = .int .i64 r ∧ x < 2147483648 ∧ r < p ∧ m < 9223372036854775808 ∧ Hid (m = g) ∧ Hid (r * x ^ m % p = E) ∧ Hid (Below w.heap.size w wr))
  case atStart => exact ⟨a, n, 1, rfl, rfl, rfl, ha, by omega, hn, rfl, HE, Below.refl _ _⟩
  case round =>
    obtain ⟨x, m, r, rfl, rfl, rfl, hx, hr, hm, hG, hI, hB⟩ := hrel
    rcases Nat.eq_zero_or_pos m with h0 | h0
    · subst h0
      have hfin : r = E := by have := hI.out; rw [Nat.pow_zero, Nat.mul_one, Nat.mod_eq_of_lt hr] at this; exact this
      have HF := hidP hfin
      clear hfin hI
      go_wp2
      go_ret
      exact ⟨by rw [HF.out]; rfl, hB.out⟩
    · have hpos : (m : Int) > 0 := by omega
      have q1 : Int.tdiv (m : Int) 2 = ((m / 2 : Nat) : Int) := by rw [Int.tdiv_eq_ediv_of_nonneg (by omega)]; omega
      obtain ⟨h, hh⟩ : ∃ h, h = m / 2 := ⟨_, rfl⟩
      have q2 : (m : Int) / 2 = (h : Int) := by omega
      have q3 : Int.tdiv (m : Int) 2 = (h : Int) := by rw [q1, hh]
      have hhm : h < m := by omega
      have q4 : IntKind.i64.wrap (h : Int) = (h : Int) := by rw [IntKind.wrap_i64]; omega
      have C2 := hidP fun w => HP.out x x w hx hx
      obtain ⟨s, hs⟩ : ∃ s, s = x * x % p := ⟨_, rfl⟩
      have hs2 : s < p := by rw [hs]; exact Nat.mod_lt _ (by omega)
      rw [← hs] at C2
      have HG := hidP hs; have HH := hidP hh
      clear hs hh q1
      rcases Nat.mod_two_eq_zero_or_one m with h2 | h2
      · have o1 : Int.tmod (m : Int) 2 = 0 := by rw [Int.tmod_eq_emod_of_nonneg (by omega)]; omega
        have o2 : (m : Int) % 2 = 0 := by omega
        have H2 := hidP h2
        clear h2
        go_wp2_with fail
        refine (C2.out _).mono ?_
        rintro e w1 ⟨rfl, hb1⟩
        have HB1 := hidP (hB.out.trans (hb1.mono hB.out.size))
        clear hb1
        go_wp2
        go_roundg h
        case rel => exact ⟨s, h, r, rfl, rfl, rfl, by omega, hr, by omega, rfl, by show _ = _; rw [HG.out, HH.out, pw_even _ _ _ _ H2.out]; exact hI.out, HB1⟩
        case measure => have := hG.out; omega
      · have o1 : Int.tmod (m : Int) 2 = 1 := by rw [Int.tmod_eq_emod_of_nonneg (by omega)]; omega
        have o2 : (m : Int) % 2 = 1 := by omega
        have H2 := hidP h2
        have C1 := hidP fun w => HP.out r x w (by omega) hx
        obtain ⟨u, hu⟩ : ∃ u, u = r * x % p := ⟨_, rfl⟩
        have hu2 : u < p := by rw [hu]; exact Nat.mod_lt _ (by omega)
        rw [← hu] at C1
        have HU := hidP hu
        clear hu h2
        go_wp2_with fail
        refine (C1.out _).mono ?_
        rintro e w1 ⟨rfl, hb1⟩
        have HB1 := hidP (hB.out.trans (hb1.mono hB.out.size))
        clear hb1
        go_wp2_with fail
        refine (C2.out _).mono ?_
        rintro e w2 ⟨rfl, hb2⟩
        have HB2 := hidP (HB1.out.trans (hb2.mono HB1.out.size))
        clear hb2
        go_wp2
        go_roundg h
        case rel => exact ⟨s, h, u, rfl, rfl, rfl, by omega, hu2, by omega, rfl, by show _ = _; rw [HG.out, HH.out, HU.out, pw_odd _ _ _ _ H2.out]; exact hI.out, HB2⟩
        case measure => have := hG.out; omega

theorem prime_inverse (a p : Nat) (ha : a < 2147483648) (hp : 2 ≤ p) (hp2 : p < 2147483648) (w : World) :
    Calls Try.prog 30 #[.int .i64 a, .int .i64 p] w fun e w' => e = .returned (.int .i64 (if a = 0 then 0 else a ^ (p - 2) % p : Nat)) ∧ Below w.heap.size w w' := by
  obtain ⟨q, rfl⟩ : ∃ q, p = q + 2 := ⟨p - 2, by omega⟩
  have hw : IntKind.i64.wrap (((q + 2 : Nat) : Int) - 2) = (q : Int) := by rw [IntKind.wrap_i64]; omega
  have HC := hidP (prime_power a q (q + 2) ha (by omega) hp hp2 w)
  rw [Nat.add_sub_cancel]
  obtain ⟨E, hE⟩ : ∃ E, a ^ q % (q + 2) = E := ⟨_, rfl⟩
  rw [hE] at HC ⊢
  obtain ⟨P, hP⟩ : ∃ P, q + 2 = P := ⟨_, rfl⟩
  rw [hP] at HC hw ⊢
  clear hE hP hp hp2
  rcases Nat.eq_zero_or_pos a with h | h
  · subst h
    rw [if_pos rfl]
    go_enter Try.func30, Try.ntmps30
    go_wp2
    go_ret
    exact ⟨rfl, Below.refl _ _⟩
  · rw [if_neg (by omega)]
    have h0 : ¬ (a : Int) = 0 := by omega
    go_enter Try.func30, Try.ntmps30
    go_wp2_with fail
    refine HC.out.mono ?_
    rintro e w1 ⟨rfl, hb1⟩
    have HB := hidP hb1
    clear hb1
    go_wp2_with fail
    go_ret
    exact ⟨rfl, HB.out⟩
end Go.Proofs.Ytbbopmniepkoiaa
