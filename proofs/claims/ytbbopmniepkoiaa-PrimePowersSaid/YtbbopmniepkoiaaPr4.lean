/- prime.Add, prime.Mul, prime.Half, prime.Pow, prime.Inv by their contracts. -/
import Derived.Test.YtbbopmniepkoiaaPr2
import Derived.Test.YtbbopmniepkoiaaPr3
set_option linter.unusedVariables false
set_option linter.unusedSimpArgs false
namespace Go.Proofs.Ytbbopmniepkoiaa
open Go.RowKit

theorem prime_add (a b p : Int) (h1 : -9223372036854775808 ≤ p) (h2 : p < 9223372036854775808) (w : World) :
    Calls Try.prog 14 #[.int .i64 a, .int .i64 b, .int .i64 p] w fun e w' => e = .returned (.int .i64 (addP a b p)) ∧ Below w.heap.size w w' := by
  have HI : Hid (∀ w, Calls Try.prog 9 #[.int .i64 p] w fun e w' => e = .returned (.bool (isP p)) ∧ Below w.heap.size w w') := fun w => prime_is p h1 h2 w
  clear h1 h2
  cases hp : isP p with
  | false =>
    have HZ : Hid (addP a b p = 0) := by show _ = _; simp [addP, hp]
    rw [hp] at HI
    clear hp
    go_enter Try.func14, Try.ntmps14
    go_wp2_with fail
    refine (HI.out _).mono ?_
    rintro e w1 ⟨rfl, hb1⟩
    have HB := hidP hb1
    clear hb1
    go_wp2_with fail
    go_ret
    exact ⟨by rw [HZ.out]; rfl, HB.out⟩
  | true =>
    rw [hp] at HI
    obtain ⟨q, rfl, hq⟩ := isP_true hp
    have hq2 := hq.1
    have hq3 := hq.2.1
    have HQ := hidP hq
    clear hq
    obtain ⟨x, ex, lx⟩ : ∃ x : Nat, a % (q : Int) = x ∧ x < q := ⟨(a % (q : Int)).toNat, by have := Int.emod_nonneg a (show (q : Int) ≠ 0 by omega); omega, by have := Int.emod_nonneg a (show (q : Int) ≠ 0 by omega); have := Int.emod_lt_of_pos a (show 0 < (q : Int) by omega); omega⟩
    obtain ⟨y, ey, ly⟩ : ∃ y : Nat, b % (q : Int) = y ∧ y < q := ⟨(b % (q : Int)).toNat, by have := Int.emod_nonneg b (show (q : Int) ≠ 0 by omega); omega, by have := Int.emod_nonneg b (show (q : Int) ≠ 0 by omega); have := Int.emod_lt_of_pos b (show 0 < (q : Int) by omega); omega⟩
    have HR : Hid (∀ (z : Int) w, Calls Try.prog 26 #[.int .i64 z, .int .i64 q] w fun e w' => e = .returned (.int .i64 (z % (q : Int))) ∧ Below w.heap.size w w') := fun z w => prime_residue z q (by omega) (by omega) w
    have HZ : Hid (addP a b q = ((x + y) % q : Nat)) := by show _ = _; unfold addP; rw [if_pos hp, ex, ey]; norm_cast
    have C1 := hidP fun w => HR.out a w
    have C2 := hidP fun w => HR.out b w
    rw [ex] at C1; rw [ey] at C2
    have ws : IntKind.i64.wrap ((x : Int) + (y : Int)) = ((x + y : Nat) : Int) := by rw [IntKind.wrap_i64]; omega
    have C3 := hidP fun w => HR.out ((x + y : Nat) : Int) w
    have e3 : ((x + y : Nat) : Int) % (q : Int) = ((x + y) % q : Nat) := by norm_cast
    rw [e3] at C3
    obtain ⟨S, hS⟩ : ∃ S, x + y = S := ⟨_, rfl⟩
    have ws2 : (x : Int) + (y : Int) = (S : Int) := by omega
    have ws3 : IntKind.i64.wrap (S : Int) = (S : Int) := by rw [IntKind.wrap_i64]; omega
    rw [hS] at C3 HZ
    clear ws e3 hS
    clear ex ey hp HR
    go_enter Try.func14, Try.ntmps14
    go_wp2_with fail
    refine (HI.out _).mono ?_
    rintro e w0 ⟨rfl, hb0⟩
    have B0 := hidP hb0
    clear hb0
    go_wp2_with fail
    refine (C1.out _).mono ?_
    rintro e w1 ⟨rfl, hb1⟩
    have B1 := hidP (B0.out.trans (hb1.mono B0.out.size))
    clear hb1
    go_wp2_with fail
    refine (C2.out _).mono ?_
    rintro e w2 ⟨rfl, hb2⟩
    have B2 := hidP (B1.out.trans (hb2.mono B1.out.size))
    clear hb2
    go_wp2_with fail
    refine (C3.out _).mono ?_
    rintro e w3 ⟨rfl, hb3⟩
    have B3 := hidP (B2.out.trans (hb3.mono B2.out.size))
    clear hb3
    go_wp2_with fail
    go_ret
    exact ⟨by rw [HZ.out]; rfl, B3.out⟩

theorem prime_mul (a b p : Int) (h1 : -9223372036854775808 ≤ p) (h2 : p < 9223372036854775808) (w : World) :
    Calls Try.prog 16 #[.int .i64 a, .int .i64 b, .int .i64 p] w fun e w' => e = .returned (.int .i64 (mulP a b p)) ∧ Below w.heap.size w w' := by
  have HI : Hid (∀ w, Calls Try.prog 9 #[.int .i64 p] w fun e w' => e = .returned (.bool (isP p)) ∧ Below w.heap.size w w') := fun w => prime_is p h1 h2 w
  clear h1 h2
  cases hp : isP p with
  | false =>
    have HZ : Hid (mulP a b p = 0) := by show _ = _; simp [mulP, hp]
    rw [hp] at HI
    clear hp
    go_enter Try.func16, Try.ntmps16
    go_wp2_with fail
    refine (HI.out _).mono ?_
    rintro e w1 ⟨rfl, hb1⟩
    have HB := hidP hb1
    clear hb1
    go_wp2_with fail
    go_ret
    exact ⟨by rw [HZ.out]; rfl, HB.out⟩
  | true =>
    rw [hp] at HI
    obtain ⟨q, rfl, hq⟩ := isP_true hp
    have hq2 := hq.1
    have hq3 := hq.2.1
    have HQ := hidP hq
    clear hq
    obtain ⟨x, ex, lx⟩ : ∃ x : Nat, a % (q : Int) = x ∧ x < q := ⟨(a % (q : Int)).toNat, by have := Int.emod_nonneg a (show (q : Int) ≠ 0 by omega); omega, by have := Int.emod_nonneg a (show (q : Int) ≠ 0 by omega); have := Int.emod_lt_of_pos a (show 0 < (q : Int) by omega); omega⟩
    obtain ⟨y, ey, ly⟩ : ∃ y : Nat, b % (q : Int) = y ∧ y < q := ⟨(b % (q : Int)).toNat, by have := Int.emod_nonneg b (show (q : Int) ≠ 0 by omega); omega, by have := Int.emod_nonneg b (show (q : Int) ≠ 0 by omega); have := Int.emod_lt_of_pos b (show 0 < (q : Int) by omega); omega⟩
    have HR : Hid (∀ (z : Int) w, Calls Try.prog 26 #[.int .i64 z, .int .i64 q] w fun e w' => e = .returned (.int .i64 (z % (q : Int))) ∧ Below w.heap.size w w') := fun z w => prime_residue z q (by omega) (by omega) w
    have HZ : Hid (mulP a b q = ((x * y) % q : Nat)) := by show _ = _; unfold mulP; rw [if_pos hp, ex, ey]; norm_cast
    have C1 := hidP fun w => HR.out a w
    have C2 := hidP fun w => HR.out b w
    rw [ex] at C1; rw [ey] at C2
    have C3 := hidP fun w => prime_product x y q (by omega) (by omega) (by omega) hq3 w
    clear ex ey hp HR
    go_enter Try.func16, Try.ntmps16
    go_wp2_with fail
    refine (HI.out _).mono ?_
    rintro e w0 ⟨rfl, hb0⟩
    have B0 := hidP hb0
    clear hb0
    go_wp2_with fail
    refine (C1.out _).mono ?_
    rintro e w1 ⟨rfl, hb1⟩
    have B1 := hidP (B0.out.trans (hb1.mono B0.out.size))
    clear hb1
    go_wp2_with fail
    refine (C2.out _).mono ?_
    rintro e w2 ⟨rfl, hb2⟩
    have B2 := hidP (B1.out.trans (hb2.mono B1.out.size))
    clear hb2
    go_wp2_with fail
    refine (C3.out _).mono ?_
    rintro e w3 ⟨rfl, hb3⟩
    have B3 := hidP (B2.out.trans (hb3.mono B2.out.size))
    clear hb3
    go_wp2_with fail
    go_ret
    exact ⟨by rw [HZ.out]; rfl, B3.out⟩

theorem prime_half (a p : Int) (h1 : -9223372036854775808 ≤ p) (h2 : p < 9223372036854775808) (w : World) :
    Calls Try.prog 18 #[.int .i64 a, .int .i64 p] w fun e w' => e = .returned (.int .i64 (halfP a p)) ∧ Below w.heap.size w w' := by
  have HI : Hid (∀ w, Calls Try.prog 9 #[.int .i64 p] w fun e w' => e = .returned (.bool (isP p)) ∧ Below w.heap.size w w') := fun w => prime_is p h1 h2 w
  clear h1 h2
  cases hp : isP p with
  | false =>
    have HZ : Hid (halfP a p = 0) := by show _ = _; simp [halfP, hp]
    rw [hp] at HI
    clear hp
    go_enter Try.func18, Try.ntmps18
    go_wp2_with fail
    refine (HI.out _).mono ?_
    rintro e w1 ⟨rfl, hb1⟩
    have HB := hidP hb1
    clear hb1
    go_wp2_with fail
    go_ret
    exact ⟨by rw [HZ.out]; rfl, HB.out⟩
  | true =>
    rw [hp] at HI
    obtain ⟨q, rfl, hq⟩ := isP_true hp
    have hq2 := hq.1
    have hq3 := hq.2.1
    have HQ := hidP hq
    clear hq
    obtain ⟨x, ex, lx⟩ : ∃ x : Nat, a % (q : Int) = x ∧ x < q := ⟨(a % (q : Int)).toNat, by have := Int.emod_nonneg a (show (q : Int) ≠ 0 by omega); omega, by have := Int.emod_nonneg a (show (q : Int) ≠ 0 by omega); have := Int.emod_lt_of_pos a (show 0 < (q : Int) by omega); omega⟩
    have HR : Hid (∀ (z : Int) w, Calls Try.prog 26 #[.int .i64 z, .int .i64 q] w fun e w' => e = .returned (.int .i64 (z % (q : Int))) ∧ Below w.heap.size w w') := fun z w => prime_residue z q (by omega) (by omega) w
    have C1 := hidP fun w => HR.out a w
    rw [ex] at C1
    obtain ⟨h, hh⟩ : ∃ h, h = q / 2 := ⟨_, rfl⟩
    have q1 : (q : Int) / 2 = (h : Int) := by omega
    have q3 : Int.tdiv (q : Int) 2 = (h : Int) := by rw [Int.tdiv_eq_ediv_of_nonneg (by omega)]; exact q1
    have q4 : IntKind.i64.wrap (h : Int) = (h : Int) := by rw [IntKind.wrap_i64]; omega
    have q5 : IntKind.i64.wrap ((x : Int) - (q : Int)) = (x : Int) - (q : Int) := by rw [IntKind.wrap_i64]; omega
    have HZ : Hid (halfP a q = if (x : Int) > (h : Int) then (x : Int) - q else x) := by show _ = _; unfold halfP; rw [if_pos hp, ex, q1]
    clear ex hp HR hh
    by_cases hc : (x : Int) > (h : Int)
    · rw [if_pos hc] at HZ
      go_enter Try.func18, Try.ntmps18
      go_wp2_with fail
      refine (HI.out _).mono ?_
      rintro e w0 ⟨rfl, hb0⟩
      have B0 := hidP hb0
      clear hb0
      go_wp2_with fail
      refine (C1.out _).mono ?_
      rintro e w1 ⟨rfl, hb1⟩
      have B1 := hidP (B0.out.trans (hb1.mono B0.out.size))
      clear hb1
      go_wp2
      go_ret
      exact ⟨by rw [HZ.out]; rfl, by first | exact B1.out | exact B1.out.drew⟩
    · rw [if_neg hc] at HZ
      go_enter Try.func18, Try.ntmps18
      go_wp2_with fail
      refine (HI.out _).mono ?_
      rintro e w0 ⟨rfl, hb0⟩
      have B0 := hidP hb0
      clear hb0
      go_wp2_with fail
      refine (C1.out _).mono ?_
      rintro e w1 ⟨rfl, hb1⟩
      have B1 := hidP (B0.out.trans (hb1.mono B0.out.size))
      clear hb1
      go_wp2
      go_ret
      exact ⟨by rw [HZ.out]; rfl, by first | exact B1.out | exact B1.out.drew⟩

theorem prime_pow (a n p : Int) (h1 : -9223372036854775808 ≤ p) (h2 : p < 9223372036854775808) (hn : n < 9223372036854775808) (w : World) :
    Calls Try.prog 20 #[.int .i64 a, .int .i64 n, .int .i64 p] w fun e w' => e = .returned (.int .i64 (powP a n p)) ∧ Below w.heap.size w w' := by
  have HI : Hid (∀ w, Calls Try.prog 9 #[.int .i64 p] w fun e w' => e = .returned (.bool (isP p)) ∧ Below w.heap.size w w') := fun w => prime_is p h1 h2 w
  clear h1 h2
  by_cases h0 : n < 0
  · have HZ : Hid (powP a n p = 0) := by show _ = _; unfold powP; rw [if_neg (fun h => by omega)]
    clear hn
    go_enter Try.func20, Try.ntmps20
    go_wp2
    go_ret
    exact ⟨by rw [HZ.out]; rfl, Below.refl _ _⟩
  obtain ⟨m, rfl⟩ : ∃ m : Nat, n = m := ⟨n.toNat, by omega⟩
  have hm : m < 9223372036854775808 := by omega
  have h0' : ¬ (m : Int) < 0 := by omega
  clear hn h0
  cases hp : isP p with
  | false =>
    have HZ : Hid (powP a m p = 0) := by show _ = _; simp [powP, hp]
    rw [hp] at HI
    clear hp
    go_enter Try.func20, Try.ntmps20
    go_wp2_with fail
    refine (HI.out _).mono ?_
    rintro e w1 ⟨rfl, hb1⟩
    have HB := hidP hb1
    clear hb1
    go_wp2_with fail
    go_ret
    exact ⟨by rw [HZ.out]; rfl, HB.out⟩
  | true =>
    rw [hp] at HI
    obtain ⟨q, rfl, hq⟩ := isP_true hp
    have hq2 := hq.1
    have hq3 := hq.2.1
    have HQ := hidP hq
    clear hq
    obtain ⟨x, ex, lx⟩ : ∃ x : Nat, a % (q : Int) = x ∧ x < q := ⟨(a % (q : Int)).toNat, by have := Int.emod_nonneg a (show (q : Int) ≠ 0 by omega); omega, by have := Int.emod_nonneg a (show (q : Int) ≠ 0 by omega); have := Int.emod_lt_of_pos a (show 0 < (q : Int) by omega); omega⟩
    have HR : Hid (∀ (z : Int) w, Calls Try.prog 26 #[.int .i64 z, .int .i64 q] w fun e w' => e = .returned (.int .i64 (z % (q : Int))) ∧ Below w.heap.size w w') := fun z w => prime_residue z q (by omega) (by omega) w
    have HZ : Hid (powP a m q = (x ^ m % q : Nat)) := by show _ = _; unfold powP; rw [if_pos ⟨by omega, hp⟩, ex]; rfl
    have C1 := hidP fun w => HR.out a w
    rw [ex] at C1
    have C2 := hidP fun w => prime_power x m q (by omega) hm hq2 hq3 w
    obtain ⟨E, hE⟩ : ∃ E, x ^ m % q = E := ⟨_, rfl⟩
    rw [hE] at HZ C2
    clear ex hp HR hE
    go_enter Try.func20, Try.ntmps20
    go_wp2_with fail
    refine (HI.out _).mono ?_
    rintro e w0 ⟨rfl, hb0⟩
    have B0 := hidP hb0
    clear hb0
    go_wp2_with fail
    refine (C1.out _).mono ?_
    rintro e w1 ⟨rfl, hb1⟩
    have B1 := hidP (B0.out.trans (hb1.mono B0.out.size))
    clear hb1
    go_wp2_with fail
    refine (C2.out _).mono ?_
    rintro e w2 ⟨rfl, hb2⟩
    have B2 := hidP (B1.out.trans (hb2.mono B1.out.size))
    clear hb2
    go_wp2_with fail
    go_ret
    exact ⟨by rw [HZ.out]; rfl, B2.out⟩

theorem invP_nat {a : Int} {x q : Nat} (hp : isP (q : Int) = true) (ex : a % (q : Int) = x) (h2 : 2 ≤ q) : invP a q = ((if x = 0 then 0 else x ^ (q - 2) % q : Nat) : Int) := by
  unfold invP
  by_cases h : x = 0
  · rw [if_pos h, if_neg]; rfl
    rintro ⟨-, h3⟩
    exact h3 (by rw [ex, h]; rfl)
  · rw [if_neg h, if_pos ⟨hp, by rw [ex]; omega⟩]
    unfold powP
    rw [if_pos ⟨by omega, hp⟩, ex]
    obtain ⟨k, rfl⟩ : ∃ k, q = k + 2 := ⟨q - 2, by omega⟩
    have : ((k + 2 : Nat) : Int) - 2 = (k : Int) := by omega
    rw [this, Nat.add_sub_cancel]; rfl

theorem prime_inv (a p : Int) (h1 : -9223372036854775808 ≤ p) (h2 : p < 9223372036854775808) (w : World) :
    Calls Try.prog 22 #[.int .i64 a, .int .i64 p] w fun e w' => e = .returned (.int .i64 (invP a p)) ∧ Below w.heap.size w w' := by
  have HI : Hid (∀ w, Calls Try.prog 9 #[.int .i64 p] w fun e w' => e = .returned (.bool (isP p)) ∧ Below w.heap.size w w') := fun w => prime_is p h1 h2 w
  clear h1 h2
  cases hp : isP p with
  | false =>
    have HZ : Hid (invP a p = 0) := by show _ = _; simp [invP, hp]
    rw [hp] at HI
    clear hp
    go_enter Try.func22, Try.ntmps22
    go_wp2_with fail
    refine (HI.out _).mono ?_
    rintro e w1 ⟨rfl, hb1⟩
    have HB := hidP hb1
    clear hb1
    go_wp2_with fail
    go_ret
    exact ⟨by rw [HZ.out]; rfl, HB.out⟩
  | true =>
    rw [hp] at HI
    obtain ⟨q, rfl, hq⟩ := isP_true hp
    have hq2 := hq.1
    have hq3 := hq.2.1
    have HQ := hidP hq
    clear hq
    obtain ⟨x, ex, lx⟩ : ∃ x : Nat, a % (q : Int) = x ∧ x < q := ⟨(a % (q : Int)).toNat, by have := Int.emod_nonneg a (show (q : Int) ≠ 0 by omega); omega, by have := Int.emod_nonneg a (show (q : Int) ≠ 0 by omega); have := Int.emod_lt_of_pos a (show 0 < (q : Int) by omega); omega⟩
    have HR : Hid (∀ (z : Int) w, Calls Try.prog 26 #[.int .i64 z, .int .i64 q] w fun e w' => e = .returned (.int .i64 (z % (q : Int))) ∧ Below w.heap.size w w') := fun z w => prime_residue z q (by omega) (by omega) w
    have HZ := hidP (invP_nat hp ex hq2)
    have C1 := hidP fun w => HR.out a w
    rw [ex] at C1
    have C2 := hidP fun w => prime_inverse x q (by omega) hq2 hq3 w
    obtain ⟨E, hE⟩ : ∃ E, (if x = 0 then 0 else x ^ (q - 2) % q) = E := ⟨_, rfl⟩
    rw [hE] at HZ C2
    clear ex hp HR hE
    go_enter Try.func22, Try.ntmps22
    go_wp2_with fail
    refine (HI.out _).mono ?_
    rintro e w0 ⟨rfl, hb0⟩
    have B0 := hidP hb0
    clear hb0
    go_wp2_with fail
    refine (C1.out _).mono ?_
    rintro e w1 ⟨rfl, hb1⟩
    have B1 := hidP (B0.out.trans (hb1.mono B0.out.size))
    clear hb1
    go_wp2_with fail
    refine (C2.out _).mono ?_
    rintro e w2 ⟨rfl, hb2⟩
    have B2 := hidP (B1.out.trans (hb2.mono B1.out.size))
    clear hb2
    go_wp2_with fail
    go_ret
    exact ⟨by rw [HZ.out]; rfl, B2.out⟩
end Go.Proofs.Ytbbopmniepkoiaa
