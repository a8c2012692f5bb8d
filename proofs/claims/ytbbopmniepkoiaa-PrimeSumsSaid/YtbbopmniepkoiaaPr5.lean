/- The document's Add, Mul, Half, Pow, Inv of layer 5 by their contracts. -/
import Derived.Test.YtbbopmniepkoiaaPr2
import Derived.Test.YtbbopmniepkoiaaPr3
set_option linter.unusedVariables false
set_option linter.unusedSimpArgs false
namespace Go.Proofs.Ytbbopmniepkoiaa
open Go.RowKit

theorem ref5_add (a b p : Int) (h1 : -9223372036854775808 ≤ p) (h2 : p < 9223372036854775808) (w : World) :
    Calls Try.prog 15 #[.int .i64 a, .int .i64 b, .int .i64 p] w fun e w' => e = .returned (.int .i64 (addP a b p)) ∧ Below w.heap.size w w' := by
  have HI : Hid (∀ w, Calls Try.prog 10 #[.int .i64 p] w fun e w' => e = .returned (.bool (isP p)) ∧ Below w.heap.size w w') := fun w => ref_isP p h1 h2 w
  clear h1 h2
  cases hp : isP p with
  | false =>
    have HZ : Hid (addP a b p = 0) := by show _ = _; simp [addP, hp]
    rw [hp] at HI
    clear hp
    go_enter Try.func15, Try.ntmps15
    go_wp2_with fail
    refine (HI.out _).mono ?_
    rintro e w1 ⟨rfl, hb1⟩
    have HB := hidP hb1
    clear hb1
    go_wp2_with fail
    go_ret
    exact ⟨by rw [HZ.out]; rfl, HB.out⟩
  | true =>
    rw [hp] at HI
    obtain ⟨q, rfl, hq⟩ := isP_true hp
    have hq2 := hq.1
    have hq3 := hq.2.1
    have HQ := hidP hq
    clear hq
    obtain ⟨x, ex, lx⟩ : ∃ x : Nat, a % (q : Int) = x ∧ x < q := ⟨(a % (q : Int)).toNat, by have := Int.emod_nonneg a (show (q : Int) ≠ 0 by omega); omega, by have := Int.emod_nonneg a (show (q : Int) ≠ 0 by omega); have := Int.emod_lt_of_pos a (show 0 < (q : Int) by omega); omega⟩
    obtain ⟨y, ey, ly⟩ : ∃ y : Nat, b % (q : Int) = y ∧ y < q := ⟨(b % (q : Int)).toNat, by have := Int.emod_nonneg b (show (q : Int) ≠ 0 by omega); omega, by have := Int.emod_nonneg b (show (q : Int) ≠ 0 by omega); have := Int.emod_lt_of_pos b (show 0 < (q : Int) by omega); omega⟩
    have HR : Hid (∀ (z : Int) w, Calls Try.prog 27 #[.int .i64 z, .int .i64 q] w fun e w' => e = .returned (.int .i64 (z % (q : Int))) ∧ Below w.heap.size w w') := fun z w => ref_rest z q (by omega) (by omega) w
    have HZ : Hid (addP a b q = ((x + y) % q : Nat)) := by show _ = _; unfold addP; rw [if_pos hp, ex, ey]; norm_cast
    have C1 := hidP fun w => HR.out a w
    have C2 := hidP fun w => HR.out b w
    rw [ex] at C1; rw [ey] at C2
    have ws : IntKind.i64.wrap ((x : Int) + (y : Int)) = ((x + y : Nat) : Int) := by rw [IntKind.wrap_i64]; omega
    have C3 := hidP fun w => HR.out ((x + y : Nat) : Int) w
    have e3 : ((x + y : Nat) : Int) % (q : Int) = ((x + y) % q : Nat) := by norm_cast
    rw [e3] at C3
    obtain ⟨S, hS⟩ : ∃ S, x + y = S := ⟨_, rfl⟩
    have ws2 : (x : Int) + (y : Int) = (S : Int) := by omega
    have ws3 : IntKind.i64.wrap (S : Int) = (S : Int) := by rw [IntKind.wrap_i64]; omega
    rw [hS] at C3 HZ
    clear ws e3 hS
    clear ex ey hp HR
    go_enter Try.func15, Try.ntmps15
    go_wp2_with fail
    refine (HI.out _).mono ?_
    rintro e w0 ⟨rfl, hb0⟩
    have B0 := hidP hb0
    clear hb0
    go_wp2_with fail
    refine (C1.out _).mono ?_
    rintro e w1 ⟨rfl, hb1⟩
    have B1 := hidP (B0.out.trans (hb1.mono B0.out.size))
    clear hb1
    go_wp2_with fail
    refine (C2.out _).mono ?_
    rintro e w2 ⟨rfl, hb2⟩
    have B2 := hidP (B1.out.trans (hb2.mono B1.out.size))
    clear hb2
    go_wp2_with fail
    refine (C3.out _).mono ?_
    rintro e w3 ⟨rfl, hb3⟩
    have B3 := hidP (B2.out.trans (hb3.mono B2.out.size))
    clear hb3
    go_wp2_with fail
    go_ret
    exact ⟨by rw [HZ.out]; rfl, B3.out⟩

theorem ref5_mul (a b p : Int) (h1 : -9223372036854775808 ≤ p) (h2 : p < 9223372036854775808) (w : World) :
    Calls Try.prog 17 #[.int .i64 a, .int .i64 b, .int .i64 p] w fun e w' => e = .returned (.int .i64 (mulP a b p)) ∧ Below w.heap.size w w' := by
  have HI : Hid (∀ w, Calls Try.prog 10 #[.int .i64 p] w fun e w' => e = .returned (.bool (isP p)) ∧ Below w.heap.size w w') := fun w => ref_isP p h1 h2 w
  clear h1 h2
  cases hp : isP p with
  | false =>
    have HZ : Hid (mulP a b p = 0) := by show _ = _; simp [mulP, hp]
    rw [hp] at HI
    clear hp
    go_enter Try.func17, Try.ntmps17
    go_wp2_with fail
    refine (HI.out _).mono ?_
    rintro e w1 ⟨rfl, hb1⟩
    have HB := hidP hb1
    clear hb1
    go_wp2_with fail
    go_ret
    exact ⟨by rw [HZ.out]; rfl, HB.out⟩
  | true =>
    rw [hp] at HI
    obtain ⟨q, rfl, hq⟩ := isP_true hp
    have hq2 := hq.1
    have hq3 := hq.2.1
    have HQ := hidP hq
    clear hq
    obtain ⟨x, ex, lx⟩ : ∃ x : Nat, a % (q : Int) = x ∧ x < q := ⟨(a % (q : Int)).toNat, by have := Int.emod_nonneg a (show (q : Int) ≠ 0 by omega); omega, by have := Int.emod_nonneg a (show (q : Int) ≠ 0 by omega); have := Int.emod_lt_of_pos a (show 0 < (q : Int) by omega); omega⟩
    obtain ⟨y, ey, ly⟩ : ∃ y : Nat, b % (q : Int) = y ∧ y < q := ⟨(b % (q : Int)).toNat, by have := Int.emod_nonneg b (show (q : Int) ≠ 0 by omega); omega, by have := Int.emod_nonneg b (show (q : Int) ≠ 0 by omega); have := Int.emod_lt_of_pos b (show 0 < (q : Int) by omega); omega⟩
    have HR : Hid (∀ (z : Int) w, Calls Try.prog 27 #[.int .i64 z, .int .i64 q] w fun e w' => e = .returned (.int .i64 (z % (q : Int))) ∧ Below w.heap.size w w') := fun z w => ref_rest z q (by omega) (by omega) w
    have HZ : Hid (mulP a b q = ((x * y) % q : Nat)) := by show _ = _; unfold mulP; rw [if_pos hp, ex, ey]; norm_cast
    have C1 := hidP fun w => HR.out a w
    have C2 := hidP fun w => HR.out b w
    rw [ex] at C1; rw [ey] at C2
    have hf := prod_fits (show x < 2147483648 by omega) (show y < 2147483648 by omega)
    have C3 := hidP fun w => HR.out ((x * y : Nat) : Int) w
    have e3 : ((x * y : Nat) : Int) % (q : Int) = ((x * y) % q : Nat) := by norm_cast
    rw [e3] at C3
    have ws2 : (x : Int) * (y : Int) = ((x * y : Nat) : Int) := (Int.natCast_mul x y).symm
    obtain ⟨S, hS⟩ : ∃ S, x * y = S := ⟨_, rfl⟩
    rw [hS] at C3 HZ ws2 hf
    have ws3 : IntKind.i64.wrap (S : Int) = (S : Int) := by rw [IntKind.wrap_i64]; omega
    clear e3 hS
    clear ex ey hp HR
    go_enter Try.func17, Try.ntmps17
    go_wp2_with fail
    refine (HI.out _).mono ?_
    rintro e w0 ⟨rfl, hb0⟩
    have B0 := hidP hb0
    clear hb0
    go_wp2_with fail
    refine (C1.out _).mono ?_
    rintro e w1 ⟨rfl, hb1⟩
    have B1 := hidP (B0.out.trans (hb1.mono B0.out.size))
    clear hb1
    go_wp2_with fail
    refine (C2.out _).mono ?_
    rintro e w2 ⟨rfl, hb2⟩
    have B2 := hidP (B1.out.trans (hb2.mono B1.out.size))
    clear hb2
    go_wp2_with fail
    refine (C3.out _).mono ?_
    rintro e w3 ⟨rfl, hb3⟩
    have B3 := hidP (B2.out.trans (hb3.mono B2.out.size))
    clear hb3
    go_wp2_with fail
    go_ret
    exact ⟨by rw [HZ.out]; rfl, B3.out⟩

theorem ref5_half (a p : Int) (h1 : -9223372036854775808 ≤ p) (h2 : p < 9223372036854775808) (w : World) :
    Calls Try.prog 19 #[.int .i64 a, .int .i64 p] w fun e w' => e = .returned (.int .i64 (halfP a p)) ∧ Below w.heap.size w w' := by
  have HI : Hid (∀ w, Calls Try.prog 10 #[.int .i64 p] w fun e w' => e = .returned (.bool (isP p)) ∧ Below w.heap.size w w') := fun w => ref_isP p h1 h2 w
  clear h1 h2
  cases hp : isP p with
  | false =>
    have HZ : Hid (halfP a p = 0) := by show _ = _; simp [halfP, hp]
    rw [hp] at HI
    clear hp
    go_enter Try.func19, Try.ntmps19
    go_wp2_with fail
    refine (HI.out _).mono ?_
    rintro e w1 ⟨rfl, hb1⟩
    have HB := hidP hb1
    clear hb1
    go_wp2_with fail
    go_ret
    exact ⟨by rw [HZ.out]; rfl, HB.out⟩
  | true =>
    rw [hp] at HI
    obtain ⟨q, rfl, hq⟩ := isP_true hp
    have hq2 := hq.1
    have hq3 := hq.2.1
    have HQ := hidP hq
    clear hq
    obtain ⟨x, ex, lx⟩ : ∃ x : Nat, a % (q : Int) = x ∧ x < q := ⟨(a % (q : Int)).toNat, by have := Int.emod_nonneg a (show (q : Int) ≠ 0 by omega); omega, by have := Int.emod_nonneg a (show (q : Int) ≠ 0 by omega); have := Int.emod_lt_of_pos a (show 0 < (q : Int) by omega); omega⟩
    have HR : Hid (∀ (z : Int) w, Calls Try.prog 27 #[.int .i64 z, .int .i64 q] w fun e w' => e = .returned (.int .i64 (z % (q : Int))) ∧ Below w.heap.size w w') := fun z w => ref_rest z q (by omega) (by omega) w
    have C1 := hidP fun w => HR.out a w
    rw [ex] at C1
    obtain ⟨h, hh⟩ : ∃ h, h = q / 2 := ⟨_, rfl⟩
    have q1 : (q : Int) / 2 = (h : Int) := by omega
    have q3 : Int.tdiv (q : Int) 2 = (h : Int) := by rw [Int.tdiv_eq_ediv_of_nonneg (by omega)]; exact q1
    have q4 : IntKind.i64.wrap (h : Int) = (h : Int) := by rw [IntKind.wrap_i64]; omega
    have q5 : IntKind.i64.wrap ((x : Int) - (q : Int)) = (x : Int) - (q : Int) := by rw [IntKind.wrap_i64]; omega
    have HZ : Hid (halfP a q = if (x : Int) > (h : Int) then (x : Int) - q else x) := by show _ = _; unfold halfP; rw [if_pos hp, ex, q1]
    clear ex hp HR hh
    by_cases hc : (x : Int) > (h : Int)
    · rw [if_pos hc] at HZ
      go_enter Try.func19, Try.ntmps19
      go_wp2_with fail
      refine (HI.out _).mono ?_
      rintro e w0 ⟨rfl, hb0⟩
      have B0 := hidP hb0
      clear hb0
      go_wp2_with fail
      refine (C1.out _).mono ?_
      rintro e w1 ⟨rfl, hb1⟩
      have B1 := hidP (B0.out.trans (hb1.mono B0.out.size))
      clear hb1
      go_wp2
      go_ret
      exact ⟨by rw [HZ.out]; rfl, by first | exact B1.out | exact B1.out.drew⟩
    · rw [if_neg hc] at HZ
      go_enter Try.func19, Try.ntmps19
      go_wp2_with fail
      refine (HI.out _).mono ?_
      rintro e w0 ⟨rfl, hb0⟩
      have B0 := hidP hb0
      clear hb0
      go_wp2_with fail
      refine (C1.out _).mono ?_
      rintro e w1 ⟨rfl, hb1⟩
      have B1 := hidP (B0.out.trans (hb1.mono B0.out.size))
      clear hb1
      go_wp2
      go_ret
      exact ⟨by rw [HZ.out]; rfl, by first | exact B1.out | exact B1.out.drew⟩

set_option maxRecDepth 100000 in
set_option maxHeartbeats 1000000 in
theorem ref5_pow (a n p : Int) (h1 : -9223372036854775808 ≤ p) (h2 : p < 9223372036854775808) (hn : n < 9223372036854775808) (w : World) :
    Calls Try.prog 21 #[.int .i64 a, .int .i64 n, .int .i64 p] w fun e w' => e = .returned (.int .i64 (powP a n p)) ∧ Below w.heap.size w w' := by
  have HI : Hid (∀ w, Calls Try.prog 10 #[.int .i64 p] w fun e w' => e = .returned (.bool (isP p)) ∧ Below w.heap.size w w') := fun w => ref_isP p h1 h2 w
  clear h1 h2
  cases hp : isP p with
  | false =>
    have HZ : Hid (powP a n p = 0) := by show _ = _; simp [powP, hp]
    rw [hp] at HI
    clear hp
    go_enter Try.func21, Try.ntmps21
    go_wp2_with fail
    refine (HI.out _).mono ?_
    rintro e w1 ⟨rfl, hb1⟩
    have HB := hidP hb1
    clear hb1
    go_wp2_with fail
    go_ret
    exact ⟨by rw [HZ.out]; rfl, HB.out⟩
  | true =>
    rw [hp] at HI
    by_cases h0 : n < 0
    · have HZ : Hid (powP a n p = 0) := by show _ = _; unfold powP; rw [if_neg (fun h => by omega)]
      clear hn hp
      go_enter Try.func21, Try.ntmps21
      go_wp2_with fail
      refine (HI.out _).mono ?_
      rintro e w1 ⟨rfl, hb1⟩
      have HB := hidP hb1
      clear hb1
      go_wp2_with fail
      go_ret
      exact ⟨by rw [HZ.out]; rfl, HB.out⟩
    obtain ⟨m, rfl⟩ : ∃ m : Nat, n = m := ⟨n.toNat, by omega⟩
    have hm : m < 9223372036854775808 := by omega
    have h0' : ¬ (m : Int) < 0 := by omega
    clear hn h0
    obtain ⟨q, rfl, hq⟩ := isP_true hp
    have hq2 := hq.1
    have hq3 := hq.2.1
    have HQ := hidP hq
    clear hq
    obtain ⟨x, ex, lx⟩ : ∃ x : Nat, a % (q : Int) = x ∧ x < q := ⟨(a % (q : Int)).toNat, by have := Int.emod_nonneg a (show (q : Int) ≠ 0 by omega); omega, by have := Int.emod_nonneg a (show (q : Int) ≠ 0 by omega); have := Int.emod_lt_of_pos a (show 0 < (q : Int) by omega); omega⟩
    have HR : Hid (∀ (z : Int) w, Calls Try.prog 27 #[.int .i64 z, .int .i64 q] w fun e w' => e = .returned (.int .i64 (z % (q : Int))) ∧ Below w.heap.size w w') := fun z w => ref_rest z q (by omega) (by omega) w
    have HP : Hid (∀ (x y : Nat) w, x < 2147483648 → y < 2147483648 → Calls Try.prog 27 #[.int .i64 (x * y : Nat), .int .i64 q] w fun e w' => e = .returned (.int .i64 (x * y % q : Nat)) ∧ Below w.heap.size w w') := fun x y w hx hy => by
      have h := HR.out ((x * y : Nat) : Int) w
      have e3 : ((x * y : Nat) : Int) % (q : Int) = ((x * y) % q : Nat) := by norm_cast
      rwa [e3] at h
    have HZ : Hid (powP a m q = (1 * x ^ m % q : Nat)) := by show _ = _; unfold powP; rw [if_pos ⟨by omega, hp⟩, ex, Nat.one_mul]; rfl
    have C1 := hidP fun w => HR.out 1 w
    have e1 : (1 : Int) % (q : Int) = ((1 : Nat) : Int) := by rw [Int.emod_eq_of_lt (by omega) (by omega)]; rfl
    have C2 := hidP fun w => HR.out a w
    rw [ex] at C2
    rw [e1] at C1
    obtain ⟨E, hE⟩ : ∃ E, 1 * x ^ m % q = E := ⟨_, rfl⟩
    rw [hE] at HZ
    have HE := hidP hE
    clear ex hp HR hE e1
    go_enter Try.func21, Try.ntmps21
    go_wp2_with fail
    refine (HI.out _).mono ?_
    rintro e w0 ⟨rfl, hb0⟩
    have B0 := hidP hb0
    clear hb0
    go_wp2_with fail
    refine (C1.out _).mono ?_
    rintro e w1 ⟨rfl, hb1⟩
    have B1 := hidP (B0.out.trans (hb1.mono B0.out.size))
    clear hb1
    go_wp2_with fail
    refine (C2.out _).mono ?_
    rintro e w2 ⟨rfl, hb2⟩
    have B2 := hidP (B1.out.trans (hb2.mono B1.out.size))
    clear hb2
    go_wp2
    go_loopg [1, 7, 8] m (fun g v1 v7 v8 wr => ∃ k r z : Nat, v1 = .int .i64 k ∧ v7 = .int .i64 r ∧ v8 = .int .i64 z ∧ z < q ∧ r < q ∧ k < 9223372036854775808 ∧ Hid (k = g) ∧ Hid (r * z ^ k % q = E) ∧ Hid (Below w.heap.size w wr))
    case atStart => exact ⟨m, 1, x, rfl, rfl, rfl, lx, by omega, hm, rfl, HE, B2⟩
    case round =>
      obtain ⟨k, r, z, rfl, rfl, rfl, hz, hr, hk, hG, hI, hB⟩ := hrel
      rcases Nat.eq_zero_or_pos k with h0 | h0
      · subst h0
        have hfin : r = E := by have := hI.out; rw [Nat.pow_zero, Nat.mul_one, Nat.mod_eq_of_lt hr] at this; exact this
        have HF := hidP hfin
        clear hfin hI
        go_wp2
        go_ret
        exact ⟨by rw [HZ.out, HF.out]; rfl, hB.out⟩
      · have hpos : (k : Int) > 0 := by omega
        obtain ⟨h, hh⟩ : ∃ h, h = k / 2 := ⟨_, rfl⟩
        have q2 : (k : Int) / 2 = (h : Int) := by omega
        have q3 : Int.tdiv (k : Int) 2 = (h : Int) := by rw [Int.tdiv_eq_ediv_of_nonneg (by omega)]; exact q2
        have hhm : h < k := by omega
        have q4 : IntKind.i64.wrap (h : Int) = (h : Int) := by rw [IntKind.wrap_i64]; omega
        have C5 := hidP fun w => HP.out z z w (by omega) (by omega)
        have hf5 := prod_fits (show z < 2147483648 by omega) (show z < 2147483648 by omega)
        have f5 : (z : Int) * (z : Int) = ((z * z : Nat) : Int) := (Int.natCast_mul z z).symm
        obtain ⟨s, hs⟩ : ∃ s, s = z * z % q := ⟨_, rfl⟩
        have hs2 : s < q := by rw [hs]; exact Nat.mod_lt _ (by omega)
        rw [← hs] at C5
        have HG := hidP hs; have HH := hidP hh
        obtain ⟨S, hS⟩ : ∃ S, z * z = S := ⟨_, rfl⟩
        rw [hS] at C5 f5 hf5
        have g5 : IntKind.i64.wrap (S : Int) = (S : Int) := by rw [IntKind.wrap_i64]; omega
        clear hs hh hS
        rcases Nat.mod_two_eq_zero_or_one k with h2 | h2
        · have o1 : Int.tmod (k : Int) 2 = 0 := by rw [Int.tmod_eq_emod_of_nonneg (by omega)]; omega
          have o2 : (k : Int) % 2 = 0 := by omega
          have H2 := hidP h2
          clear h2
          go_wp2_with fail
          refine (C5.out _).mono ?_
          rintro e w1 ⟨rfl, hb1⟩
          have HB1 := hidP (hB.out.trans (hb1.mono hB.out.size))
          clear hb1
          go_wp2
          go_roundg h
          case rel => exact ⟨h, r, s, rfl, rfl, rfl, hs2, hr, by omega, rfl, by show _ = _; rw [HG.out, HH.out, pw_even _ _ _ _ H2.out]; exact hI.out, HB1⟩
          case measure => have := hG.out; omega
        · have o1 : Int.tmod (k : Int) 2 = 1 := by rw [Int.tmod_eq_emod_of_nonneg (by omega)]; omega
          have o2 : (k : Int) % 2 = 1 := by omega
          have H2 := hidP h2
          have C4 := hidP fun w => HP.out r z w (by omega) (by omega)
          have hf4 := prod_fits (show r < 2147483648 by omega) (show z < 2147483648 by omega)
          have f4 : (r : Int) * (z : Int) = ((r * z : Nat) : Int) := (Int.natCast_mul r z).symm
          obtain ⟨u, hu⟩ : ∃ u, u = r * z % q := ⟨_, rfl⟩
          have hu2 : u < q := by rw [hu]; exact Nat.mod_lt _ (by omega)
          rw [← hu] at C4
          have HU := hidP hu
          obtain ⟨T, hT⟩ : ∃ T, r * z = T := ⟨_, rfl⟩
          rw [hT] at C4 f4 hf4
          have g4 : IntKind.i64.wrap (T : Int) = (T : Int) := by rw [IntKind.wrap_i64]; omega
          clear hu h2 hT
          go_wp2_with fail
          refine (C4.out _).mono ?_
          rintro e w1 ⟨rfl, hb1⟩
          have HB1 := hidP (hB.out.trans (hb1.mono hB.out.size))
          clear hb1
          go_wp2_with fail
          refine (C5.out _).mono ?_
          rintro e w2 ⟨rfl, hb2⟩
          have HB2 := hidP (HB1.out.trans (hb2.mono HB1.out.size))
          clear hb2
          go_wp2
          go_roundg h
          case rel => exact ⟨h, u, s, rfl, rfl, rfl, hs2, hu2, by omega, rfl, by show _ = _; rw [HG.out, HH.out, HU.out, pw_odd _ _ _ _ H2.out]; exact hI.out, HB2⟩
          case measure => have := hG.out; omega

theorem ref5_inv (a p : Int) (h1 : -9223372036854775808 ≤ p) (h2 : p < 9223372036854775808) (w : World) :
    Calls Try.prog 23 #[.int .i64 a, .int .i64 p] w fun e w' => e = .returned (.int .i64 (invP a p)) ∧ Below w.heap.size w w' := by
  have HI : Hid (∀ w, Calls Try.prog 10 #[.int .i64 p] w fun e w' => e = .returned (.bool (isP p)) ∧ Below w.heap.size w w') := fun w => ref_isP p h1 h2 w
  cases hp : isP p with
  | false =>
    have HZ : Hid (invP a p = 0) := by show _ = _; simp [invP, hp]
    rw [hp] at HI
    clear hp h1 h2
    go_enter Try.func23, Try.ntmps23
    go_wp2_with fail
    refine (HI.out _).mono ?_
    rintro e w1 ⟨rfl, hb1⟩
    have HB := hidP hb1
    clear hb1
    go_wp2_with fail
    go_ret
    exact ⟨by rw [HZ.out]; rfl, HB.out⟩
  | true =>
    rw [hp] at HI
    have C2 := hidP fun w => ref5_pow a (p - 2) p h1 h2 (by omega) w
    clear h1 h2
    obtain ⟨q, rfl, hq⟩ := isP_true hp
    have hq2 := hq.1
    have hq3 := hq.2.1
    have HQ := hidP hq
    clear hq
    have HR : Hid (∀ (z : Int) w, Calls Try.prog 27 #[.int .i64 z, .int .i64 q] w fun e w' => e = .returned (.int .i64 (z % (q : Int))) ∧ Below w.heap.size w w') := fun z w => ref_rest z q (by omega) (by omega) w
    have C1 := hidP fun w => HR.out a w
    have hw : IntKind.i64.wrap ((q : Int) - 2) = (q : Int) - 2 := by rw [IntKind.wrap_i64]; omega
    by_cases h0 : a % (q : Int) = 0
    · have HZ : Hid (invP a q = 0) := by show _ = _; unfold invP; rw [if_neg (fun h => h.2 h0)]
      rw [h0] at C1
      clear h0 hp HR C2 hw
      go_enter Try.func23, Try.ntmps23
      go_wp2_with fail
      refine (HI.out _).mono ?_
      rintro e w0 ⟨rfl, hb0⟩
      have B0 := hidP hb0
      clear hb0
      go_wp2_with fail
      refine (C1.out _).mono ?_
      rintro e w1 ⟨rfl, hb1⟩
      have B1 := hidP (B0.out.trans (hb1.mono B0.out.size))
      clear hb1
      go_wp2_with fail
      go_ret
      exact ⟨by rw [HZ.out]; rfl, B1.out⟩
    · have HZ : Hid (invP a q = powP a ((q : Int) - 2) q) := by show _ = _; unfold invP; rw [if_pos ⟨hp, h0⟩]
      obtain ⟨E, hE⟩ : ∃ E, powP a ((q : Int) - 2) q = E := ⟨_, rfl⟩
      obtain ⟨R, hR⟩ : ∃ R, a % (q : Int) = R := ⟨_, rfl⟩
      rw [hE] at HZ C2
      rw [hR] at C1 h0
      have b0 : (R == 0) = false := by simpa using h0
      clear hp HR hE hR
      go_enter Try.func23, Try.ntmps23
      go_wp2_with fail
      refine (HI.out _).mono ?_
      rintro e w0 ⟨rfl, hb0⟩
      have B0 := hidP hb0
      clear hb0
      go_wp2_with fail
      refine (C1.out _).mono ?_
      rintro e w1 ⟨rfl, hb1⟩
      have B1 := hidP (B0.out.trans (hb1.mono B0.out.size))
      clear hb1
      go_wp2_with fail
      refine (C2.out _).mono ?_
      rintro e w2 ⟨rfl, hb2⟩
      have B2 := hidP (B1.out.trans (hb2.mono B1.out.size))
      clear hb2
      go_wp2_with fail
      go_ret
      exact ⟨by rw [HZ.out]; rfl, B2.out⟩
end Go.Proofs.Ytbbopmniepkoiaa
