/- prime.Is, prime.After; the document's Is and After, by their contracts. -/
import Derived.Test.YtbbopmniepkoiaaPr1
set_option linter.unusedVariables false
set_option linter.unusedSimpArgs false
namespace Go.Proofs.Ytbbopmniepkoiaa
open Go.RowKit

theorem first_is {n b r : Int} (h : FirstIs (max n 2) b r) (hb : (b = n ∧ n ≤ 2147483647) ∨ (b = 2147483647 ∧ 2147483647 < n)) : (r == 0) = !isP n := by
  rcases h with ⟨rfl, h⟩ | ⟨h1, h2, h3, h4⟩
  · cases e : isP n with
    | false => rfl
    | true =>
      obtain ⟨m, rfl, k2, k3, -⟩ := isP_true e
      rw [h m (by omega) (by omega)] at e; cases e
  · have hr : r = n := by omega
    subst hr
    obtain ⟨m, rfl, k2, k3, -⟩ := isP_true h3
    rw [h3]
    simp; omega

theorem first_after {n r : Int} (h : FirstIs (max (n + 1) 2) 2147483647 r) : IsAfter n r := by
  have key : ∀ q, n < q → ¬ (max (n + 1) 2 ≤ q ∧ q ≤ 2147483647) → isP q = false := by
    intro q h1 h2
    rcases Int.lt_or_le q 2 with h3 | h3
    · exact isP_lt_two h3
    · exact isP_great (by omega)
  rcases h with ⟨rfl, h⟩ | ⟨h1, h2, h3, h4⟩
  · refine Or.inl ⟨rfl, fun q hq => ?_⟩
    by_cases hk : max (n + 1) 2 ≤ q ∧ q ≤ 2147483647
    · exact h q hk.1 hk.2
    · exact key q hq hk
  · refine Or.inr ⟨by omega, h3, fun q hq hq2 => ?_⟩
    by_cases hk : max (n + 1) 2 ≤ q ∧ q ≤ 2147483647
    · exact h4 q hk.1 hq2
    · exact key q hq hk

theorem prime_is (n : Int) (h1 : -9223372036854775808 ≤ n) (h2 : n < 9223372036854775808) (w : World) :
    Calls Try.prog 9 #[.int .i64 n] w fun e w' => e = .returned (.bool (isP n)) ∧ Below w.heap.size w w' := by
  by_cases h : n ≤ 2147483647
  · have hc := prime_first n n h1 h2 h1 (by omega) w
    have hs := fun r (hr : FirstIs (max n 2) n r) => first_is hr (.inl ⟨rfl, h⟩)
    have HC := hidP hc; have HS := hidP hs
    clear hc hs h1
    go_enter Try.func9, Try.ntmps9
    go_wp2_with fail
    refine HC.out.mono ?_
    rintro e w1 ⟨r, rfl, hr, hb1⟩
    have hz := HS.out r hr
    have HB := hidP hb1
    clear hr hb1
    go_wp2_with fail
    go_ret
    exact ⟨by simp [bne, hz], HB.out⟩
  · have hc := prime_first n 2147483647 h1 h2 (by omega) (by omega) w
    have hs := fun r (hr : FirstIs (max n 2) 2147483647 r) => first_is hr (by omega)
    have HC := hidP hc; have HS := hidP hs
    clear hc hs h1
    go_enter Try.func9, Try.ntmps9
    go_wp2_with fail
    refine HC.out.mono ?_
    rintro e w1 ⟨r, rfl, hr, hb1⟩
    have hz := HS.out r hr
    have HB := hidP hb1
    clear hr hb1
    go_wp2_with fail
    go_ret
    exact ⟨by simp [bne, hz], HB.out⟩

theorem prime_after (n : Int) (h1 : -9223372036854775808 ≤ n) (h2 : n < 9223372036854775808) (w : World) :
    Calls Try.prog 12 #[.int .i64 n] w fun e w' => ∃ r, e = .returned (.int .i64 r) ∧ IsAfter n r ∧ Below w.heap.size w w' := by
  by_cases h : n < 2147483647
  · have hn : ¬ n ≥ 2147483647 := by omega
    have hw : IntKind.i64.wrap (n + 1) = n + 1 := by rw [IntKind.wrap_i64]; omega
    have HC := hidP (prime_first (n + 1) 2147483647 (by omega) (by omega) (by omega) (by omega) w)
    clear h1
    go_enter Try.func12, Try.ntmps12
    go_wp2_with fail
    refine HC.out.mono ?_
    rintro e w1 ⟨r, rfl, hr, hb1⟩
    have HR := hidP hr
    have HB := hidP hb1
    clear hr hb1
    go_wp2_with fail
    go_ret
    exact ⟨r, rfl, first_after HR.out, HB.out⟩
  · have hn : n ≥ 2147483647 := by omega
    clear h1
    go_enter Try.func12, Try.ntmps12
    go_wp2_with fail
    go_ret
    exact ⟨0, rfl, .inl ⟨rfl, fun q hq => isP_great (by omega)⟩, Below.refl _ _⟩

set_option maxRecDepth 100000 in
set_option maxHeartbeats 1000000 in
theorem ref_isP (n : Int) (h1 : -9223372036854775808 ≤ n) (h2 : n < 9223372036854775808) (w : World) :
    Calls Try.prog 10 #[.int .i64 n] w fun e w' => e = .returned (.bool (isP n)) ∧ Below w.heap.size w w' := by
  by_cases hlo : n < 2
  · have HP := hidP (isP_lt_two hlo)
    clear h1
    go_enter Try.func10, Try.ntmps10
    go_wp2
    go_ret
    exact ⟨by rw [HP.out]; rfl, Below.refl _ _⟩
  by_cases hhi : 2147483648 ≤ n
  · have HP := hidP (isP_great hhi)
    have hge : n ≥ 2147483648 := hhi
    clear h1
    go_enter Try.func10, Try.ntmps10
    go_wp2
    go_ret
    exact ⟨by rw [HP.out]; rfl, Below.refl _ _⟩
  obtain ⟨m, rfl⟩ : ∃ m : Nat, n = m := ⟨n.toNat, by omega⟩
  have hm : m < 2147483648 := by omega
  have hm2 : 2 ≤ m := by omega
  clear h1 h2
  go_enter Try.func10, Try.ntmps10
  go_wp2
  go_loopg [3] m (fun g v wr => ∃ d : Nat, v = .int .i64 d ∧ 2 ≤ d ∧ d ≤ 46341 ∧ Hid (m - d + 2 = g) ∧ Hid (∀ e, e < d → 2 ≤ e → ¬ e ∣ m) ∧ Hid (Below w.heap.size w wr))
  case atStart => exact ⟨2, rfl, by omega, by omega, by show _ = _; omega, fun e h1 h2 => absurd h1 (by omega), Below.refl _ _⟩
  case round =>
    obtain ⟨d, rfl, hd2, hd, hG, hN, hB⟩ := hrel
    obtain ⟨Q, hQ⟩ : ∃ Q, Q = d * d := ⟨_, rfl⟩
    have hQb : Q < 4294967296 := by have := Nat.mul_le_mul hd hd; omega
    have eQ' : (d : Int) * (d : Int) = (Q : Int) := by rw [hQ]; exact (Int.natCast_mul d d).symm
    have eQ : IntKind.i64.wrap (Q : Int) = (Q : Int) := by rw [IntKind.wrap_i64]; omega
    have HQ := hidP hQ
    clear hQ
    by_cases hle : Q ≤ m
    · obtain ⟨r1, hr1⟩ : ∃ r, r = m % d := ⟨_, rfl⟩
      have d1 : (m : Int) % (d : Int) = (r1 : Int) := by rw [hr1]; exact (Int.natCast_emod _ _).symm
      have d2 : Int.tmod (m : Int) (d : Int) = (r1 : Int) := by rw [Int.tmod_eq_emod_of_nonneg (by omega)]; exact d1
      have l1 : r1 < d := by rw [hr1]; exact Nat.mod_lt _ (by omega)
      have w1 : IntKind.i64.wrap (r1 : Int) = (r1 : Int) := by rw [IntKind.wrap_i64]; omega
      have z1 : ¬ (d : Int) = 0 := by omega
      have H1 := hidP hr1
      have hd3 : d ≤ 46340 ∧ 2 * d ≤ m := by
        have h3 := HQ.out
        have h4 := Nat.mul_le_mul_right d hd2
        refine ⟨?_, by omega⟩
        rcases Nat.lt_or_ge 46340 d with h5 | h5
        · have := Nat.mul_le_mul h5 h5; omega
        · exact h5
      obtain ⟨hd4, hd5⟩ := hd3
      clear hr1
      by_cases h1 : r1 = 0
      · subst h1
        have HP := hidP (show isP (m : Int) = false by rw [isP_nat]; simpa using not_isP_of_dvd hd2 (by omega) H1.out.symm)
        go_wp2
        go_ret
        exact ⟨by rw [HP.out]; rfl, by first | exact hB.out | exact hB.out.drew⟩
      · have h1' : ¬ (r1 : Int) = 0 := by omega
        have HM := hidP hm
        clear hm hhi
        go_wp2
        go_roundg (m - (d + 1) + 2)
        case rel => exact ⟨d + 1, by go_num, by omega, by omega, rfl, fun e h3 h4 => by
          rcases Nat.lt_or_ge e d with h5 | h5
          · exact hN.out e h5 h4
          · have : e = d := by omega
            subst this
            intro h6
            exact h1 (by rw [H1.out]; exact Nat.mod_eq_zero_of_dvd h6), by first | exact hB | exact hB.out.drew⟩
        case measure => have := hG.out; omega
    · have HP := hidP (show isP (m : Int) = true by rw [isP_nat]; simpa using isP_of_small hm2 hm (by rw [← HQ.out]; omega) hN.out)
      go_wp2
      go_ret
      exact ⟨by rw [HP.out]; rfl, by first | exact hB.out | exact hB.out.drew⟩

theorem isAfter_low {n r : Int} (hn : n < 1) (h : IsAfter 1 r) : IsAfter n r := by
  rcases h with ⟨rfl, h⟩ | ⟨h1, h2, h3⟩
  · exact .inl ⟨rfl, fun q hq => by
      rcases Int.lt_or_le 1 q with h4 | h4
      · exact h q h4
      · exact isP_lt_two (by omega)⟩
  · exact .inr ⟨by omega, h2, fun q hq hq2 => by
      rcases Int.lt_or_le 1 q with h4 | h4
      · exact h3 q h4 hq2
      · exact isP_lt_two (by omega)⟩

theorem isAfter_max {n : Int} (h : 2147483647 ≤ n) : IsAfter n 0 := .inl ⟨rfl, fun q hq => isP_great (by omega)⟩

set_option maxRecDepth 100000 in
set_option maxHeartbeats 1000000 in
theorem ref_after_from (n0 n : Int) (h1 : -9223372036854775808 ≤ n0) (hst : (n0 < 1 ∧ n = 1) ∨ (n0 = n ∧ ¬ n0 < 1)) (hn2 : n < 9223372036854775808) (w : World) :
    Calls Try.prog 13 #[.int .i64 n0] w fun e w' => ∃ r, e = .returned (.int .i64 r) ∧ IsAfter n r ∧ Below w.heap.size w w' := by
  obtain ⟨m, rfl⟩ : ∃ m : Nat, n = m := ⟨n.toNat, by omega⟩
  have hm1 : 1 ≤ m := by omega
  have hm2 : m < 9223372036854775808 := by omega
  have HI : Hid (∀ (k : Nat) w, k < 2147483648 → Calls Try.prog 10 #[.int .i64 k] w fun e w' => e = .returned (.bool (isP k)) ∧ Below w.heap.size w w') := fun k w hk => ref_isP k (by omega) (by omega) w
  clear h1 hn2
  rcases hst with ⟨h2, h3⟩ | ⟨h3, h2⟩
  all_goals
    have H3 := hidP h3
    try subst n0
    try clear h3
    by_cases hbig : (m : Int) ≥ 2147483648
    · first
        | (exfalso; have := H3.out; omega)
        | (go_enter Try.func13, Try.ntmps13
           go_wp2
           go_ret
           exact ⟨0, rfl, isAfter_max (by omega), Below.refl _ _⟩)
    · go_enter Try.func13, Try.ntmps13
      have hwr : IntKind.i64.wrap ((m : Int) + 1) = (m : Int) + 1 := by rw [IntKind.wrap_i64]; omega
      go_wp2
      go_loopg [3] (2147483648 - m) (fun g v wr => ∃ k : Nat, v = .int .i64 k ∧ k ≤ 2147483648 ∧ Hid (2147483648 + 1 - k = g) ∧ Hid ((m : Int) < k ∧ ∀ q : Int, (m : Int) < q → q < k → isP q = false) ∧ Hid (Below w.heap.size w wr))
      case atStart => exact ⟨m + 1, by first | (go_num; done) | (have h5 : m = 1 := by { have := H3.out; omega }; subst h5; rfl), by omega, by show _ = _; omega, ⟨by omega, fun q h1 h2 => absurd h1 (by omega)⟩, Below.refl _ _⟩
      case round =>
        obtain ⟨k, rfl, hk, hG, hN, hB⟩ := hrel
        by_cases hlt : (k : Int) < 2147483648
        · obtain ⟨bb, hbb⟩ : ∃ bb, isP (k : Int) = bb := ⟨_, rfl⟩
          have HC := hidP (HI.out k wr (by omega))
          rw [hbb] at HC
          have HBB := hidP hbb
          clear hbb
          go_wp2_with fail
          refine HC.out.mono ?_
          rintro e w1 ⟨rfl, hb1⟩
          have HB1 := hidP (hB.out.trans (hb1.mono hB.out.size))
          clear hb1 HC
          cases bb with
          | true =>
            go_wp2
            go_ret
            exact ⟨k, rfl, .inr ⟨hN.out.1, HBB.out, hN.out.2⟩, HB1.out⟩
          | false =>
            go_wp2
            go_roundg (2147483648 + 1 - (k + 1))
            case rel => exact ⟨k + 1, by go_num, by omega, rfl, ⟨by have := hN.out.1; omega, fun q h1 h2 => by
              rcases Int.lt_or_le q k with h3 | h3
              · exact hN.out.2 q h1 h3
              · have : q = (k : Int) := by omega
                rw [this]; exact HBB.out⟩, HB1⟩
            case measure => have := hG.out; omega
        · have HN := hN
          clear hN
          go_wp2
          go_ret
          exact ⟨0, rfl, .inl ⟨rfl, fun q h1 => by
            rcases Int.lt_or_le q k with h3 | h3
            · exact HN.out.2 q h1 h3
            · exact isP_great (by omega)⟩, hB.out⟩

theorem ref_afterP (n : Int) (h1 : -9223372036854775808 ≤ n) (h2 : n < 9223372036854775808) (w : World) :
    Calls Try.prog 13 #[.int .i64 n] w fun e w' => ∃ r, e = .returned (.int .i64 r) ∧ IsAfter n r ∧ Below w.heap.size w w' := by
  by_cases h : n < 1
  · refine (ref_after_from n 1 h1 (.inl ⟨h, rfl⟩) (by omega) w).mono ?_
    rintro e w' ⟨r, he, hr, hb⟩
    exact ⟨r, he, isAfter_low h hr, hb⟩
  · exact ref_after_from n n h1 (.inr ⟨rfl, h⟩) h2 w
end Go.Proofs.Ytbbopmniepkoiaa
