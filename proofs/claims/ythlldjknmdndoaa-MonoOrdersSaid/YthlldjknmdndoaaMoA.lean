/- Exponents: mono.areExponents, sum, Degree; the document's May, Degree, sign, Same; cmp.Compare: by their contracts. -/
import Derived.Test.YthlldjknmdndoaaMoM
set_option linter.unusedVariables false
set_option linter.unusedSimpArgs false
namespace Go.Proofs.Ythlldjknmdndoaa
open Go.RowKit

theorem cmp_isNaN (x : Int) (w : World) :
    Calls Try.prog 58 #[.int .i64 x] w fun e w' => e = .returned (.bool false) ∧ w = w' := by
  go_enter Try.func58, Try.ntmps58
  go_wp2
  go_ret
  exact ⟨ret_bool (by simp), rfl⟩

theorem cmp_Compare (x y : Int) (w : World) :
    Calls Try.prog 53 #[.int .i64 x, .int .i64 y] w fun e w' => e = .returned (.int .i64 (sgn (x - y))) ∧ w = w' := by
  have C1 := hidP (cmp_isNaN x); have C2 := hidP (cmp_isNaN y)
  rcases Int.lt_trichotomy x y with h | h | h
  · have HS := hidP (sgn_neg (x := x - y) (by omega))
    go_enter Try.func53, Try.ntmps53
    go_wp2_with fail
    refine (C1.out _).mono ?_
    rintro e w0 ⟨rfl, rfl⟩
    go_wp2_with fail
    refine (C2.out _).mono ?_
    rintro e w0 ⟨rfl, rfl⟩
    go_wp2
    go_ret
    exact ⟨ret_int HS.out.symm, rfl⟩
  · subst h
    have HS := hidP (show sgn (x - x) = 0 by rw [Int.sub_self]; rfl)
    go_enter Try.func53, Try.ntmps53
    go_wp2_with fail
    refine (C1.out _).mono ?_
    rintro e w0 ⟨rfl, rfl⟩
    go_wp2_with fail
    refine (C2.out _).mono ?_
    rintro e w0 ⟨rfl, rfl⟩
    go_wp2
    go_ret
    exact ⟨ret_int HS.out.symm, rfl⟩
  · have HS := hidP (sgn_pos (x := x - y) (by omega))
    have h2 : ¬ x < y := by omega
    go_enter Try.func53, Try.ntmps53
    go_wp2_with fail
    refine (C1.out _).mono ?_
    rintro e w0 ⟨rfl, rfl⟩
    go_wp2_with fail
    refine (C2.out _).mono ?_
    rintro e w0 ⟨rfl, rfl⟩
    go_wp2
    go_ret
    exact ⟨ret_int HS.out.symm, rfl⟩

theorem ref_sign (x y : Int) (w : World) :
    Calls Try.prog 40 #[.int .i64 x, .int .i64 y] w fun e w' => e = .returned (.int .i64 (sgn (x - y))) ∧ w = w' := by
  rcases Int.lt_trichotomy x y with h | h | h
  · have HS := hidP (sgn_neg (x := x - y) (by omega))
    go_enter Try.func40, Try.ntmps40
    go_wp2
    go_ret
    exact ⟨ret_int HS.out.symm, rfl⟩
  · subst h
    have HS := hidP (show sgn (x - x) = 0 by rw [Int.sub_self]; rfl)
    go_enter Try.func40, Try.ntmps40
    go_wp2
    go_ret
    exact ⟨ret_int HS.out.symm, rfl⟩
  · have HS := hidP (sgn_pos (x := x - y) (by omega))
    have h2 : ¬ x < y := by omega
    go_enter Try.func40, Try.ntmps40
    go_wp2
    go_ret
    exact ⟨ret_int HS.out.symm, rfl⟩

theorem mono_areExponents {a : Value} {l : List Int} {w : World} (ha : SeesI w a l) :
    Calls Try.prog 34 #[a] w fun e w' => e = .returned (.bool (mayB l)) ∧ w = w' := by
  have hlen := ha.len
  have HA := hidP ha
  obtain ⟨A, ca, rfl, hcap⟩ := SeesF.form ha
  clear ha
  go_enter Try.func34, Try.ntmps34
  go_wp2
  go_loop [7] (fun v => ∃ k : Nat, k ≤ l.length ∧ v = .int .i64 k ∧ Hid (∀ i, i < k → 0 ≤ l.getD i 0 ∧ l.getD i 0 ≤ 65536)) (fun v => l.length - (intOf v).toNat)
  case atStart => exact ⟨0, Nat.zero_le _, rfl, fun i hi => absurd hi (by omega)⟩
  case round =>
    obtain ⟨k, hk, rfl, hz⟩ := hrel
    by_cases hlt : k < l.length
    · obtain ⟨b1, o1, rfl, hc'⟩ := HA.out.at (by omega)
      have hc := hc' k hlt
      have HN := hidP (fun h => mayB_not hlt h)
      have HZ : Hid (0 ≤ l.getD k 0 → l.getD k 0 ≤ 65536 → ∀ i, i < k + 1 → 0 ≤ l.getD i 0 ∧ l.getD i 0 ≤ 65536) := fun h1 h2 i hi => by
        by_cases e : i = k
        · subst e; exact ⟨h1, h2⟩
        · exact hz.out i (by omega)
      clear hc'
      obtain ⟨x, hx⟩ : ∃ x, l.getD k 0 = x := ⟨_, rfl⟩
      simp only [hx] at hc HN HZ
      clear hx
      by_cases h1 : x < 0
      · have hm := HN.out (.inl h1)
        have HM := hidP hm
        clear hm HN HZ hz
        go_wp2
        go_ret
        exact ⟨ret_bool HM.out.symm, rfl⟩
      · by_cases h2 : x > 65536
        · have hm := HN.out (.inr h2)
          have HM := hidP hm
          clear hm HN HZ hz
          go_wp2
          go_ret
          exact ⟨ret_bool HM.out.symm, rfl⟩
        · have HZ2 := hidP (HZ.out (by omega) (by omega))
          clear HZ HN hz
          go_wp2
          go_round
          case rel => exact ⟨k + 1, by omega, by go_num, HZ2⟩
          case measure => simp [intOf]; omega
    · have hm : mayB l = true := mayB_getD.2 fun i hi => hz.out i (by omega)
      have HM := hidP hm
      clear hm hz
      go_wp2
      go_ret
      exact ⟨ret_bool HM.out.symm, rfl⟩

theorem ref_May {a : Value} {l : List Int} {w : World} (ha : SeesI w a l) :
    Calls Try.prog 35 #[a] w fun e w' => e = .returned (.bool (mayB l)) ∧ w = w' := by
  have hlen := ha.len
  have HA := hidP ha
  obtain ⟨A, ca, rfl, hcap⟩ := SeesF.form ha
  clear ha
  go_enter Try.func35, Try.ntmps35
  go_wp2
  go_loop [3] (fun v => ∃ k : Nat, k ≤ l.length ∧ v = .int .i64 k ∧ Hid (∀ i, i < k → 0 ≤ l.getD i 0 ∧ l.getD i 0 ≤ 65536)) (fun v => l.length - (intOf v).toNat)
  case atStart => exact ⟨0, Nat.zero_le _, rfl, fun i hi => absurd hi (by omega)⟩
  case round =>
    obtain ⟨k, hk, rfl, hz⟩ := hrel
    by_cases hlt : k < l.length
    · obtain ⟨b1, o1, rfl, hc'⟩ := HA.out.at (by omega)
      have hc := hc' k hlt
      have HN := hidP (fun h => mayB_not hlt h)
      have HZ : Hid (0 ≤ l.getD k 0 → l.getD k 0 ≤ 65536 → ∀ i, i < k + 1 → 0 ≤ l.getD i 0 ∧ l.getD i 0 ≤ 65536) := fun h1 h2 i hi => by
        by_cases e : i = k
        · subst e; exact ⟨h1, h2⟩
        · exact hz.out i (by omega)
      clear hc'
      obtain ⟨x, hx⟩ : ∃ x, l.getD k 0 = x := ⟨_, rfl⟩
      simp only [hx] at hc HN HZ
      clear hx
      by_cases h1 : x < 0
      · have hm := HN.out (.inl h1)
        have HM := hidP hm
        clear hm HN HZ hz
        go_wp2
        go_ret
        exact ⟨ret_bool HM.out.symm, rfl⟩
      · by_cases h2 : x > 65536
        · have hm := HN.out (.inr h2)
          have HM := hidP hm
          clear hm HN HZ hz
          go_wp2
          go_ret
          exact ⟨ret_bool HM.out.symm, rfl⟩
        · have HZ2 := hidP (HZ.out (by omega) (by omega))
          clear HZ HN hz
          go_wp2
          go_round
          case rel => exact ⟨k + 1, by omega, by go_num, HZ2⟩
          case measure => simp [intOf]; omega
    · have hm : mayB l = true := mayB_getD.2 fun i hi => hz.out i (by omega)
      have HM := hidP hm
      clear hm hz
      go_wp2
      go_ret
      exact ⟨ret_bool HM.out.symm, rfl⟩

theorem mono_sum {a : Value} {l : List Int} {w : World} (ha : SeesI w a l) (hm : mayB l = true) :
    Calls Try.prog 36 #[a] w fun e w' => e = .returned (.int .i64 l.sum) ∧ w = w' := by
  have hlen := ha.len
  have HA := hidP ha
  have HM := hidP hm
  obtain ⟨A, ca, rfl, hcap⟩ := SeesF.form ha
  clear ha hm
  go_enter Try.func36, Try.ntmps36
  go_wp2
  go_loop [3, 8] (fun s v => ∃ (k : Nat) (z : Int), k ≤ l.length ∧ v = .int .i64 k ∧ s = .int .i64 z ∧ Hid (z = (l.take k).sum)) (fun _ v => l.length - (intOf v).toNat)
  case atStart => exact ⟨0, 0, Nat.zero_le _, rfl, rfl, by show _ = _; simp⟩
  case round =>
    obtain ⟨k, z, hk, rfl, rfl, hz⟩ := hrel
    by_cases hlt : k < l.length
    · obtain ⟨b1, o1, rfl, hc'⟩ := HA.out.at (by omega)
      have hc := hc' k hlt
      have hs := sum_take_succ l k hlt
      have hb1 := sum_take_le HM.out (k + 1)
      have hb0 := sum_take_le HM.out k
      clear hc'
      obtain ⟨x, hx⟩ : ∃ x, l.getD k 0 = x := ⟨_, rfl⟩
      simp only [hx] at hc hs
      clear hx
      have hw : IntKind.i64.wrap (z + x) = z + x := by rw [IntKind.wrap_i64]; have := hz.out; omega
      have hw' : RowKit.wrap64 (z + x) = z + x := by have := hz.out; unfold RowKit.wrap64; omega
      have HS := hidP (show z + x = (l.take (k + 1)).sum by rw [hs, hz.out])
      clear hs hb1 hb0 hz
      go_wp2
      go_round
      case rel => exact ⟨k + 1, z + x, by omega, by go_num, by first | rfl | (rw [hw]) | (rw [hw']), HS⟩
      case measure => simp [intOf]; omega
    · obtain rfl : k = l.length := by omega
      have hz2 := hz.out
      rw [List.take_length] at hz2
      subst hz2
      go_wp2
      go_ret
      exact ⟨rfl, rfl⟩

theorem mono_Degree {a : Value} {l : List Int} {w : World} (ha : SeesI w a l) :
    Calls Try.prog 17 #[a] w fun e w' => e = .returned (.int .i64 (degL l)) ∧ w = w' := by
  have C1 := hidP (mono_areExponents ha)
  have C2 := hidP (fun h => mono_sum ha h)
  have HD := hidP (show degL l = if mayB l = true then l.sum else 0 from rfl)
  obtain ⟨d, hd⟩ : ∃ d, degL l = d := ⟨_, rfl⟩
  rw [hd] at HD ⊢
  clear hd ha
  cases hm : mayB l with
  | true =>
    have C3 := hidP (C2.out hm)
    have hd := HD.out
    rw [hm] at C1 hd
    rw [if_pos rfl] at hd
    subst hd
    clear C2 HD hm
    go_enter Try.func17, Try.ntmps17
    go_wp2_with fail
    refine C1.out.mono ?_
    rintro e w0 ⟨rfl, rfl⟩
    go_wp2_with fail
    refine C3.out.mono ?_
    rintro e w0 ⟨rfl, rfl⟩
    go_wp2
    go_ret
    exact ⟨rfl, rfl⟩
  | false =>
    have hd := HD.out
    rw [hm] at C1 hd
    rw [if_neg (by decide)] at hd
    subst hd
    clear C2 HD hm
    go_enter Try.func17, Try.ntmps17
    go_wp2_with fail
    refine C1.out.mono ?_
    rintro e w0 ⟨rfl, rfl⟩
    go_wp2
    go_ret
    exact ⟨rfl, rfl⟩

theorem ref_Degree {a : Value} {l : List Int} {w : World} (ha : SeesI w a l) :
    Calls Try.prog 18 #[a] w fun e w' => e = .returned (.int .i64 (degL l)) ∧ w = w' := by
  have C1 := hidP (ref_May ha)
  have HD := hidP (show degL l = if mayB l = true then l.sum else 0 from rfl)
  obtain ⟨d, hd⟩ : ∃ d, degL l = d := ⟨_, rfl⟩
  rw [hd] at HD ⊢
  clear hd
  have hlen := ha.len
  have HA := hidP ha
  obtain ⟨A, ca, rfl, hcap⟩ := SeesF.form ha
  clear ha
  cases hm : mayB l with
  | true =>
    have HM := hidP hm
    have hd := HD.out
    rw [hm] at C1 hd
    rw [if_pos rfl] at hd
    subst hd
    clear HD hm
    go_enter Try.func18, Try.ntmps18
    go_wp2_with fail
    refine C1.out.mono ?_
    rintro e w0 ⟨rfl, rfl⟩
    go_wp2
    go_loop [3, 4] (fun s v => ∃ (k : Nat) (z : Int), k ≤ l.length ∧ v = .int .i64 k ∧ s = .int .i64 z ∧ Hid (z = (l.take k).sum)) (fun _ v => l.length - (intOf v).toNat)
    case atStart => exact ⟨0, 0, Nat.zero_le _, rfl, rfl, by show _ = _; simp⟩
    case round =>
      obtain ⟨k, z, hk, rfl, rfl, hz⟩ := hrel
      by_cases hlt : k < l.length
      · obtain ⟨b1, o1, rfl, hc'⟩ := HA.out.at (by omega)
        have hc := hc' k hlt
        have hs := sum_take_succ l k hlt
        have hb1 := sum_take_le HM.out (k + 1)
        have hb0 := sum_take_le HM.out k
        clear hc'
        obtain ⟨x, hx⟩ : ∃ x, l.getD k 0 = x := ⟨_, rfl⟩
        simp only [hx] at hc hs
        clear hx
        have hw : IntKind.i64.wrap (z + x) = z + x := by rw [IntKind.wrap_i64]; have := hz.out; omega
        have hw' : RowKit.wrap64 (z + x) = z + x := by have := hz.out; unfold RowKit.wrap64; omega
        have HS := hidP (show z + x = (l.take (k + 1)).sum by rw [hs, hz.out])
        clear hs hb1 hb0 hz
        go_wp2
        go_round
        case rel => exact ⟨k + 1, z + x, by omega, by go_num, by first | rfl | (rw [hw]) | (rw [hw']), HS⟩
        case measure => simp [intOf]; omega
      · obtain rfl : k = l.length := by omega
        have hz2 := hz.out
        rw [List.take_length] at hz2
        subst hz2
        go_wp2
        go_ret
        exact ⟨rfl, rfl⟩
  | false =>
    have hd := HD.out
    rw [hm] at C1 hd
    rw [if_neg (by decide)] at hd
    subst hd
    clear HD hm
    go_enter Try.func18, Try.ntmps18
    go_wp2_with fail
    refine C1.out.mono ?_
    rintro e w0 ⟨rfl, rfl⟩
    go_wp2
    go_ret
    exact ⟨rfl, rfl⟩
end Go.Proofs.Ythlldjknmdndoaa
