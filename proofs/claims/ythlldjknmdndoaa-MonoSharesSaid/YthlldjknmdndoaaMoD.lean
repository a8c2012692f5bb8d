/- slices.Compare over ints, mono.firstDifference, mono.lastDifference: by their contracts. -/
import Derived.Test.YthlldjknmdndoaaMoC
set_option linter.unusedVariables false
set_option linter.unusedSimpArgs false
namespace Go.Proofs.Ythlldjknmdndoaa
open Go.RowKit

set_option maxHeartbeats 1000000 in
theorem slices_Compare {a b : Value} {l m : List Int} {w : World} (ha : SeesI w a l) (hb : SeesI w b m) (hl : l.length = m.length) :
    Calls Try.prog 57 #[a, b] w fun e w' => e = .returned (.int .i64 (sgnL (List.zipWith (· - ·) l m))) ∧ w = w' := by
  have hlen := ha.len
  have HA := hidP ha
  have HB := hidP hb
  obtain ⟨A, ca, rfl, hcap⟩ := SeesF.form ha
  obtain ⟨B, cb, rfl, hcap2⟩ := SeesF.form hb
  clear ha hb
  obtain ⟨n, hn⟩ : ∃ n, m.length = n := ⟨_, rfl⟩
  have HL := hidP hl
  have HN := hidP hn
  rw [hn] at hl hcap2 ⊢
  rw [hl] at hlen hcap ⊢
  have HLn := hidP hl
  clear hl hn
  go_enter Try.func57, Try.ntmps57
  go_wp2
  go_loop [11] (fun v => ∃ k : Nat, k ≤ n ∧ v = .int .i64 k ∧ Hid (∀ i, i < k → l.getD i 0 = m.getD i 0)) (fun v => n - (intOf v).toNat)
  case atStart => exact ⟨0, Nat.zero_le _, rfl, fun i hi => absurd hi (by omega)⟩
  case round =>
    obtain ⟨k, hk, rfl, hz⟩ := hrel
    by_cases hlt : k < n
    · obtain ⟨b1, o1, rfl, hc1'⟩ := HA.out.at (by have := HLn.out; omega)
      obtain ⟨b2, o2, rfl, hc2'⟩ := HB.out.at (by have := HN.out; omega)
      have hc1 := hc1' k (by have := HLn.out; omega)
      have hc2 := hc2' k (by have := HN.out; omega)
      have HZ : Hid (l.getD k 0 = m.getD k 0 → ∀ i, i < k + 1 → l.getD i 0 = m.getD i 0) := fun h i hi => by
        by_cases e : i = k
        · subst e; exact h
        · exact hz.out i (by omega)
      have HNE : Hid (l.getD k 0 ≠ m.getD k 0 → sgnL (List.zipWith (· - ·) l m) = sgn (l.getD k 0 - m.getD k 0)) := fun h => lex_at HL.out (by have := HLn.out; omega) hz.out h
      clear hc1' hc2' hz
      obtain ⟨x, hx⟩ : ∃ x, l.getD k 0 = x := ⟨_, rfl⟩
      obtain ⟨y, hy⟩ : ∃ y, m.getD k 0 = y := ⟨_, rfl⟩
      rw [hx] at hc1
      rw [hy] at hc2
      rw [hx, hy] at HZ HNE
      clear hx hy
      have C1 := hidP (cmp_Compare x y)
      obtain ⟨s, hs⟩ : ∃ s, sgn (x - y) = s := ⟨_, rfl⟩
      have HS := hidP hs
      rw [hs] at C1 HNE
      clear hs
      have hge : ¬ (k : Int) ≥ n := by omega
      by_cases h0 : s = 0
      · have he : x = y := by
          have := HS.out; rw [h0, sgn_eq_zero] at this; omega
        have HZ2 := hidP (HZ.out he)
        subst h0
        clear HZ HNE HS he
        go_wp2_with fail
        refine (C1.out _).mono ?_
        rintro e w0 ⟨rfl, rfl⟩
        go_wp2
        go_round
        case rel => exact ⟨k + 1, by omega, by go_num, HZ2⟩
        case measure => simp [intOf]; omega
      · have hne : x ≠ y := fun e => by
          have := HS.out; rw [e, Int.sub_self] at this; exact h0 (by rw [← this]; rfl)
        have HN2 := hidP (HNE.out hne)
        have h0' : (s != 0) = true := by simpa using h0
        clear HZ HNE HS hne
        go_wp2_with fail
        refine (C1.out _).mono ?_
        rintro e w0 ⟨rfl, rfl⟩
        go_wp2
        go_ret
        exact ⟨ret_int HN2.out.symm, rfl⟩
    · have HE := hidP (lex_none HL.out (fun i hi => hz.out i (by have := HLn.out; omega)))
      clear hz
      go_wp2
      go_ret
      exact ⟨ret_int HE.out.symm, rfl⟩

theorem mono_first {a b : Value} {l m : List Int} {w : World} (ha : SeesI w a l) (hb : SeesI w b m) (hl : l.length = m.length) :
    Calls Try.prog 51 #[a, b] w fun e w' => Reads (.int .i64 (sgnL (List.zipWith (· - ·) l m))) w e w' := by
  have C1 := hidP (slices_Compare ha hb hl)
  clear ha hb hl
  go_enter Try.func51, Try.ntmps51
  go_wp2_with fail
  refine C1.out.mono ?_
  rintro e w0 ⟨rfl, rfl⟩
  go_wp2
  go_ret
  exact ⟨rfl, ⟨0, rfl⟩⟩

/-- By the last that differs. -/
theorem mono_last {a b : Value} {l m : List Int} {w : World} (ha : SeesI w a l) (hb : SeesI w b m) (hl : l.length = m.length) :
    Calls Try.prog 52 #[a, b] w fun e w' => Reads (.int .i64 (sgnL ((List.zipWith (· - ·) l m).reverse.map (fun x => -x)))) w e w' := by
  have hlen := ha.len
  have HA := hidP ha
  have HB := hidP hb
  obtain ⟨A, ca, rfl, hcap⟩ := SeesF.form ha
  obtain ⟨B, cb, rfl, hcap2⟩ := SeesF.form hb
  clear ha hb
  obtain ⟨n, hn⟩ : ∃ n, m.length = n := ⟨_, rfl⟩
  have HL := hidP hl
  have HN := hidP hn
  rw [hn] at hl hcap2 ⊢
  rw [hl] at hlen hcap ⊢
  have HLn := hidP hl
  clear hl hn
  go_enter Try.func52, Try.ntmps52
  go_wp2
  go_loopw [5] (fun v wr => ∃ k d : Nat, k ≤ n ∧ v = .int .i64 ((k : Int) - 1) ∧ wr = w.drewN d ∧ Hid (∀ i, k ≤ i → i < n → l.getD i 0 = m.getD i 0)) (fun v _ => (intOf v + 1).toNat)
  case atStart => exact ⟨n, 0, Nat.le_refl _, by first | rfl | (congr 1; omega), rfl, fun i hi hi' => absurd hi (by omega)⟩
  case round =>
    obtain ⟨k, d, hk, rfl, rfl, hz⟩ := hrel
    by_cases hlt : 0 < k
    · obtain ⟨j, rfl⟩ : ∃ j, k = j + 1 := ⟨k - 1, by omega⟩
      rw [show (((j + 1 : Nat) : Int) - 1) = (j : Int) by omega]
      obtain ⟨b1, o1, rfl, hc1'⟩ := HA.out.at (by have := HLn.out; omega)
      obtain ⟨b2, o2, rfl, hc2'⟩ := HB.out.at (by have := HN.out; omega)
      have hc1 := hc1' j (by have := HLn.out; omega)
      have hc2 := hc2' j (by have := HN.out; omega)
      have HZ : Hid (l.getD j 0 = m.getD j 0 → ∀ i, j ≤ i → i < n → l.getD i 0 = m.getD i 0) := fun h i hi hi' => by
        by_cases e : i = j
        · subst e; exact h
        · exact hz.out i (by omega) hi'
      have HNE : Hid (l.getD j 0 ≠ m.getD j 0 → sgnL ((List.zipWith (· - ·) l m).reverse.map (fun x => -x)) = sgn (m.getD j 0 - l.getD j 0)) := fun h => last_at HL.out (by have := HLn.out; omega) (fun i h1 h2 => hz.out i (by omega) (by have := HLn.out; omega)) h
      clear hc1' hc2' hz
      obtain ⟨x, hx⟩ : ∃ x, l.getD j 0 = x := ⟨_, rfl⟩
      obtain ⟨y, hy⟩ : ∃ y, m.getD j 0 = y := ⟨_, rfl⟩
      rw [hx] at hc1
      rw [hy] at hc2
      rw [hx, hy] at HZ HNE
      clear hx hy
      have hjn : (j : Int) < n := by omega
      have hj0 : (j : Int) ≥ 0 := by omega
      by_cases he : x = y
      · have HZ2 := hidP (HZ.out he)
        subst he
        clear HZ HNE
        go_wp2
        go_quiet (fail)
        go_wp2
        go_roundw
        case rel => exact ⟨j, d + nq, by omega, by first | rfl | go_num | (congr 1; omega), rfl, HZ2⟩
        case measure => simp [intOf] <;> omega
      · have HN2 := hidP (HNE.out he)
        have hxy : (x != y) = true := by simpa using he
        clear HZ HNE
        go_wp2
        go_quiet (fail)
        go_wp2
        rw [World.drewN_drewN]
        go_quiet ((go_at_call 53; exact (cmp_Compare _ _ _).mono fun _ _ ⟨h1, h2⟩ => ⟨h1, _, h2.symm⟩))
        go_wp2
        go_ret
        exact ⟨ret_int HN2.out.symm, ⟨_, World.drewN_drewN _ _ _⟩⟩
    · obtain rfl : k = 0 := by omega
      have HE := hidP (last_none HL.out (fun i hi => hz.out i (by omega) (by have := HLn.out; omega)))
      clear hz
      go_wp2
      go_ret
      exact ⟨ret_int HE.out.symm, ⟨_, rfl⟩⟩
end Go.Proofs.Ythlldjknmdndoaa
