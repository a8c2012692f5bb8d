/- The document's grevlex: by its contract. -/
import Derived.Test.YthlldjknmdndoaaMoE
set_option linter.unusedVariables false
set_option linter.unusedSimpArgs false
namespace Go.Proofs.Ythlldjknmdndoaa
open Go.RowKit

set_option maxHeartbeats 1000000 in
theorem ref_grevlex {a b : Value} {l m : List Int} {w : World} (ha : SeesI w a l) (hb : SeesI w b m) (hl : l.length = m.length) (hm1 : mayB l = true) (hm2 : mayB m = true) :
    Calls Try.prog 41 #[a, b] w fun e w' => Reads (.int .i64 (cmpL 2 0 l m)) w e w' := by
  have hlen := ha.len
  have HA := hidP ha
  have HB := hidP hb
  have C1 := hidP (ref_Degree ha)
  have C2 := hidP (ref_Degree hb)
  have d1 : degL l = l.sum := by unfold degL; rw [if_pos hm1]
  have d2 : degL m = m.sum := by unfold degL; rw [if_pos hm2]
  rw [d1] at C1
  rw [d2] at C2
  have C3 := hidP (ref_sign l.sum m.sum)
  have HG := hidP (cmpL_grevlex 0 hl)
  obtain ⟨R, hR⟩ : ∃ R, cmpL 2 0 l m = R := ⟨_, rfl⟩
  rw [hR] at HG ⊢
  obtain ⟨s, hs⟩ : ∃ s, sgn (l.sum - m.sum) = s := ⟨_, rfl⟩
  rw [hs] at HG C3
  obtain ⟨x, hx⟩ : ∃ x, l.sum = x := ⟨_, rfl⟩
  obtain ⟨y, hy⟩ : ∃ y, m.sum = y := ⟨_, rfl⟩
  rw [hx] at C1 C3
  rw [hy] at C2 C3
  obtain ⟨A, ca, rfl, hcap⟩ := SeesF.form ha
  obtain ⟨B, cb, rfl, hcap2⟩ := SeesF.form hb
  obtain ⟨n, hn⟩ : ∃ n, m.length = n := ⟨_, rfl⟩
  have HL := hidP hl
  have HN := hidP hn
  rw [hn] at hl hcap2 C2 ⊢
  rw [hl] at hlen hcap C1 ⊢
  have HLn := hidP hl
  clear hl hn ha hb d1 d2 hR hs hx hy hm1 hm2
  by_cases h0 : s = 0
  · subst h0
    have hG := HG.out
    rw [if_pos rfl] at hG
    have HR := hidP hG
    clear HG hG
    go_enter Try.func41, Try.ntmps41
    go_wp2_with fail
    refine C1.out.mono ?_
    rintro e w0 ⟨rfl, rfl⟩
    go_wp2_with fail
    refine C2.out.mono ?_
    rintro e w0 ⟨rfl, rfl⟩
    go_wp2_with fail
    refine (C3.out _).mono ?_
    rintro e w0 ⟨rfl, rfl⟩
    go_wp2
    go_loopw [5, 6] (fun c v wr => ∃ (k d : Nat) (z : Int), k ≤ n ∧ v = .int .i64 ((k : Int) - 1) ∧ c = .int .i64 z ∧ wr = w.drewN d ∧ Hid ((z = 0 ∧ ∀ i, k ≤ i → i < n → l.getD i 0 = m.getD i 0) ∨ (z ≠ 0 ∧ z = R))) (fun _ v _ => (intOf v + 1).toNat)
    case atStart => exact ⟨n, 0, 0, Nat.le_refl _, by first | rfl | (congr 1; omega), rfl, rfl, .inl ⟨rfl, fun i hi hi' => absurd hi (by omega)⟩⟩
    case round =>
      obtain ⟨k, d, z, hk, rfl, rfl, rfl, hz⟩ := hrel
      by_cases hlt : 0 < k
      · obtain ⟨j, rfl⟩ : ∃ j, k = j + 1 := ⟨k - 1, by omega⟩
        rw [show (((j + 1 : Nat) : Int) - 1) = (j : Int) by omega]
        have hjn : (j : Int) < n := by omega
        have hj0 : (j : Int) ≥ 0 := by omega
        by_cases hz0 : z = 0
        · subst hz0
          have hz' : ∀ i, j + 1 ≤ i → i < n → l.getD i 0 = m.getD i 0 := by
            rcases hz.out with ⟨-, h⟩ | ⟨h, -⟩
            · exact h
            · exact absurd rfl h
          obtain ⟨b1, o1, rfl, hc1'⟩ := HA.out.at (by have := HLn.out; omega)
          obtain ⟨b2, o2, rfl, hc2'⟩ := HB.out.at (by have := HN.out; omega)
          have hc1 := hc1' j (by have := HLn.out; omega)
          have hc2 := hc2' j (by have := HN.out; omega)
          have HZ : Hid (l.getD j 0 = m.getD j 0 → ∀ i, j ≤ i → i < n → l.getD i 0 = m.getD i 0) := fun h i hi hi' => by
            by_cases e : i = j
            · subst e; exact h
            · exact hz' i (by omega) hi'
          have HNE : Hid (l.getD j 0 ≠ m.getD j 0 → sgnL ((List.zipWith (· - ·) l m).reverse.map (fun x => -x)) = sgn (m.getD j 0 - l.getD j 0)) := fun h => last_at HL.out (by have := HLn.out; omega) (fun i h1 h2 => hz' i (by omega) (by have := HLn.out; omega)) h
          clear hc1' hc2' hz hz'
          obtain ⟨x, hx⟩ : ∃ x, l.getD j 0 = x := ⟨_, rfl⟩
          obtain ⟨y, hy⟩ : ∃ y, m.getD j 0 = y := ⟨_, rfl⟩
          rw [hx] at hc1
          rw [hy] at hc2
          rw [hx, hy] at HZ HNE
          clear hx hy
          have C4 := hidP (ref_sign y x)
          obtain ⟨t, ht⟩ : ∃ t, sgn (y - x) = t := ⟨_, rfl⟩
          have HT := hidP ht
          rw [ht] at C4 HNE
          have HI : Hid ((t = 0 ∧ ∀ i, j ≤ i → i < n → l.getD i 0 = m.getD i 0) ∨ (t ≠ 0 ∧ t = R)) := by
            by_cases e : x = y
            · exact .inl ⟨by rw [← ht, e, Int.sub_self]; rfl, HZ.out e⟩
            · exact .inr ⟨fun h => e (by rw [h, sgn_eq_zero] at ht; omega), by rw [HR.out, HNE.out e]⟩
          clear HZ HNE HT ht
          go_wp2
          go_quiet ((go_at_call 40; exact (C4.out _).mono fun _ _ ⟨h1, h2⟩ => ⟨h1, _, h2.symm⟩))
          go_wp2
          go_roundw
          case rel => exact ⟨j, d + nq, t, by omega, by first | rfl | go_num | (congr 1; omega), rfl, rfl, HI⟩
          case measure => simp [intOf] <;> omega
        · have hzR : z = R := by
            rcases hz.out with ⟨h, -⟩ | ⟨-, h⟩
            · exact absurd h hz0
            · exact h
          have HZR := hidP hzR
          have hz1 : (z == 0) = false := by simpa using hz0
          clear hz hzR hz0
          go_wp2
          go_ret
          exact ⟨ret_int HZR.out, ⟨_, rfl⟩⟩
      · obtain rfl : k = 0 := by omega
        have HZR : Hid (z = R) := by
          rcases hz.out with ⟨h, h2⟩ | ⟨-, h⟩
          · show z = R
            rw [h, HR.out]
            exact (last_none HL.out (fun i hi => h2 i (by omega) (by have := HLn.out; omega))).symm
          · exact h
        clear hz
        go_wp2
        go_ret
        exact ⟨ret_int HZR.out, ⟨_, rfl⟩⟩
  · have hG := HG.out
    rw [if_neg h0] at hG
    subst hG
    have h0' : (R == 0) = false := by simpa using h0
    clear HG h0
    go_enter Try.func41, Try.ntmps41
    go_wp2_with fail
    refine C1.out.mono ?_
    rintro e w0 ⟨rfl, rfl⟩
    go_wp2_with fail
    refine C2.out.mono ?_
    rintro e w0 ⟨rfl, rfl⟩
    go_wp2_with fail
    refine (C3.out _).mono ?_
    rintro e w0 ⟨rfl, rfl⟩
    go_wp2
    go_loopw [5, 6] (fun c v wr => c = .int .i64 R ∧ v = .int .i64 ((n : Int) - 1) ∧ wr = w) (fun _ v _ => (intOf v + 1).toNat)
    case atStart => exact ⟨rfl, rfl, rfl⟩
    case round =>
      obtain ⟨rfl, rfl, rfl⟩ := hrel
      by_cases hn : 1 ≤ n
      · have hn2 : (n : Int) - 1 ≥ 0 := by omega
        go_wp2
        go_ret
        exact ⟨rfl, ⟨0, rfl⟩⟩
      · have hn2 : ¬ (n : Int) - 1 ≥ 0 := by omega
        go_wp2
        go_ret
        exact ⟨rfl, ⟨0, rfl⟩⟩
end Go.Proofs.Ythlldjknmdndoaa
