/- modular.Deriv and modular.Eval by their contracts, by a prime. -/
import Derived.Test.YtokdcgmjpnanoaaJaJ

set_option linter.unusedVariables false
set_option linter.unusedSimpArgs false
namespace Go.Proofs.Ytokdcgmjpnanoaa
open Go.RowKit

/-- The derivative. -/
def pder (f : List Int) : List Int := (List.range (f.length - 1)).map (fun i => f.getD (i + 1) 0 * ((i : Int) + 1))
theorem getD_pder (f : List Int) (i : Nat) : (pder f).getD i 0 = f.getD (i + 1) 0 * ((i : Int) + 1) := by
  unfold pder
  rw [getD_map_range]
  split
  · rfl
  · rw [getD_over' f (i + 1) (by omega), Int.zero_mul]

set_option maxRecDepth 100000 in
set_option maxHeartbeats 2000000 in
theorem mod_Deriv {vf : Value} {q : Nat} {f : List Int} {w : World} (hf : SeesI w vf f) (hlf : f.length ≤ 65536) (hq : IsP q) :
    Calls Try.prog 58 #[vf, .int .i64 q] w fun e w' => Tells (nf q (pder f)) w e w' := by
  obtain ⟨hq0, hq2⟩ := isP_bounds hq
  have IS := hidP (fun w => is_prime hq w)
  have S : Hid (∀ v g' l w, Mine w g' v l → Calls Try.prog 87 #[v, .int .i64 q] w fun e w' => ∃ v', e = .returned v' ∧ Mine w' g' v' (nf q l) ∧ w.grownBy w' (some g')) := fun v g' l w h => mod_settle h hq0 hq2
  have HR : Hid (∀ (z : Int) w, Calls Try.prog 88 #[.int .i64 z, .int .i64 q] w fun e w' => e = .returned (.int .i64 (z % (q : Int))) ∧ w = w') := fun z w => mod_residue z q (by omega) (by omega) w
  have HF : Hid (∀ w1, Below w.heap.size w w1 → SeesI w1 vf f) := fun w1 h => SeesI.below hf h
  obtain ⟨A, ca, rfl, hcap⟩ := SeesF.form hf
  clear hf hq
  by_cases hz : f.length = 0
  · have f0 : f = [] := List.eq_nil_of_length_eq_zero hz
    subst f0
    have hmk := run_make_row' (P := Try.prog) 22 3 (.int .i64 0) 8 Try.underlying22 info_int rfl .i64 .i64 0 (by omega) (by omega)
    simp only [Int.natCast_zero] at hmk
    have HE : Hid (nf q (pder []) = nf q (List.replicate 0 0)) := rfl
    rw [HE.out]
    clear hz
    go_enter Try.func58, Try.ntmps58
    go_wp2_with fail
    refine (IS.out _).mono ?_
    rintro e w1 ⟨rfl, hb1⟩
    have B1 := hidP hb1
    clear hb1
    have HM := hidP (Mine.made w1 0 (by omega))
    have B2 := hidP (step_below B1.out ((Below.refl w1.heap.size w1).alloc (Nat.le_refl _) (.cells (madeCells #[.int .i64 0] 0) 3)))
    obtain ⟨G, hG⟩ : ∃ G, G = w1.heap.size := ⟨_, rfl⟩
    have HGe : Hid (w.heap.size ≤ G) := by show _ ≤ _; rw [hG]; exact B1.out.size
    rw [← hG] at HM
    have HGq := hidP hG
    clear hG
    go_wp2_with fail
    rw [← HGq.out]
    obtain ⟨Y, hY⟩ : ∃ Y, Y = w1.alloc (.cells (madeCells #[.int .i64 0] 0) 3) := ⟨_, rfl⟩
    rw [← hY] at HM B2 ⊢
    have CS := hidP (S.out _ _ _ _ HM.out)
    clear hmk hY HM
    refine wp_loop_rounds 1 ?_
    rw [rounds_succ]
    go_wp2_with fail
    refine CS.out.mono ?_
    rintro e w2 ⟨v2, rfl, hm2, hgr2⟩
    have HM2 := hidP hm2.sees
    have HB2 := hidP (below_in B2.out hgr2 HGe.out)
    clear hm2 hgr2
    go_wp2_with fail
    go_ret
    exact ⟨_, rfl, HM2.out, HB2.out⟩
  · obtain ⟨N, hN⟩ : ∃ N, f.length = N + 1 := ⟨f.length - 1, by omega⟩
    have hmk := run_make_row' (P := Try.prog) 22 3 (.int .i64 0) 8 Try.underlying22 info_int rfl .i64 .i64 N (by omega) (by omega)
    have e1 : (f.length : Int) - 1 = (N : Int) := by omega
    have hw1 : IntKind.i64.wrap (N : Int) = (N : Int) := by rw [IntKind.wrap_i64]; omega
    have hN6 : N ≤ 65536 := by omega
    have HN := hidP hN
    clear hN hz
    go_enter Try.func58, Try.ntmps58
    go_wp2_with fail
    refine (IS.out _).mono ?_
    rintro e w1 ⟨rfl, hb1⟩
    have B1 := hidP hb1
    clear hb1
    have HRow := hidP (RowW.made w1 N)
    have B2 := hidP (step_below B1.out ((Below.refl w1.heap.size w1).alloc (Nat.le_refl _) (.cells (madeCells #[.int .i64 0] N) 3)))
    obtain ⟨G, hG⟩ : ∃ G, G = w1.heap.size := ⟨_, rfl⟩
    have HGe : Hid (w.heap.size ≤ G) := by show _ ≤ _; rw [hG]; exact B1.out.size
    rw [← hG] at HRow
    have HGq := hidP hG
    clear hG
    go_wp2_with fail
    rw [← HGq.out]
    obtain ⟨Y, hY⟩ : ∃ Y, Y = w1.alloc (.cells (madeCells #[.int .i64 0] N) 3) := ⟨_, rfl⟩
    rw [← hY] at HRow B2 ⊢
    clear hmk hY
    go_loopw [17] (fun v wr => ∃ k : Nat, k ≤ N ∧ v = .int .i64 k ∧ Hid (∃ l, RowW wr G l ∧ l.length = N ∧ ∀ i, l.getD i 0 = if i < k then (f.getD (i + 1) 0 % (q : Int)) * (((i : Int) + 1) % (q : Int)) else 0) ∧ Hid (Below w.heap.size w wr)) (fun v _ => N - (intOf v).toNat)
    case atStart => exact ⟨0, Nat.zero_le _, rfl, ⟨_, HRow.out, List.length_replicate, fun i => by rw [if_neg (by omega), List.getD_eq_getElem?_getD, List.getElem?_replicate]; split <;> rfl⟩, B2⟩
    case round =>
      obtain ⟨k, hk, rfl, hl, hB⟩ := hrel
      by_cases hlt : k < N
      · obtain ⟨l, l1, l2, l3⟩ := hl.out
        obtain ⟨b1, o1, e2, hc1'⟩ := (HF.out _ hB.out).at (by have := HN.out; omega)
        subst e2
        have hc1 := hc1' (k + 1) (by have := HN.out; omega)
        have hfr := l1.frozen k
        have hcl := l1.cell (i := k) (by omega)
        have hset := l1.set (i := k) (by omega) ((f.getD (k + 1) 0 % (q : Int)) * (((k : Int) + 1) % (q : Int)))
        have h3' : ∀ i, (l.set k ((f.getD (k + 1) 0 % (q : Int)) * (((k : Int) + 1) % (q : Int)))).getD i 0 = if i < k + 1 then (f.getD (i + 1) 0 % (q : Int)) * (((i : Int) + 1) % (q : Int)) else 0 := by
          intro i
          rw [getD_set', l2]
          by_cases h : k = i ∧ i < N
          · rw [if_pos h, ← h.1, if_pos (by omega)]
          · rw [if_neg h, l3]
            by_cases h2 : i < k
            · rw [if_pos h2, if_pos (by omega)]
            · rw [if_neg h2, if_neg (by omega)]
        have m1 := Int.emod_nonneg (f.getD (k + 1) 0) (show (q : Int) ≠ 0 by omega)
        have m2 := Int.emod_lt_of_pos (f.getD (k + 1) 0) (show (0 : Int) < q by omega)
        have m3 := Int.emod_nonneg ((k : Int) + 1) (show (q : Int) ≠ 0 by omega)
        have m4 := Int.emod_lt_of_pos ((k : Int) + 1) (show (0 : Int) < q by omega)
        have hbd := prod_bound m1 m2 m3 m4 hq2
        have C1 := hidP fun w => HR.out (f.getD (k + 1) 0) w
        have C2 := hidP fun w => HR.out ((k : Int) + 1) w
        obtain ⟨y0, hy0⟩ : ∃ y0, l.getD k 0 = y0 := ⟨_, rfl⟩
        rw [hy0] at hcl
        obtain ⟨x, hx⟩ : ∃ x, f.getD (k + 1) 0 = x := ⟨_, rfl⟩
        simp only [hx] at hc1 hset h3' hbd C1
        obtain ⟨y, hy⟩ : ∃ y, x % (q : Int) = y := ⟨_, rfl⟩
        obtain ⟨u, hu⟩ : ∃ u, ((k : Int) + 1) % (q : Int) = u := ⟨_, rfl⟩
        simp only [hy, hu] at hset hbd C1 C2
        obtain ⟨z, hz⟩ : ∃ z, y * u = z := ⟨_, rfl⟩
        rw [hz] at hset hbd
        have hwz : IntKind.i64.wrap z = z := by rw [IntKind.wrap_i64]; omega
        have HLn : Hid (∃ l, RowW (wr.setCell ⟨G, k, none⟩ (.int .i64 z)) G l ∧ l.length = N ∧ ∀ i, l.getD i 0 = if i < k + 1 then (f.getD (i + 1) 0 % (q : Int)) * (((i : Int) + 1) % (q : Int)) else 0) := ⟨_, hset, by rw [List.length_set]; exact l2, by simp only [hy, hu, hz] at h3'; exact h3'⟩
        have HBn : Hid (Below w.heap.size w (wr.setCell ⟨G, k, none⟩ (.int .i64 z))) := hB.out.setCell (by exact HGe.out) _
        have hk1 : IntKind.i64.wrap ((k : Int) + 1) = (k : Int) + 1 := by rw [IntKind.wrap_i64]; omega
        have hk2 : (k : Int) + 1 < (f.length : Int) := by have := HN.out; omega
        have h0k : 0 + k = k := Nat.zero_add k
        have hok : o1 + (k + 1) = o1 + (k + 1) := rfl
        clear hl l1 l2 l3 hc1' hset h3' m1 m2 m3 m4 hbd hy0 hx hy hu
        go_wp2_with fail
        refine (C1.out _).mono ?_
        rintro e w2 ⟨rfl, rfl⟩
        go_wp2_with fail
        refine (C2.out _).mono ?_
        rintro e w2 ⟨rfl, rfl⟩
        go_wp2_with fail
        go_roundw
        case rel => exact ⟨k + 1, by omega, by go_num, HLn, HBn⟩
        case measure => simp [intOf]; omega
      · obtain rfl : k = N := by omega
        obtain ⟨l, l1, l2, l3⟩ := hl.out
        have HE : Hid (nf q l = nf q (pder f)) := by
          refine nf_eq (cf_E fun i => ?_)
          rw [l3, getD_pder]
          split
          · rw [← Int.mul_emod]
          · rw [getD_over' f _ (by have := HN.out; omega), Int.zero_mul]
        have CS := hidP (S.out (.slice (some ⟨G, 0, none⟩) k k) G l wr ⟨_, k, by rw [l2], by omega, by omega, (fun e => by cases e), fun _ => ⟨rfl, l1⟩⟩)
        rw [HE.out] at CS
        clear hl l1 l2 l3
        go_wp2_with fail
        refine CS.out.mono ?_
        rintro e w2 ⟨v2, rfl, hm2, hgr2⟩
        have HM2 := hidP hm2.sees
        have HB2 := hidP (below_in hB.out hgr2 HGe.out)
        clear hm2 hgr2
        go_wp2_with fail
        go_ret
        exact ⟨_, rfl, HM2.out, HB2.out⟩
end Go.Proofs.Ytokdcgmjpnanoaa
