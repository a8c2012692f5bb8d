/- The document's Sorted by its contract. -/
import Derived.Test.YtokdcgmjpnanoaaSuA

set_option linter.unusedVariables false
set_option linter.unusedSimpArgs false
namespace Go.Proofs.Ytokdcgmjpnanoaa
open Go.RowKit

theorem SeesL.one {w : World} {x : Value} {f : List Int} (h : SeesI w x f) : SeesL (w.alloc (.cells #[x] 22)) (.slice (some ⟨w.heap.size, 0, none⟩) 1 1) [f] := by
  refine ⟨[x], rfl, SeesF.lit (f := id) (d := vNil) w 22 [x] (by simp), fun i hi => ?_⟩
  obtain rfl : i = 0 := by simp at hi; omega
  exact SeesI.below h ((Below.refl _ _).alloc (Nat.le_refl _) _)
def SortedTells (L : List (List Int)) (w : World) (e : Ending) (w' : World) : Prop := ∃ v L', e = .returned v ∧ SeesL w' v L' ∧ L'.Perm L ∧ SortedL L' ∧ Below w.heap.size w w'

set_option maxRecDepth 100000 in
set_option maxHeartbeats 4000000 in
theorem ref_Sorted {va : Value} {L : List (List Int)} {w : World} (ha : SeesL w va L) (hn : L.length ≤ 4096) :
    Calls Try.prog 23 #[va] w fun e w' => SortedTells L w e w' := by
  have HA : Hid (∀ w1, Below w.heap.size w w1 → SeesL w1 va L) := fun w1 h => ha.below h
  have CC : Hid (∀ w1 a b f h, SeesI w1 a f → SeesI w1 b h → Calls Try.prog 46 #[a, b] w1 fun e w' => Reads (.bool (bef f h)) w1 e w') := fun w1 a b f h h1 h2 => ref_Before h1 h2
  obtain ⟨A, ca, rfl, hcap⟩ := ha.form
  obtain ⟨n, hln⟩ : ∃ n, L.length = n := ⟨_, rfl⟩
  have HLn := hidP hln
  have HO0 := hidP (OwnsS.nil w.heap.size w)
  unfold vNil at HO0
  have HB0 : Hid (Below w.heap.size w w) := Below.refl _ _
  rw [hln] at hn hcap HA
  rw [hln]
  clear ha hln
  go_enter Try.func23, Try.ntmps23
  go_wp2
  go_loopg [3, 4, 5] n (fun gm v3 v4 v5 wr => ∃ i : Nat, v4 = .int .i64 i ∧ i ≤ n ∧ Hid (n - i = gm) ∧ Hid (∃ L', OwnsS w.heap.size wr v3 L' ∧ L'.Perm (L.take i) ∧ SortTo L' i ∧ L'.length = i) ∧ Hid (Below w.heap.size w wr))
  case atStart => exact ⟨0, by first | rfl | go_num, Nat.zero_le _, rfl, ⟨[], HO0.out, by simp, fun a b h1 h2 => by omega, rfl⟩, HB0⟩
  case round =>
    clear HO0 HB0
    obtain ⟨i, rfl, hi, hgm, hX, hB⟩ := hrel
    by_cases hlt : i < n
    · obtain ⟨b1, o1, x, rfl, hc1, hx⟩ := (HA.out wr hB.out).at (i := i) (by have := HLn.out; omega)
      obtain ⟨f, hf⟩ : ∃ f, L.getD i [] = f := ⟨_, rfl⟩
      rw [hf] at hx
      have HTk : Hid (L.take (i + 1) = L.take i ++ [f]) := by
        show _ = _
        rw [List.take_add_one, List.getElem?_eq_getElem (by have := HLn.out; omega), ← hf, List.getD_eq_getElem?_getD, List.getElem?_eq_getElem (by have := HLn.out; omega)]; rfl
      have h1 : (i : Int) < (n : Int) := by omega
      have z1 : 0 + i = i := Nat.zero_add i
      obtain ⟨L', a1, a2, a3, a4⟩ := hX.out
      have HMy := hidP (SeesL.one hx)
      have HOa : Hid (OwnsS w.heap.size (wr.alloc (.cells #[x] 22)) u3 L') := a1.below ((Below.refl _ _).alloc (Nat.le_refl _) _)
      have HSz : Hid (w.heap.size ≤ (wr.alloc (.cells #[x] 22)).heap.size) := by show _ ≤ _; have := hB.out.size; simp; omega
      have HBa : Hid (Below w.heap.size w (wr.alloc (.cells #[x] 22))) := hB.out.alloc hB.out.size _
      have HP := hidP a2
      have HS := hidP a3
      have HL' := hidP a4
      obtain ⟨ax, cx, rfl, hcx⟩ := SeesF.form hx
      obtain ⟨lx, hlx⟩ : ∃ lx, f.length = lx := ⟨_, rfl⟩
      rw [hlx] at hc1 HMy HOa HSz HBa
      clear hX hx hf a1 a2 a3 a4 hcx hlx hB
      go_wp2_with (at_builtin; refine wpList_append_list rfl _ _ rfl rfl HOa.out rfl HMy.out (by have := HL'.out; simp; omega) HSz.out ?_)
      intro v' w2 ho2 hg2 hk2
      have hlen : (L' ++ [f]).length = i + 1 := by have := HL'.out; simp; omega
      obtain ⟨g, c, e⟩ := ho2.isRow (by simp)
      rw [hlen] at e
      subst e
      have HB2 : Hid (Below w.heap.size w w2) := HBa.out.grown hg2 HSz.out (fun k e => by
        obtain ⟨ws, l1, l2, l3⟩ := HOa.out
        exact (l2.lt k e).1)
      have HXs : Hid (∃ L2, OwnsS w.heap.size w2 (.slice (some ⟨g, 0, none⟩) (i + 1) c) L2 ∧ L2.Perm (L.take (i + 1)) ∧ SortBut L2 (i + 1) i ∧ L2.length = i + 1) := by
        refine ⟨_, ho2, ?_, ?_, hlen⟩
        · rw [HTk.out]; exact HP.out.append_right _
        · refine SortTo.but fun a b hab hb => ?_
          have := HS.out a b hab hb
          rw [getD_appL, getD_appL, if_pos (by have := HL'.out; omega), if_pos (by have := HL'.out; omega)]
          exact this
      have HBg : Hid (w.heap.size ≤ g) := ho2.block.2.1
      obtain ⟨n1, hn1⟩ : ∃ n1, i + 1 = n1 := ⟨_, rfl⟩
      have HN1 := hidP hn1
      rw [hn1] at HXs
      have hk0 : (n1 : Int) - 1 = (i : Int) := by omega
      have hk1 : IntKind.i64.wrap (i : Int) = (i : Int) := by rw [IntKind.wrap_i64]; omega
      rw [hn1]
      clear ho2 hg2 hk2 HOa HMy HSz HBa HP HS HL' HTk hlen hn1 hc1
      go_wp2
      go_loopg [5] i (fun g2 v5 wy => ∃ j : Nat, v5 = .int .i64 j ∧ j ≤ i ∧ Hid (j = g2) ∧ Hid (∃ L2, OwnsS w.heap.size wy (.slice (some ⟨g, 0, none⟩) n1 c) L2 ∧ L2.Perm (L.take n1) ∧ SortBut L2 n1 j ∧ L2.length = n1) ∧ Hid (Below w.heap.size w wy))
      case atStart => exact ⟨i, by first | rfl | go_num, Nat.le_refl _, rfl, HXs, HB2⟩
      case round =>
        clear HXs HB2
        obtain ⟨j, rfl, hj, hjg, hX, hB⟩ := hrel
        obtain ⟨L2, a1, a2, a3, a4⟩ := hX.out
        rcases Nat.eq_zero_or_pos j with h0 | h0
        · subst h0
          have hj0 : ¬ ((0 : Nat) : Int) > 0 := by omega
          have HXn : Hid (∀ d, ∃ L', OwnsS w.heap.size (wr.drewN d) (.slice (some ⟨g, 0, none⟩) n1 c) L' ∧ L'.Perm (L.take n1) ∧ SortTo L' n1 ∧ L'.length = n1) := fun d => ⟨L2, a1.drewN d, a2, a3.zero, a4⟩
          have HBn : Hid (∀ d, Below w.heap.size w (wr.drewN d)) := fun d => below_drewN hB.out d
          clear hX a1 a2 a3 a4 hB
          go_wp2
          go_quiet (fail)
          go_wp2
          go_roundg (n - n1)
          case rel => exact ⟨n1, by have := HN1.out; first | (subst this; rfl) | (subst this; go_num) | (simp; omega), by have := HN1.out; omega, rfl, HXn.out _, HBn.out _⟩
          case measure => have := hgm.out; have := HN1.out; omega
        · obtain ⟨m, hm⟩ : ∃ m, j = m + 1 := ⟨j - 1, by omega⟩
          have hn1 := HN1.out
          have hblk := a1.block
          obtain ⟨x, hx, hxs, hxl⟩ := a1.cellAt (i := m) (by omega)
          obtain ⟨y, hy, hys, hyl⟩ := a1.cellAt (i := j) (by omega)
          have hj0 : (j : Int) > 0 := by omega
          have e1 : (j : Int) - 1 = (m : Int) := by omega
          have e2 : IntKind.i64.wrap (m : Int) = (m : Int) := by rw [IntKind.wrap_i64]; omega
          have e3 : (j : Int) < (n1 : Int) := by omega
          have e4 : (m : Int) < (n1 : Int) := by omega
          have HC : Hid (∀ d, Calls Try.prog 46 #[y, x] (wr.drewN d) fun e w' => Reads (.bool (bef (L2.getD j []) (L2.getD m []))) (wr.drewN d) e w') := fun d => CC.out _ y x _ _ (SeesI.below hys (below_drewN (Below.refl _ _) _)) (SeesI.below hxs (below_drewN (Below.refl _ _) _))
          have z0 : 0 + m = m := Nat.zero_add m
          have z2 : 0 + j = j := Nat.zero_add j
          have HM := hidP hm
          have hd0 : decide (0 < j) = true := decide_eq_true h0
          obtain ⟨ax, nx, cx, rfl⟩ := hxl
          obtain ⟨ay, ny, cy, rfl⟩ := hyl
          by_cases hb : bef (L2.getD j []) (L2.getD m []) = true
          · rw [hb] at HC
            have HSw : Hid (∀ d, OwnsS w.heap.size (((wr.drewN d).setCell ⟨g, j, none⟩ (.slice ax nx cx)).setCell ⟨g, m, none⟩ (.slice ay ny cy)) (.slice (some ⟨g, 0, none⟩) n1 c) (swapL [] L2 m) ∧ (wr.drewN d).grownBy (((wr.drewN d).setCell ⟨g, j, none⟩ (.slice ax nx cx)).setCell ⟨g, m, none⟩ (.slice ay ny cy)) (some g)) := fun d => by
              rw [hm]; rw [hm] at hy
              exact (a1.drewN d).swap (by omega) hx hy
            have HPm : Hid ((swapL [] L2 m).Perm (L.take n1) ∧ SortBut (swapL [] L2 m) n1 m ∧ (swapL [] L2 m).length = n1) := by
              rw [hm] at a3 hb
              exact ⟨(swapL_perm [] (by omega)).trans a2, a3.swap (by omega) (by omega) hb, by rw [swapL_len]; exact a4⟩
            have hfz := hblk.2.2.2.1
            have f1 : wr.frozen? ⟨g, j, none⟩ = false := hfz j
            have f2 : wr.frozen? ⟨g, m, none⟩ = false := hfz m
            clear hX a1 a2 a3 a4 hxs hys hb hblk hfz hm hn1
            go_wp2
            go_quiet ((go_at_call 46; exact Reads.quiet_any (HC.out _)))
            obtain ⟨W, hW⟩ : ∃ W, W = wr.drewN nq := ⟨_, rfl⟩
            have HW1 := hidP (HSw.out nq)
            have HGW : Hid (Below w.heap.size w W) := by show Below _ _ _; rw [hW]; exact below_drewN hB.out nq
            have k1 : W.cell? ⟨g, m, none⟩ = some (.slice ax nx cx) := by rw [hW]; exact hx
            have k2 : W.cell? ⟨g, j, none⟩ = some (.slice ay ny cy) := by rw [hW]; exact hy
            have k3 : W.frozen? ⟨g, j, none⟩ = false := by rw [hW]; exact f1
            have k4 : W.frozen? ⟨g, m, none⟩ = false := by rw [hW]; exact f2
            rw [← hW] at HW1 ⊢
            clear hW hx hy f1 f2 HSw HC hB
            go_wp2
            go_region
            all_goals
              obtain ⟨WW, hWW⟩ : ∃ WW, WW = (W.setCell ⟨g, j, none⟩ (.slice ax nx cx)).setCell ⟨g, m, none⟩ (.slice ay ny cy) := ⟨_, rfl⟩
              rw [← hWW] at HW1 ⊢
              have HXn : Hid (∀ d, ∃ L', OwnsS w.heap.size (WW.drewN d) (.slice (some ⟨g, 0, none⟩) n1 c) L' ∧ L'.Perm (L.take n1) ∧ SortBut L' n1 m ∧ L'.length = n1) := fun d => ⟨_, HW1.out.1.drewN d, HPm.out.1, HPm.out.2.1, HPm.out.2.2⟩
              have HGn : Hid (∀ d, Below w.heap.size w (WW.drewN d)) := fun d => below_drewN (HGW.out.grown HW1.out.2 HGW.out.size (fun k e => by cases e; exact HBg.out)) d
              clear hWW HW1 HGW HPm k1 k2 k3 k4
              go_wp2
              go_roundg m
              case rel => exact ⟨m, by first | rfl | go_num, by have := HM.out; omega, rfl, by first | exact HXn.out 0 | exact HXn.out 1 | exact HXn.out _, by first | exact HGn.out 0 | exact HGn.out 1 | exact HGn.out _⟩
              case measure => have := HM.out; have := hjg.out; omega
          · rw [show bef (L2.getD j []) (L2.getD m []) = false by simpa using hb] at HC
            have HXn : Hid (∀ d, ∃ L', OwnsS w.heap.size (wr.drewN d) (.slice (some ⟨g, 0, none⟩) n1 c) L' ∧ L'.Perm (L.take n1) ∧ SortTo L' n1 ∧ L'.length = n1) := fun d => ⟨L2, a1.drewN d, a2, by rw [hm] at a3 hb; exact a3.stop (by simpa using hb), a4⟩
            have HBn : Hid (∀ d, Below w.heap.size w (wr.drewN d)) := fun d => below_drewN hB.out d
            clear hX a1 a2 a3 a4 hxs hys hb hblk hm hB hn1
            go_wp2
            go_quiet ((go_at_call 46; exact Reads.quiet_any (HC.out _)))
            go_wp2
            go_roundg (n - n1)
            case rel => exact ⟨n1, by have := HN1.out; first | (subst this; rfl) | (subst this; go_num) | (simp; omega), by have := HN1.out; omega, rfl, HXn.out _, HBn.out _⟩
            case measure => have := hgm.out; have := HN1.out; omega
    · obtain rfl : i = n := by omega
      obtain ⟨L', a1, a2, a3, a4⟩ := hX.out
      have HR : Hid (SortedTells L w (.returned u3) wr) := by
        refine ⟨_, L', rfl, a1.owns.sees (by omega), ?_, SortTo.sorted (by rw [a4]; exact a3), hB.out⟩
        rw [List.take_of_length_le (by have := HLn.out; omega)] at a2
        exact a2
      clear hX a1 a2 a3 a4
      go_wp2
      go_ret
      exact HR.out
end Go.Proofs.Ytokdcgmjpnanoaa
