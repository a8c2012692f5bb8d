/- The document's Cmp of layer 4 by its contract. -/
import Derived.Test.YtcogldhjkjiodaaGreatCb
import Derived.Test.YtcogldhjkjiodaaGreatKP
set_option linter.unusedVariables false
set_option linter.unusedSimpArgs false
namespace Go.Proofs.YtcogldhjkjiodaaGreat
open Go.RowKit

theorem ref_from {b : Nat} (hb : b < 18446744073709551616) (h : rung b < 9218868437227405312) (w : World) : Calls Tryz.prog 35 #[.float .f64 b] w fun e w' => FromIs w (fnumer b) (fdenom b) e w' := by
  rcases Nat.eq_zero_or_pos (rung b) with h0 | h0
  · exact ref_from_zero hb h0 w
  · exact ref_from_fin hb h h0 w

set_option maxRecDepth 100000 in
set_option maxHeartbeats 4000000 in
theorem ref4_cmp {v : Value} {n : Bool} {l d : List Nat} {w : World} {b : Nat} (hb : b < 18446744073709551616) (h : SeesQ w v n l d) (hl : l.length ≤ 300) (hd : d.length ≤ 300) :
    Calls Tryz.prog 14 #[v, .float .f64 b] w fun e w' => IsCmp w (qnum (zval n l) (val d)) (qden (zval n l) (val d)) b e w' := by
  obtain ⟨ao, ac, bo, bc, rfl⟩ := id h.form
  obtain ⟨y, hy⟩ : ∃ y, y = w.alloc (.cells #[.bool n, .slice ao l.length ac, .slice bo d.length bc] 26) := ⟨_, rfl⟩
  have bl : Below w.heap.size w y := by rw [hy]; exact (Below.refl _ w).alloc (Nat.le_refl _) _
  have xA : Blk y w.heap.size #[.bool n, .slice ao l.length ac, .slice bo d.length bc] := by rw [hy]; exact Blk.new ..
  have HQ := hid (h.below bl)
  obtain ⟨g, hg⟩ : ∃ g, g = w.heap.size := ⟨_, rfl⟩
  rw [← hg] at xA
  have HY := hid hy.symm; have HG := hid hg.symm; have HBel := hid bl; have XA := hid xA
  have HR := hid (ref_rank hb)
  clear hy hg bl xA h
  obtain ⟨A, hA⟩ : ∃ z, qnum (zval n l) (val d) = z := ⟨_, rfl⟩
  obtain ⟨C, hC⟩ : ∃ z, qden (zval n l) (val d) = z := ⟨_, rfl⟩
  rw [hA, hC]
  have hfin : (isNan b = false ∧ isInf b = false ∧ rung b < 9218868437227405312 ∧ (rankF b == 0) = false ∧ (rankF b == 1) = false ∧ (rankF b == 6) = false) → Calls Tryz.prog 14 #[.agg #[.bool n, .slice ao l.length ac, .slice bo d.length bc], .float .f64 b] w fun e w' => IsCmp w A C b e w' := by
    rintro ⟨h1, h3, h4, k0, k1, k6⟩
    have HZ : Hid (cmpV A C b = cmpQ A C (fnumer b) (fdenom b) ∧ (!isNan b) = true) := by refine ⟨?_, by rw [h1]; rfl⟩; unfold cmpV; rw [h1, h3]; rfl
    have HF := hid (ref_from hb h4)
    obtain ⟨q1, q2⟩ := from_len h4
    obtain ⟨p1, p2⟩ := from_plain b
    have p3 : 0 < C * fdenom b := Nat.mul_pos (by rw [← hC]; exact Nat.pos_of_ne_zero (qden_ne _ _)) (by rw [← p2]; exact Nat.pos_of_ne_zero (qden_ne _ _))
    have HP1 := hid p1; have HP2 := hid p2; have HP3 := hid p3; have HL1 := hid q1; have HL2 := hid q2
    have HA := hid hA; have HC := hid hC
    generalize hz : fnumer b = Z at *
    generalize he : fdenom b = E at *
    generalize rankF b = rk at *
    clear hz he h1 h3 h4 p1 p2 p3 q1 q2 hA hC
    go_enter Tryz.func14, Tryz.ntmps14
    go_wp2_with fail
    rw [HY.out, HG.out]
    clear HY
    refine (HR.out _).mono ?_
    rintro e w0 ⟨rfl, hb0⟩
    have HB0 := hid (HBel.out.trans (hb0.mono HBel.out.size))
    have XA0 := hid (XA.out.below hb0); have HQ0 := hid (HQ.out.below hb0)
    clear hb0 XA HQ HBel HR
    go_wp2_with fail
    refine (HF.out _).mono ?_
    rintro e w1 ⟨v1, rfl, hq1, hb1⟩
    obtain ⟨r1, r2, r3, r4, rfl⟩ := hq1.form
    obtain ⟨w5, hw5⟩ : ∃ x, x = w1.alloc (.cells #[.bool (zneg Z), .slice r1 (zlim Z).length r2, .slice r3 (limbs E).length r4] 26) := ⟨_, rfl⟩
    have hb5 : Below w1.heap.size w1 w5 := by rw [hw5]; exact (Below.refl _ w1).alloc (Nat.le_refl _) _
    obtain ⟨gQ, eQ⟩ : ∃ g, g = w1.heap.size := ⟨_, rfl⟩
    have h15 := step_below hb1 hb5
    have HB5 := hid (HB0.out.trans (h15.mono HB0.out.size))
    have EQ := hid eQ.symm; have HW5 := hid hw5.symm
    have HK := hid (ref_cmpQ (HQ0.out.below h15) (hq1.below hb5) (by omega) (by omega) (by have := HL1.out; omega) (by have := HL2.out; omega) A Z C E HA.out HC.out (by rw [zval_plain, val_limbs]; exact HP1.out) (by rw [zval_plain, val_limbs]; exact HP2.out))
    rw [sgnI_qnum HP3.out] at HK
    have XA1 := XA0.out.below hb1
    obtain ⟨a0, a1, a2, -, -, -⟩ := XA1.open3
    have hltA := XA1.lt
    clear XA1 hw5 eQ hq1 hb1 hb5 h15 XA0 HQ0 HF HP1 HP2 HP3 HL1 HL2 HA HC
    go_wp2_with fail
    rw [HW5.out, EQ.out]
    refine HK.out.mono ?_
    rintro e w6 ⟨rfl, hb6⟩
    have HB6 := hid (HB5.out.trans (hb6.mono HB5.out.size))
    clear hb6
    go_wp2_with fail
    go_ret2
    exact ⟨by rw [HZ.out.1, HZ.out.2]; rfl, HB6.out⟩
  rcases kinds b with ⟨h1, h0, h2⟩ | ⟨h1, h0, h3, h2⟩ | ⟨h1, h0, h3, h2⟩ | ⟨h1, h0, h3, h2, h4⟩
  · have HZ : Hid (cmpV A C b = 0 ∧ (!isNan b) = false) := by refine ⟨?_, by rw [h1]; rfl⟩; unfold cmpV; rw [h1]; rfl
    rw [show rankF b = 0 by unfold rankF; rw [h1]; rfl] at HR
    clear h1 h2 hA hC hfin
    go_enter Tryz.func14, Tryz.ntmps14
    go_wp2_with fail
    rw [HY.out, HG.out]
    refine (HR.out _).mono ?_
    rintro e w1 ⟨rfl, hb1⟩
    have HB1 := hid (HBel.out.trans (hb1.mono HBel.out.size))
    clear hb1
    go_wp2_with fail
    go_ret2
    exact ⟨by rw [HZ.out.1, HZ.out.2]; rfl, HB1.out⟩
  · refine hfin ⟨h1, h3, by omega, ?_, ?_, ?_⟩ <;> (unfold rankF; rw [h1, h0]; cases fneg b <;> rfl)
  · cases hf : fneg b with
    | false =>
      have HZ : Hid (cmpV A C b = -1 ∧ (!isNan b) = true) := by refine ⟨?_, by rw [h1]; rfl⟩; unfold cmpV; rw [h1, h3, hf]; rfl
      rw [show rankF b = 6 by unfold rankF; rw [h1, h0, h3, hf]; rfl] at HR
      clear h1 h2 h3 hf hA hC hfin
      go_enter Tryz.func14, Tryz.ntmps14
      go_wp2_with fail
      rw [HY.out, HG.out]
      refine (HR.out _).mono ?_
      rintro e w1 ⟨rfl, hb1⟩
      have HB1 := hid (HBel.out.trans (hb1.mono HBel.out.size))
      clear hb1
      go_wp2_with fail
      go_ret2
      exact ⟨by rw [HZ.out.1, HZ.out.2]; rfl, HB1.out⟩
    | true =>
      have HZ : Hid (cmpV A C b = 1 ∧ (!isNan b) = true) := by refine ⟨?_, by rw [h1]; rfl⟩; unfold cmpV; rw [h1, h3, hf]; rfl
      rw [show rankF b = 1 by unfold rankF; rw [h1, h0, h3, hf]; rfl] at HR
      clear h1 h2 h3 hf hA hC hfin
      go_enter Tryz.func14, Tryz.ntmps14
      go_wp2_with fail
      rw [HY.out, HG.out]
      refine (HR.out _).mono ?_
      rintro e w1 ⟨rfl, hb1⟩
      have HB1 := hid (HBel.out.trans (hb1.mono HBel.out.size))
      clear hb1
      go_wp2_with fail
      go_ret2
      exact ⟨by rw [HZ.out.1, HZ.out.2]; rfl, HB1.out⟩
  · refine hfin ⟨h1, h3, h4, ?_, ?_, ?_⟩ <;> (unfold rankF; rw [h1, h0, h3]; cases fneg b <;> rfl)
end Go.Proofs.YtcogldhjkjiodaaGreat
