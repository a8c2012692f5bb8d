/- math.IsInf of a sign; approx.Cmp and the document's Cmp of layer 4 by their contracts. -/
import Derived.Test.YtjnbonellgpjnaaGreatCa
set_option linter.unusedVariables false
set_option linter.unusedSimpArgs false
namespace Go.Proofs.YtjnbonellgpjnaaGreat
open Go.RowKit

theorem gt_max (b : Nat) : (FloatKind.f64.format.order b 9218868437227405311 == some .gt) = (isInf b && !fneg b) := by
  refine (order_gt b 9218868437227405311).trans ?_
  have n1 : isNan 9218868437227405311 = false := by decide
  have s1 : srung 9218868437227405311 = 9218868437227405311 := by decide
  unfold fnum
  rw [n1, s1]
  unfold isNan isInf srung
  generalize rung b = r
  cases fneg b
  · by_cases h : r = 9218868437227405312
    · subst h; decide
    · have h2 : decide (r = 9218868437227405312) = false := decide_eq_false h
      rw [h2]
      by_cases h3 : 9218868437227405312 < r
      · simp [h3]
      · simp; omega
  · simp <;> omega

theorem neg_neg (b : Nat) : Op.negFloat .f64 (Op.negFloat .f64 b) = b := by
  unfold Op.negFloat
  rw [Nat.xor_assoc, Nat.xor_self, Nat.xor_zero]
theorem neg_pos {b : Nat} (hb : b < 18446744073709551616) (h : fneg b = false) : Op.negFloat .f64 b = 9223372036854775808 + rung b := by
  have hr := rung_lt b
  have hbb : b = rung b := by
    have := word_self hb
    rw [h] at this
    unfold wordOf at this
    simpa using this.symm
  have h1 : fneg (9223372036854775808 + rung b) = true := by unfold fneg; simp; omega
  have h2 := neg_word (b := 9223372036854775808 + rung b) (by omega) h1
  have h3 : rung (9223372036854775808 + rung b) = rung b := by unfold rung; omega
  rw [h3] at h2
  have h4 := neg_neg (9223372036854775808 + rung b)
  rw [h2, ← hbb] at h4
  rw [← hbb]; exact h4

theorem math_isInfP (b : Nat) (w : World) : Calls Tryz.prog 32 #[.float .f64 b, .int .i64 1] w fun e w' => e = .returned (.bool (isInf b && !fneg b)) ∧ w = w' := by
  have e := gt_max b
  have HE := hid e
  clear e
  go_enter Tryz.func32, Tryz.ntmps32
  go_wp2_with fail
  go_ret
  exact ⟨by rw [← HE.out]; rfl, rfl⟩

theorem math_isInfM {b : Nat} (hb : b < 18446744073709551616) (w : World) : Calls Tryz.prog 32 #[.float .f64 b, .int .i64 (-1)] w fun e w' => e = .returned (.bool (isInf b && fneg b)) ∧ w = w' := by
  have e := gt_max (Op.negFloat .f64 b)
  have hk : (isInf (Op.negFloat .f64 b) && !fneg (Op.negFloat .f64 b)) = (isInf b && fneg b) := by
    have hr := rung_lt b
    cases h : fneg b with
    | true =>
      rw [neg_word hb h]
      have r0 : rung (rung b) = rung b := by unfold rung; omega
      have f0 : fneg (rung b) = false := by unfold fneg; rw [Nat.div_eq_of_lt hr]; rfl
      unfold isInf; rw [r0, f0]; simp
    | false =>
      rw [neg_pos hb h]
      have f0 : fneg (9223372036854775808 + rung b) = true := by unfold fneg; simp; omega
      rw [f0]; simp
  rw [hk] at e
  have HE := hid e
  have hun := unary_negf b
  clear e hk
  go_enter Tryz.func32, Tryz.ntmps32
  go_wp2_with fail
  go_ret
  exact ⟨by rw [← HE.out]; rfl, rfl⟩

/-- What Cmp tells of the plain fraction A / C and a float. -/
def cmpV (A : Int) (C : Nat) (b : Nat) : Int := if isNan b then 0 else if isInf b then (if fneg b then 1 else -1) else cmpQ A C (fnumer b) (fdenom b)
def IsCmp (w : World) (A : Int) (C : Nat) (b : Nat) (e : Ending) (w' : World) : Prop := e = .returned (.tuple #[.int .i64 (cmpV A C b), .bool (!isNan b)]) ∧ Below w.heap.size w w'

theorem from_plain (b : Nat) : qnum (fnumer b) (fdenom b) = fnumer b ∧ qden (fnumer b) (fdenom b) = fdenom b := by
  unfold fnumer fdenom
  exact ⟨qnum_plain _ _, qden_plain _ _⟩

set_option maxRecDepth 100000 in
set_option maxHeartbeats 4000000 in
theorem ap_cmp_fin {n : Bool} {l d : List Nat} {w y : World} {b g : Nat} {ao bo : Option Addr} {ac bc : Nat} {A : Int} {C : Nat} (hb : b < 18446744073709551616)
    (HQ : Hid (SeesQ y (.agg #[.bool n, .slice ao l.length ac, .slice bo d.length bc]) n l d)) (XA : Hid (Blk y g #[.bool n, .slice ao l.length ac, .slice bo d.length bc])) (HBel : Hid (Below w.heap.size w y))
    (HY : Hid (w.alloc (.cells #[.bool n, .slice ao l.length ac, .slice bo d.length bc] 26) = y)) (HG : Hid (w.heap.size = g))
    (HN : Hid (∀ w, Calls Tryz.prog 31 #[.float .f64 b] w fun e w' => e = .returned (.bool (isNan b)) ∧ w = w'))
    (HP : Hid (∀ w, Calls Tryz.prog 32 #[.float .f64 b, .int .i64 1] w fun e w' => e = .returned (.bool (isInf b && !fneg b)) ∧ w = w'))
    (HM : Hid (∀ w, Calls Tryz.prog 32 #[.float .f64 b, .int .i64 (-1)] w fun e w' => e = .returned (.bool (isInf b && fneg b)) ∧ w = w'))
    (h1 : isNan b = false) (h3 : isInf b = false) (h4 : rung b < 9218868437227405312) (hl : l.length ≤ 300) (hd : d.length ≤ 300) (hA : qnum (zval n l) (val d) = A) (hC : qden (zval n l) (val d) = C) :
    Calls Tryz.prog 13 #[.agg #[.bool n, .slice ao l.length ac, .slice bo d.length bc], .float .f64 b] w fun e w' => IsCmp w A C b e w' := by
  have HZ : Hid (cmpV A C b = cmpQ A C (fnumer b) (fdenom b) ∧ (!isNan b) = true) := by refine ⟨?_, by rw [h1]; rfl⟩; unfold cmpV; rw [h1, h3]; rfl
  rw [h1] at HN; rw [h3] at HP HM
  simp only [Bool.false_and] at HP HM
  have HF := hid (ap_from hb h4)
  obtain ⟨q1, q2⟩ := from_len h4
  obtain ⟨p1, p2⟩ := from_plain b
  have HP1 := hid p1; have HP2 := hid p2; have HL1 := hid q1; have HL2 := hid q2
  have HA := hid hA; have HC := hid hC
  generalize hz : fnumer b = Z at *
  generalize he : fdenom b = E at *
  clear hz he h1 h3 h4 p1 p2 q1 q2 hA hC
  go_enter Tryz.func13, Tryz.ntmps13
  go_wp2_with fail
  rw [HY.out, HG.out]
  clear HY
  refine (HN.out _).mono ?_
  rintro e w' ⟨rfl, rfl⟩
  go_wp2_with fail
  refine (HP.out _).mono ?_
  rintro e w' ⟨rfl, rfl⟩
  go_wp2_with fail
  refine (HM.out _).mono ?_
  rintro e w' ⟨rfl, rfl⟩
  clear HN HP HM
  go_wp2_with fail
  refine (HF.out _).mono ?_
  rintro e w1 ⟨v1, rfl, hq1, hb1⟩
  obtain ⟨r1, r2, r3, r4, rfl⟩ := hq1.form
  obtain ⟨w5, hw5⟩ : ∃ x, x = w1.alloc (.cells #[.bool (zneg Z), .slice r1 (zlim Z).length r2, .slice r3 (limbs E).length r4] 26) := ⟨_, rfl⟩
  have hb5 : Below w1.heap.size w1 w5 := by rw [hw5]; exact (Below.refl _ w1).alloc (Nat.le_refl _) _
  have xQ : Blk w5 w1.heap.size #[.bool (zneg Z), .slice r1 (zlim Z).length r2, .slice r3 (limbs E).length r4] := by rw [hw5]; exact Blk.new ..
  obtain ⟨gQ, eQ⟩ : ∃ g, g = w1.heap.size := ⟨_, rfl⟩
  rw [← eQ] at xQ
  have h15 := step_below hb1 hb5
  have HB5 := hid (HBel.out.trans (h15.mono HBel.out.size))
  have EQ := hid eQ.symm; have HW5 := hid hw5.symm
  have HK := hid (fr_cmp (HQ.out.below h15) (hq1.below hb5) (by omega) (by omega) (by have := HL1.out; omega) (by have := HL2.out; omega))
  rw [zval_plain, val_limbs, HP1.out, HP2.out, HA.out, HC.out] at HK
  have XA1 := XA.out.below hb1
  obtain ⟨a0, a1, a2, -, -, -⟩ := XA1.open3
  have hltA := XA1.lt
  clear XA1 hw5 xQ eQ hq1 hb1 hb5 h15 XA HQ HF HP1 HP2 HL1 HL2 HA HC HBel
  go_wp2_with fail
  rw [HW5.out, EQ.out]
  refine HK.out.mono ?_
  rintro e w6 ⟨rfl, hb6⟩
  have HB6 := hid (HB5.out.trans (hb6.mono HB5.out.size))
  clear hb6
  go_wp2_with fail
  go_ret2
  exact ⟨by rw [HZ.out.1, HZ.out.2]; rfl, HB6.out⟩

set_option maxRecDepth 100000 in
set_option maxHeartbeats 4000000 in
theorem ap_cmp {v : Value} {n : Bool} {l d : List Nat} {w : World} {b : Nat} (hb : b < 18446744073709551616) (h : SeesQ w v n l d) (hl : l.length ≤ 300) (hd : d.length ≤ 300) :
    Calls Tryz.prog 13 #[v, .float .f64 b] w fun e w' => IsCmp w (qnum (zval n l) (val d)) (qden (zval n l) (val d)) b e w' := by
  obtain ⟨ao, ac, bo, bc, rfl⟩ := id h.form
  obtain ⟨y, hy⟩ : ∃ y, y = w.alloc (.cells #[.bool n, .slice ao l.length ac, .slice bo d.length bc] 26) := ⟨_, rfl⟩
  have bl : Below w.heap.size w y := by rw [hy]; exact (Below.refl _ w).alloc (Nat.le_refl _) _
  have xA : Blk y w.heap.size #[.bool n, .slice ao l.length ac, .slice bo d.length bc] := by rw [hy]; exact Blk.new ..
  have HQ := hid (h.below bl)
  obtain ⟨g, hg⟩ : ∃ g, g = w.heap.size := ⟨_, rfl⟩
  rw [← hg] at xA
  have HY := hid hy.symm; have HG := hid hg.symm; have HBel := hid bl; have XA := hid xA
  have HN := hid (math_isNaN b); have HP := hid (math_isInfP b); have HM := hid (math_isInfM hb)
  clear hy hg bl xA h
  obtain ⟨A, hA⟩ : ∃ z, qnum (zval n l) (val d) = z := ⟨_, rfl⟩
  obtain ⟨C, hC⟩ : ∃ z, qden (zval n l) (val d) = z := ⟨_, rfl⟩
  rw [hA, hC]
  rcases kinds b with ⟨h1, -, h2⟩ | ⟨h1, -, h3, h2⟩ | ⟨h1, -, h3, h2⟩ | ⟨h1, -, h3, h2, h4⟩
  · have HZ : Hid (cmpV A C b = 0 ∧ (!isNan b) = false) := by refine ⟨?_, by rw [h1]; rfl⟩; unfold cmpV; rw [h1]; rfl
    rw [h1] at HN
    clear h1 h2 hA hC
    go_enter Tryz.func13, Tryz.ntmps13
    go_wp2_with fail
    rw [HY.out, HG.out]
    refine (HN.out _).mono ?_
    rintro e w' ⟨rfl, rfl⟩
    go_wp2_with fail
    go_ret2
    exact ⟨by rw [HZ.out.1, HZ.out.2]; rfl, HBel.out⟩
  · exact ap_cmp_fin hb HQ XA HBel HY HG HN HP HM h1 h3 (by omega) hl hd hA hC
  · cases hf : fneg b with
    | false =>
      have HZ : Hid (cmpV A C b = -1 ∧ (!isNan b) = true) := by refine ⟨?_, by rw [h1]; rfl⟩; unfold cmpV; rw [h1, h3, hf]; rfl
      rw [h1] at HN; rw [h3, hf] at HP
      clear h1 h2 h3 hf hA hC
      go_enter Tryz.func13, Tryz.ntmps13
      go_wp2_with fail
      rw [HY.out, HG.out]
      refine (HN.out _).mono ?_
      rintro e w' ⟨rfl, rfl⟩
      go_wp2_with fail
      refine (HP.out _).mono ?_
      rintro e w' ⟨rfl, rfl⟩
      go_wp2_with fail
      go_ret2
      exact ⟨by rw [HZ.out.1, HZ.out.2]; rfl, HBel.out⟩
    | true =>
      have HZ : Hid (cmpV A C b = 1 ∧ (!isNan b) = true) := by refine ⟨?_, by rw [h1]; rfl⟩; unfold cmpV; rw [h1, h3, hf]; rfl
      rw [h1] at HN; rw [h3, hf] at HP HM
      clear h1 h2 h3 hf hA hC
      go_enter Tryz.func13, Tryz.ntmps13
      go_wp2_with fail
      rw [HY.out, HG.out]
      refine (HN.out _).mono ?_
      rintro e w' ⟨rfl, rfl⟩
      go_wp2_with fail
      refine (HP.out _).mono ?_
      rintro e w' ⟨rfl, rfl⟩
      go_wp2_with fail
      refine (HM.out _).mono ?_
      rintro e w' ⟨rfl, rfl⟩
      go_wp2_with fail
      go_ret2
      exact ⟨by rw [HZ.out.1, HZ.out.2]; rfl, HBel.out⟩
  · exact ap_cmp_fin hb HQ XA HBel HY HG HN HP HM h1 h3 h4 hl hd hA hC
end Go.Proofs.YtjnbonellgpjnaaGreat
