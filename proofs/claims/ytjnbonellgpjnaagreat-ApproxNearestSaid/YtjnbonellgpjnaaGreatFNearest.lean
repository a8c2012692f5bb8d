/- For every fraction x (the first 40 limbs) and every finite float f: no float f is nearer to x than To(x) is, if To(x) is finite. Conditions: none. -/
import Derived.Test.YtjnbonellgpjnaaGreatNe2
import Derived.Test.YtjnbonellgpjnaaGreatDs
import Derived.Test.YtjnbonellgpjnaaGreatOq
import Derived.Test.YtjnbonellgpjnaaGreatKQ
import Derived.Test.YtjnbonellgpjnaaGreatKO
import Derived.HandedShaped
set_option linter.unusedVariables false
set_option linter.unusedSimpArgs false
namespace Go.Proofs.YtjnbonellgpjnaaGreat.approxNearest
open Go.ChangeShapes Go.WideShapes Go.ChangeAt Go.RowKit

theorem len40 (l : List Nat) : (l.take 40).length ≤ 40 := by simp; omega
theorem ne_self {g : Nat} (h : isNan g = false) : (FloatKind.f64.format.order g g == some .eq) = true := by
  have h1 := order_self g
  rw [h] at h1
  have h2 : (!(FloatKind.f64.format.order g g == some .eq)) = false := h1
  simpa using h2

set_option maxRecDepth 100000 in
set_option maxHeartbeats 8000000 in
theorem steps {v : Value} {n : Bool} {xa ya la da : List Nat} {g f er1 er2 : Nat} {n1 n2 : Bool} {l1 d1 l2 d2 : List Nat} {z1 z2 c : Int} {e1 e2 : Nat} {w : World}
    (ha : SeesQ w v n xa ya) (hla : xa.take 40 = la) (hda : ya.take 40 = da) (hg : (FloatKind.f64.format.order g g == some .eq) = true)
    (hto : ∀ (w : World) (v : Value), SeesQ w v n la da → Calls Tryz.prog 11 #[v] w fun e w' => e = .returned (.float .f64 g) ∧ Below w.heap.size w w')
    (h1 : ∀ w, Calls Tryz.prog 17 #[.float .f64 g] w fun e w' => ∃ v, e = .returned (.tuple #[v, .int .i64 (er1 : Nat)]) ∧ SeesQ w' v n1 l1 d1 ∧ Below w.heap.size w w')
    (h2 : ∀ w, Calls Tryz.prog 17 #[.float .f64 f] w fun e w' => ∃ v, e = .returned (.tuple #[v, .int .i64 (er2 : Nat)]) ∧ SeesQ w' v n2 l2 d2 ∧ Below w.heap.size w w')
    (hcase : (er1 = 0 ∧ er2 = 0 ∧ c ≤ 0 ∧
      (∀ (w : World) (v u : Value), SeesQ w v n la da → SeesQ w u n1 l1 d1 → Calls Tryz.prog 18 #[v, u] w fun e w' => IsRat w z1 e1 e w') ∧
      (∀ (w : World) (v u : Value), SeesQ w v n la da → SeesQ w u n2 l2 d2 → Calls Tryz.prog 18 #[v, u] w fun e w' => IsRat w z2 e2 e w') ∧
      (∀ (w : World) (v u : Value), SeesQ w v false (zlim z1) (limbs e1) → SeesQ w u false (zlim z2) (limbs e2) → Calls Tryz.prog 19 #[v, u] w fun e w' => e = .returned (.int .i64 c) ∧ Below w.heap.size w w')) ∨ er1 = 40 ∨ (er1 = 0 ∧ er2 = 40)) :
    Calls Tryz.prog 6 #[v, .float .f64 f] w fun e w' => e = .returned (.bool true) ∧ Below w.heap.size w w' := by
  have HTO := hid hto; have H1 := hid h1; have H2 := hid h2; have HCASE := hid hcase; have HGG := hid hg
  obtain ⟨ao, ac, bo, bc, rfl⟩ := id ha.form
  obtain ⟨y, hy⟩ : ∃ y, y = w.alloc (.cells #[.bool n, .slice ao xa.length ac, .slice bo ya.length bc] 26) := ⟨_, rfl⟩
  have bl : Below w.heap.size w y := by rw [hy]; exact (Below.refl _ w).alloc (Nat.le_refl _) _
  have xA : Blk y w.heap.size #[.bool n, .slice ao xa.length ac, .slice bo ya.length bc] := by rw [hy]; exact Blk.new ..
  have HQA := hid (ha.below bl)
  obtain ⟨gX, hgX⟩ : ∃ g, g = w.heap.size := ⟨_, rfl⟩
  rw [← hgX] at xA
  have HGE := hid (show w.heap.size ≤ gX by omega)
  have HY := hid hy.symm; have HG := hid hgX.symm; have HBel := hid bl; have XA := hid xA
  have HSH := hid (fun (w' : World) (h : Below y.heap.size y w') => law_shortQ 40 (HQA.out.below h) (by decide))
  rw [hla, hda] at HSH
  clear hy hgX bl xA ha HQA hto h1 h2 hcase hg hla hda
  go_enter Tryz.func6, Tryz.ntmps6
  go_wp2_with fail
  rw [HY.out, HG.out]
  clear HY HG
  refine (awakeF _).mono ?_
  rintro e w0 ⟨rfl, hb0⟩
  have XA0 := hid (XA.out.below hb0); have HB0 := hid (HBel.out.trans (hb0.mono HBel.out.size))
  have HSH0 := hid (HSH.out _ hb0)
  clear XA HBel hb0 HSH
  obtain ⟨a0, a1, a2, a3, a4, a5⟩ := XA0.out.open3
  go_wp2_with fail
  refine HSH0.out.mono ?_
  rintro e w1 ⟨v1, rfl, hq1, hb1⟩
  obtain ⟨p1, p2, p3, p4, rfl⟩ := hq1.form
  have ZA := XA0.out.below hb1
  have HW1 := HB0.out.trans (hb1.mono HB0.out.size)
  clear a0 a1 a2 a3 a4 a5
  obtain ⟨wf, hwf⟩ : ∃ x, x = (((w1.setCell ⟨gX, 0, none⟩ (.bool n)).setCell ⟨gX, 1, none⟩ (.slice p1 la.length p2)).setCell ⟨gX, 2, none⟩ (.slice p3 da.length p4)) := ⟨_, rfl⟩
  have hf1 : SeesQ wf (.agg #[.bool n, .slice p1 la.length p2, .slice p3 da.length p4]) n la da := by rw [hwf]; exact hq1.st ZA _ _ _
  have hf2 : Blk wf gX #[.bool n, .slice p1 la.length p2, .slice p3 da.length p4] := by rw [hwf]; exact ZA.st _ _ _
  have hf3 : Below w.heap.size w wf := by rw [hwf]; exact below_st HW1 HGE.out _ _ _
  have HWF := hid hwf.symm
  obtain ⟨a0, a1, a2, a3, a4, a5⟩ := ZA.open3
  have hltA := ZA.lt
  have Q2 := hid hf1; have X2 := hid hf2; have B2 := hid hf3
  clear hq1 hb1 HSH0 HW1 XA0 HB0 hwf hf1 hf2 hf3 ZA HGE
  go_wp2_with fail
  rw [HWF.out]
  clear HWF a0 a1 a2 a3 a4 a5 hltA
  refine (HTO.out _ _ Q2.out).mono ?_
  rintro e w2 ⟨rfl, hb⟩
  have Q3 := hid (Q2.out.below hb); have X3 := hid (X2.out.below hb); have B3 := hid (B2.out.trans (hb.mono B2.out.size))
  clear hb Q2 X2 B2 HTO
  go_wp2_with fail
  refine (H1.out _).mono ?_
  rintro e w3 ⟨v3, rfl, hq, hb⟩
  have R4 := hid hq
  have Q4 := hid (Q3.out.below hb); have X4 := hid (X3.out.below hb); have B4 := hid (B3.out.trans (hb.mono B3.out.size))
  obtain ⟨r1, r2, r3, r4, rfl⟩ := hq.form
  obtain ⟨w4, gY, hw4, hgY, hb4, hB4, hy4⟩ := box3_new B4.out (.bool n1) (.slice r1 l1.length r2) (.slice r3 d1.length r4)
  have R5 := hid (R4.out.below hb4); have Q5 := hid (Q4.out.below hb4); have X5 := hid (X4.out.below hb4); have Y5 := hid hy4; have B5 := hid hB4
  have HW4 := hid hw4.symm; have HGY := hid hgY.symm
  clear hq hb hw4 hgY hb4 hB4 hy4 Q3 X3 B3 R4 Q4 X4 B4 H1
  go_wp2_with fail
  rw [HW4.out, HGY.out]
  clear HW4 HGY
  refine (H2.out _).mono ?_
  rintro e w5 ⟨v5, rfl, hq, hb⟩
  have S6 := hid hq
  have R6 := hid (R5.out.below hb); have Q6 := hid (Q5.out.below hb); have X6 := hid (X5.out.below hb); have Y6 := hid (Y5.out.below hb); have B6 := hid (B5.out.trans (hb.mono B5.out.size))
  obtain ⟨s1, s2, s3, s4, rfl⟩ := hq.form
  obtain ⟨w6, gZ, hw6, hgZ, hb6, hB6, hz6⟩ := box3_new B6.out (.bool n2) (.slice s1 l2.length s2) (.slice s3 d2.length s4)
  have S7 := hid (S6.out.below hb6); have R7 := hid (R6.out.below hb6); have Q7 := hid (Q6.out.below hb6); have X7 := hid (X6.out.below hb6); have Y7 := hid (Y6.out.below hb6); have Z7 := hid hz6; have B7 := hid hB6
  have HW6 := hid hw6.symm; have HGZ := hid hgZ.symm
  clear hq hb hw6 hgZ hb6 hB6 hz6 R5 Q5 X5 Y5 B5 S6 R6 Q6 B6 H2
  rcases HCASE.out with ⟨c1, c2, hc, h3, h4, h5⟩ | c1 | ⟨c1, c2⟩
  · subst c1; subst c2
    have HC := hid hc; have H3 := hid h3; have H4 := hid h4; have H5 := hid h5
    clear hc h3 h4 h5 HCASE
    obtain ⟨x0, x1, x2, -, -, -⟩ := X6.out.open3
    obtain ⟨y0, y1, y2, -, -, -⟩ := Y6.out.open3
    have ltX := X6.out.lt; have ltY := Y6.out.lt
    go_wp2_with fail
    rw [HW6.out, HGZ.out]
    clear HW6 HGZ X6 Y6 ltX ltY
    refine (H3.out _ _ _ Q7.out R7.out).mono ?_
    rintro e w7 ⟨v7, rfl, hq, hb⟩
    have T8 := hid hq
    have S8 := hid (S7.out.below hb); have Q8 := hid (Q7.out.below hb); have X8 := hid (X7.out.below hb); have Z8 := hid (Z7.out.below hb); have B8 := hid (B7.out.trans (hb.mono B7.out.size))
    obtain ⟨t1, t2, t3, t4, rfl⟩ := hq.form
    obtain ⟨w8, gA, hw8, hgA, hb8, hB8, ha8⟩ := box3_new B8.out (.bool (zneg z1)) (.slice t1 (zlim z1).length t2) (.slice t3 (limbs e1).length t4)
    have T9 := hid (SeesQ.below T8.out hb8); have S9 := hid (S8.out.below hb8); have Q9 := hid (Q8.out.below hb8); have X9 := hid (X8.out.below hb8); have Z9 := hid (Z8.out.below hb8); have A9 := hid ha8; have B9 := hid hB8
    have HW8 := hid hw8.symm; have HGA := hid hgA.symm
    have hgeA : w.heap.size ≤ gA := by rw [hgA]; exact B8.out.size
    have HGEA := hid hgeA
    clear x0 x1 x2 y0 y1 y2 hq hb hw8 hgA hb8 hB8 ha8 hgeA T8 S8 Q8 B8 S7 R7 Q7 X7 Y7 Z7 B7 H3
    obtain ⟨x0, x1, x2, -, -, -⟩ := X8.out.open3
    obtain ⟨y0, y1, y2, -, -, -⟩ := Z8.out.open3
    have ltX := X8.out.lt; have ltY := Z8.out.lt
    go_wp2_with fail
    rw [HW8.out, HGA.out]
    clear HW8 HGA X8 Z8 ltX ltY
    refine (H4.out _ _ _ Q9.out S9.out).mono ?_
    rintro e w9 ⟨v9, rfl, hq, hb⟩
    have U10 := hid hq
    have T10 := hid (T9.out.below hb); have A10 := hid (A9.out.below hb); have B10 := hid (B9.out.trans (hb.mono B9.out.size))
    obtain ⟨u1, u2, u3, u4, rfl⟩ := hq.form
    have ka := A10.out.set0 (.bool false)
    have b1 : Below (w9.setCell ⟨gA, 0, none⟩ (.bool false)).heap.size (w9.setCell ⟨gA, 0, none⟩ (.bool false)) ((w9.setCell ⟨gA, 0, none⟩ (.bool false)).alloc (.cells #[.bool false, .slice u1 (zlim z2).length u2, .slice u3 (limbs e2).length u4] 26)) := (Below.refl _ _).alloc (Nat.le_refl _) _
    obtain ⟨ws, hws⟩ : ∃ x, x = (w9.setCell ⟨gA, 0, none⟩ (.bool false)).alloc (.cells #[.bool false, .slice u1 (zlim z2).length u2, .slice u3 (limbs e2).length u4] 26) := ⟨_, rfl⟩
    have E1 : SeesQ ws (.agg #[.bool false, .slice t1 (zlim z1).length t2, .slice t3 (limbs e1).length t4]) false (zlim z1) (limbs e1) := by
      rw [hws]; exact ((T10.out.set0 A10.out _).below b1).unsigned
    have E2 : SeesQ ws (.agg #[.bool false, .slice u1 (zlim z2).length u2, .slice u3 (limbs e2).length u4]) false (zlim z2) (limbs e2) := by
      rw [hws]; exact ((SeesQ.set0 U10.out A10.out _).below b1).unsigned
    have BE : Below w.heap.size w ws := by
      have := below_set0 B10.out HGEA.out (.bool false)
      rw [hws]; exact this.alloc this.size _
    have HE := hid (H5.out _ _ _ E1 E2); have HBE := hid BE; have HWS := hid hws.symm
    obtain ⟨a0, a1, a2, a3, a4, a5⟩ := A10.out.open3
    have ltA := A10.out.lt
    clear x0 x1 x2 y0 y1 y2 hq hb b1 hws ka E1 E2 BE U10 T10 A10 B10 T9 S9 Q9 X9 Z9 A9 B9 H4 H5 HGEA
    go_wp2_with fail
    rw [HWS.out]
    refine HE.out.mono ?_
    rintro e we ⟨rfl, hb⟩
    have BF := hid (HBE.out.trans (hb.mono HBE.out.size))
    have hc := HC.out
    clear hb HE HBE HWS
    go_wp2_with fail
    go_ret
    exact ⟨by simp, BF.out⟩
  · subst c1
    have gg := HGG.out
    go_wp2_with fail
    rw [HW6.out, HGZ.out]
    go_wp2_with fail
    go_ret
    exact ⟨by simp, B7.out⟩
  · subst c1; subst c2
    have gg := HGG.out
    go_wp2_with fail
    rw [HW6.out, HGZ.out]
    go_wp2_with fail
    go_ret
    exact ⟨by simp, B7.out⟩

theorem bad_of {b : Nat} (h : ¬ rung b < 9218868437227405312) : isNan b = true ∨ isInf b = true := by
  unfold isNan isInf
  rcases Nat.lt_or_ge 9218868437227405312 (rung b) with g | g
  · exact .inl (decide_eq_true g)
  · exact .inr (decide_eq_true (by omega))
theorem from_bad {b : Nat} (hb : b < 18446744073709551616) (h : ¬ rung b < 9218868437227405312) (w : World) :
    Calls Tryz.prog 17 #[.float .f64 b] w fun e w' => ∃ v, e = .returned (.tuple #[v, .int .i64 ((40 : Nat) : Int)]) ∧ SeesQ w' v false [] [] ∧ Below w.heap.size w w' := by
  refine (ap_from_bad hb (bad_of h) w).mono ?_
  rintro e w' ⟨rfl, h2⟩
  exact ⟨_, rfl, ⟨_, _, rfl, Sees.nil _, Sees.nil _⟩, h2⟩

theorem from_ok {b : Nat} (hb : b < 18446744073709551616) (h : rung b < 9218868437227405312) {Z : Int} {D : Nat} (hZ : fnumer b = Z) (hD : fdenom b = D) (w : World) :
    Calls Tryz.prog 17 #[.float .f64 b] w fun e w' => ∃ v, e = .returned (.tuple #[v, .int .i64 ((0 : Nat) : Int)]) ∧ SeesQ w' v (zneg Z) (zlim Z) (limbs D) ∧ Below w.heap.size w w' := by
  refine (ap_from hb h w).mono ?_
  rw [hZ, hD]
  exact fun e w' h => h

theorem walk {v : Value} {n : Bool} {xa ya : List Nat} {f : Nat} {w : World} (ha : SeesQ w v n xa ya) (hxa : xa.length ≤ 35184372087808) (hya : ya.length ≤ 35184372087808) (hf : f < 18446744073709551616) :
    Calls Tryz.prog 6 #[v, .float .f64 f] w fun e w' => e = .returned (.bool true) ∧ Below w.heap.size w w' := by
  have l1 := len40 xa; have l2 := len40 ya
  obtain ⟨la, hla⟩ : ∃ l, xa.take 40 = l := ⟨_, rfl⟩
  obtain ⟨da, hda⟩ : ∃ l, ya.take 40 = l := ⟨_, rfl⟩
  rw [hla] at l1; rw [hda] at l2
  have oa : Ok la := by
    obtain ⟨_, _, _, h1, _⟩ := ha
    rw [← hla]; exact fun x hx => h1.ok x (List.mem_of_mem_take hx)
  have od : Ok da := by
    obtain ⟨_, _, _, _, h1⟩ := ha
    rw [← hda]; exact fun x hx => h1.ok x (List.mem_of_mem_take hx)
  obtain ⟨A, hA⟩ : ∃ z, qnum (zval n la) (val da) = z := ⟨_, rfl⟩
  obtain ⟨C, hC⟩ : ∃ z, qden (zval n la) (val da) = z := ⟨_, rfl⟩
  have hC0 : 0 < C := by rw [← hC]; exact qd_pos _ _
  have hta := toF_plain n la da
  rw [hA, hC] at hta
  have lA := qnum_len (n := n) oa (val da)
  have lC := qden_len od (zval n la)
  rw [hA] at lA; rw [hC] at lC
  have hto : ∀ (w : World) (v : Value), SeesQ w v n la da → Calls Tryz.prog 11 #[v] w fun e w' => e = .returned (.float .f64 (tq A C)) ∧ Below w.heap.size w w' := fun w v h => by
    have := ap_to h (by omega) (by omega)
    rwa [hta] at this
  have hgn := ne_self (tq_num A C)
  by_cases hg : rung (tq A C) < 9218868437227405312
  rotate_left
  · by_cases hf2 : rung f < 9218868437227405312
    · exact steps (z1 := 0) (z2 := 0) (c := 0) (e1 := 0) (e2 := 0) ha hla hda hgn hto (from_bad (tq_lt A C) hg) (from_ok hf hf2 rfl rfl) (.inr (.inl rfl))
    · exact steps (z1 := 0) (z2 := 0) (c := 0) (e1 := 0) (e2 := 0) ha hla hda hgn hto (from_bad (tq_lt A C) hg) (from_bad hf hf2) (.inr (.inl rfl))
  by_cases hf2 : rung f < 9218868437227405312
  rotate_left
  · exact steps (z1 := 0) (z2 := 0) (c := 0) (e1 := 0) (e2 := 0) ha hla hda hgn hto (from_ok (tq_lt A C) hg rfl rfl) (from_bad hf hf2) (.inr (.inr ⟨rfl, rfl⟩))
  have hcmp := near_cmp hC0 hg f rfl rfl rfl rfl
  have hG1 := fun w => from_ok (tq_lt A C) hg (Z := fnumer (tq A C)) (D := fdenom (tq A C)) rfl rfl w
  have hG2 := fun w => from_ok hf hf2 (Z := fnumer f) (D := fdenom f) rfl rfl w
  obtain ⟨q1, q2⟩ := from_len hg
  obtain ⟨q3, q4⟩ := from_len hf2
  obtain ⟨p1, p2⟩ := from_plainN (tq A C)
  obtain ⟨p3, p4⟩ := from_plainN f
  generalize fnumer (tq A C) = B1 at *
  generalize fdenom (tq A C) = D1 at *
  generalize fnumer f = B2 at *
  generalize fdenom f = D2 at *
  have lens : ∀ (B : Int) (D : Nat), (zlim B).length ≤ 66 → (limbs D).length ≤ 34 → (zlim (qnum (A * (D : Int) + -B * (C : Int)) (C * D))).length ≤ 300 ∧ (limbs (qden (A * (D : Int) + -B * (C : Int)) (C * D))).length ≤ 300 := fun B D i1 i2 => by
    have m1 := zlim_mul (A := A) (B := (D : Int)) (m := 60) (n := 60) (by omega) (show (limbs D).length ≤ 60 by omega)
    have m2 := zlim_mul (A := -B) (B := (C : Int)) (m := 70) (n := 50) (by rw [zlim_neg]; omega) (show (limbs C).length ≤ 50 by omega)
    have m3 := zlim_add m1 m2
    have m4 := limbs_mul (A := C) (B := D) (m := 50) (n := 50) (by omega) (by omega)
    have m5 := qnum_lenD (A * (D : Int) + -B * (C : Int)) (C * D)
    have m6 := qden_lenD (A * (D : Int) + -B * (C : Int)) (C * D)
    omega
  obtain ⟨i1, i2⟩ := lens _ _ q1 q2
  obtain ⟨i3, i4⟩ := lens _ _ q3 q4
  refine steps (z1 := qnum (A * (D1 : Int) + -B1 * (C : Int)) (C * D1)) (e1 := qden (A * (D1 : Int) + -B1 * (C : Int)) (C * D1)) (z2 := qnum (A * (D2 : Int) + -B2 * (C : Int)) (C * D2)) (e2 := qden (A * (D2 : Int) + -B2 * (C : Int)) (C * D2)) ha hla hda hgn hto hG1 hG2 (.inl ⟨rfl, rfl, hcmp, ?_, ?_, ?_⟩)
  · exact fun w v u hv hu => ref_subQ hv hu (by omega) (by omega) (by omega) (by omega) A _ C _ hA hC (by rw [zval_plain, val_limbs]; exact p1) (by rw [zval_plain, val_limbs]; exact p2)
  · exact fun w v u hv hu => ref_subQ hv hu (by omega) (by omega) (by omega) (by omega) A _ C _ hA hC (by rw [zval_plain, val_limbs]; exact p3) (by rw [zval_plain, val_limbs]; exact p4)
  · exact fun w v u hv hu => ref_cmpQ hv hu i1 i2 i3 i4 _ _ _ _ (by rw [zval_mag, val_limbs]) (by rw [zval_mag, val_limbs]) (by rw [zval_mag, val_limbs]) (by rw [zval_mag, val_limbs])

/-! ### The row's step -/
set_option maxRecDepth 100000 in
theorem contract (H : Type) (enc : TypeId × Value → H) (W : World) (base : Nat) (args : Array Value) (ds gs : List (DataW H)) (before : List MemPlace)
    (hval0 : ∀ (j : Nat) t v, Tryz.f6.params[j]? = some t → args[j]? = some v → Value.okWide Tryz.prog W .any base t v)
    (hW : DataW.Whole enc Tryz.prog Tryz.f6.params.toList Rows.approxNearestSpec.vars false W args.toList ds gs before)
    (hsz0 : (DataW.weightsEach Tryz.prog (Tryz.f6.params.toList ++ Rows.approxNearestSpec.plain.varTypes Tryz.prog) (ds ++ gs)).all (· ≤ reachBytes) = true) :
    Calls Tryz.prog 6 args W fun e W' => ∃ v, e = .returned v ∧ Rows.approxNearestSpec.post enc Tryz.prog Tryz.f6 false true false false W args v W' := by
  have hW' := hW
  obtain ⟨p, q, hA0, hV, rfl, hfz, hnd⟩ := hW
  have hA : DataW.TrodAll enc Tryz.prog W 0 (fun _ => true) true Tryz.f6.params.toList args.toList ds p := hA0
  have hval : ∀ (j : Nat) t v, Tryz.f6.params[j]? = some t → args[j]? = some v → Value.okWide Tryz.prog W .any base t v := hval0
  have hsz : (DataW.weightsEach Tryz.prog (Tryz.f6.params.toList ++ []) (ds ++ gs)).all (· ≤ reachBytes) = true := hsz0
  rw [Tryz.params6] at hA hval hsz
  obtain ⟨v0, vs0, d0, ds0, p0, q0, hargs, rfl, rfl, h0, r0⟩ := trodAll_cons hA
  obtain ⟨v1, vs1, d1, ds1, p1, q1, rfl, rfl, rfl, h1, r1⟩ := trodAll_cons r0
  obtain ⟨rfl, rfl, rfl⟩ := trodAll_nil r1
  obtain rfl : args = #[v0, v1] := by cases args; simp_all
  obtain ⟨rfl, rfl⟩ := trodVars_none hV
  obtain ⟨g0, l0, m0, s0, bl0, bm0⟩ := open_q (hval 0 26 v0 rfl rfl) h0 (sized_arg hsz (j := 0) (t := 26) rfl rfl)
  have k1 := h1
  obtain ⟨b1, rfl, rfl, rfl, wb1⟩ := open_float Tryz.underlying30 (hval 1 30 v1 rfl rfl) h1
  have lb1 : b1 < 18446744073709551616 := by simpa [Lit.wf] using wb1
  refine (walk s0 bl0 bm0 lb1).mono fun e W' ⟨he, hb⟩ => ?_
  subst he
  exact ⟨_, rfl, _, _, _, _, _, _, hW', trodAll_cons_mk (shut_bool Tryz.underlying4 _) trodAll_mk0, trodAll_cons_mk (Below.trod laidOut (by kernel_rfl) (of_decide_eq_true (by kernel_rfl)) h0 hb (fun x hx => by first | cases hx; done | (have := hW'.lt x (by simp [hx]); simpa using this))) (trodAll_cons_mk (Below.trod laidOut (by kernel_rfl) (of_decide_eq_true (by kernel_rfl)) k1 hb (fun x hx => by first | cases hx; done | (have := hW'.lt x (by simp [hx]); simpa using this))) (trodAll_mk0)), rfl, hb.frame _, fun h => by cases h⟩

set_option maxRecDepth 100000 in
theorem lifted (os : Os) (started : os.Started) (H : Type) (enc : TypeId × Value → H) :
    ReturnsInHanded {} Tryz.checked os 6 .any (Rows.approxNearestSpec.pre6 enc Tryz.prog Tryz.f6 Rows.approxNearestRow.domain false) (Rows.approxNearestSpec.post enc Tryz.prog Tryz.f6 false true false false) := by
  refine returnsInHanded_of_change_shaped (C := Tryz.checked) own started (by kernel_rfl) Tryz.func6
    (ChangeSpec.witness6 (enc := enc) (C := Tryz.checked) false ⟨#[], #[.agg #[.bool false, .slice none 0 0, .slice none 0 0], .float .f64 0], []⟩ 8 (by kernel_rfl) (by kernel_rfl) (by kernel_rfl) (by kernel_rfl)) ?_
  intro W base args ds gs before hval0 hW _ hsz _ _
  exact contract H enc W base args ds gs before hval0 hW hsz

theorem holds : Rows.ApproxNearestSaid :=
  OpenClaim.holds_of_wide 6 Tryz.f6 rfl rfl rfl rfl rfl rfl rfl ⟨rfl, rfl, rfl, rfl, rfl⟩ rfl rfl rfl rfl rfl (by kernel_rfl) Tryz.func6 (by kernel_rfl)
    (of_decide_eq_true (by kernel_rfl)) (by unfold Func.isWrapper; first | (rw [if_pos (by decide +kernel)]; kernel_rfl) | (rw [if_neg (by decide +kernel)]; exact ⟨rfl, rfl⟩))
    (fun os started H enc _ => lifted os started H enc)
end Go.Proofs.YtjnbonellgpjnaaGreat.approxNearest
