/- The document's Mid of layer 4. -/
import Derived.Test.YtjnbonellgpjnaaGreatMi
import Derived.Test.YtjnbonellgpjnaaGreatMd
import Derived.Test.YtjnbonellgpjnaaGreatDb
import Derived.Test.YtjnbonellgpjnaaGreatTd
import Derived.Test.YtjnbonellgpjnaaGreatNe2
import Derived.Test.YtjnbonellgpjnaaGreatKP
set_option linter.unusedVariables false
set_option linter.unusedSimpArgs false
namespace Go.Proofs.YtjnbonellgpjnaaGreat
open Go.RowKit

/-- The document's Mid answers some float of which P is true. -/
def MidDoc (a b : Nat) (P : Nat → Prop) : Prop := ∀ w, Calls Tryz.prog 16 #[.float .f64 a, .float .f64 b] w fun e w' => ∃ m, e = .returned (.float .f64 m) ∧ P m ∧ m < 18446744073709551616 ∧ Below w.heap.size w w'
theorem ref_fromD {b : Nat} (hb : b < 18446744073709551616) (h : rung b < 9218868437227405312) (w : World) : Calls Tryz.prog 35 #[.float .f64 b] w fun e w' => FromIs w (fnumer b) (fdenom b) e w' := by
  rcases Nat.eq_zero_or_pos (rung b) with h0 | h0
  · exact ref_from_zero hb h0 w
  · exact ref_from_fin hb h h0 w

set_option maxRecDepth 100000 in
set_option maxHeartbeats 2000000 in
theorem doc_nanA {a b : Nat} (ha : a < 18446744073709551616) (hb : b < 18446744073709551616) (ha0 : (rankF a == 0) = true) (hadd : Ieee.double.add a b = none) (P : Nat → Prop) (hP : ∀ r, isNan r = true → P r) : MidDoc a b P := by
  intro w
  have HP := hid hP
  clear hP
  have HRA := hid (ref_rank ha); have HRB := hid (ref_rank hb)
  have h00 : (FloatKind.f64.format.order 0 0 != some .eq) = false := by decide +kernel
  have ka := of_decide_eq_true (show decide (rankF a = 0) = true by simpa using ha0)
  rw [ka] at HRA
  clear ha0 ka h00
  clear ha hb
  go_enter Tryz.func16, Tryz.ntmps16
  go_wp2_with fail
  refine (HRA.out _).mono ?_
  rintro e w1 ⟨rfl, hb1⟩
  have B1 := hid hb1
  clear hb1 HRA
  obtain ⟨r, q9, hn, hlt⟩ := run_nan_add 30 (w1) hadd
  have HN := hid hn; have HLT := hid hlt
  clear hadd hn hlt
  go_wp2_with fail
  go_ret
  exact ⟨_, rfl, HP.out _ HN.out, HLT.out, (B1.out).drew⟩

set_option maxRecDepth 100000 in
set_option maxHeartbeats 2000000 in
theorem doc_nanB {a b : Nat} (ha : a < 18446744073709551616) (hb : b < 18446744073709551616) (ha0 : (rankF a == 0) = false) (hb0 : (rankF b == 0) = true) (hadd : Ieee.double.add a b = none) (P : Nat → Prop) (hP : ∀ r, isNan r = true → P r) : MidDoc a b P := by
  intro w
  have HP := hid hP
  clear hP
  have HRA := hid (ref_rank ha); have HRB := hid (ref_rank hb)
  have h00 : (FloatKind.f64.format.order 0 0 != some .eq) = false := by decide +kernel
  have kb := of_decide_eq_true (show decide (rankF b = 0) = true by simpa using hb0)
  rw [kb] at HRB
  clear hb0 kb h00
  generalize rankF a = ra at *
  clear ha hb
  go_enter Tryz.func16, Tryz.ntmps16
  go_wp2_with fail
  refine (HRA.out _).mono ?_
  rintro e w1 ⟨rfl, hb1⟩
  have B1 := hid hb1
  clear hb1 HRA
  go_wp2_with fail
  refine (HRB.out _).mono ?_
  rintro e w2 ⟨rfl, hb2⟩
  have B2 := hid (B1.out.trans (hb2.mono B1.out.size))
  clear hb2 HRB B1
  obtain ⟨r, q9, hn, hlt⟩ := run_nan_add 30 (w2) hadd
  have HN := hid hn; have HLT := hid hlt
  clear hadd hn hlt
  go_wp2_with fail
  go_ret
  exact ⟨_, rfl, HP.out _ HN.out, HLT.out, (B2.out).drew⟩

set_option maxRecDepth 100000 in
set_option maxHeartbeats 2000000 in
theorem doc_infA_s {a b : Nat} (ha : a < 18446744073709551616) (hb : b < 18446744073709551616) (ha0 : (rankF a == 0) = false) (hb0 : (rankF b == 0) = false) (hsa : Ieee.double.sub a a = none) (s : Nat) (hs : s < 18446744073709551616) (hadd : Ieee.double.add a b = some s) (P : Nat → Prop) (hP : P s) : MidDoc a b P := by
  intro w
  have HP := hid hP; have HLT := hid hs
  clear hP hs
  have HRA := hid (ref_rank ha); have HRB := hid (ref_rank hb)
  have h00 : (FloatKind.f64.format.order 0 0 != some .eq) = false := by decide +kernel
  generalize rankF a = ra at *
  generalize rankF b = rb at *
  clear ha hb
  go_enter Tryz.func16, Tryz.ntmps16
  go_wp2_with fail
  refine (HRA.out _).mono ?_
  rintro e w1 ⟨rfl, hb1⟩
  have B1 := hid hb1
  clear hb1 HRA
  go_wp2_with fail
  refine (HRB.out _).mono ?_
  rintro e w2 ⟨rfl, hb2⟩
  have B2 := hid (B1.out.trans (hb2.mono B1.out.size))
  clear hb2 HRB B1
  obtain ⟨r1, q1, hn1, -⟩ := run_nan_sub 30 w2 hsa
  have f1 := ne_nan hn1
  clear hn1 hsa
  have q9 := run_add 30 (w2.drew) hadd
  clear hadd
  go_wp2_with fail
  go_ret
  exact ⟨_, rfl, HP.out, HLT.out, B2.out.drew⟩

set_option maxRecDepth 100000 in
set_option maxHeartbeats 2000000 in
theorem doc_infA_n {a b : Nat} (ha : a < 18446744073709551616) (hb : b < 18446744073709551616) (ha0 : (rankF a == 0) = false) (hb0 : (rankF b == 0) = false) (hsa : Ieee.double.sub a a = none) (hadd : Ieee.double.add a b = none) (P : Nat → Prop) (hP : ∀ r, isNan r = true → P r) : MidDoc a b P := by
  intro w
  have HP := hid hP
  clear hP
  have HRA := hid (ref_rank ha); have HRB := hid (ref_rank hb)
  have h00 : (FloatKind.f64.format.order 0 0 != some .eq) = false := by decide +kernel
  generalize rankF a = ra at *
  generalize rankF b = rb at *
  clear ha hb
  go_enter Tryz.func16, Tryz.ntmps16
  go_wp2_with fail
  refine (HRA.out _).mono ?_
  rintro e w1 ⟨rfl, hb1⟩
  have B1 := hid hb1
  clear hb1 HRA
  go_wp2_with fail
  refine (HRB.out _).mono ?_
  rintro e w2 ⟨rfl, hb2⟩
  have B2 := hid (B1.out.trans (hb2.mono B1.out.size))
  clear hb2 HRB B1
  obtain ⟨r1, q1, hn1, -⟩ := run_nan_sub 30 w2 hsa
  have f1 := ne_nan hn1
  clear hn1 hsa
  obtain ⟨r, q9, hn, hlt⟩ := run_nan_add 30 (w2.drew) hadd
  have HN := hid hn; have HLT := hid hlt
  clear hadd hn hlt
  go_wp2_with fail
  go_ret
  exact ⟨_, rfl, HP.out _ HN.out, HLT.out, (B2.out.drew).drew⟩

set_option maxRecDepth 100000 in
set_option maxHeartbeats 2000000 in
theorem doc_infB {a b : Nat} (ha : a < 18446744073709551616) (hb : b < 18446744073709551616) (ha0 : (rankF a == 0) = false) (hb0 : (rankF b == 0) = false) (hsa : Ieee.double.sub a a = some 0) (hsb : Ieee.double.sub b b = none) (s : Nat) (hs : s < 18446744073709551616) (hadd : Ieee.double.add a b = some s) (P : Nat → Prop) (hP : P s) : MidDoc a b P := by
  intro w
  have HP := hid hP; have HLT := hid hs
  clear hP hs
  have HRA := hid (ref_rank ha); have HRB := hid (ref_rank hb)
  have h00 : (FloatKind.f64.format.order 0 0 != some .eq) = false := by decide +kernel
  generalize rankF a = ra at *
  generalize rankF b = rb at *
  clear ha hb
  go_enter Tryz.func16, Tryz.ntmps16
  go_wp2_with fail
  refine (HRA.out _).mono ?_
  rintro e w1 ⟨rfl, hb1⟩
  have B1 := hid hb1
  clear hb1 HRA
  go_wp2_with fail
  refine (HRB.out _).mono ?_
  rintro e w2 ⟨rfl, hb2⟩
  have B2 := hid (B1.out.trans (hb2.mono B1.out.size))
  clear hb2 HRB B1
  have q0 := run_sub 30 w2 hsa
  obtain ⟨r1, q1, hn1, -⟩ := run_nan_sub 30 w2 hsb
  have f1 := ne_nan hn1
  clear hn1 hsb hsa
  have q9 := run_add 30 (w2.drew) hadd
  clear hadd
  go_wp2_with fail
  go_ret
  exact ⟨_, rfl, HP.out, HLT.out, B2.out.drew⟩

set_option maxRecDepth 100000 in
set_option maxHeartbeats 2000000 in
theorem doc_zeros {a b : Nat} (ha : a < 18446744073709551616) (hb : b < 18446744073709551616) (ha0 : (rankF a == 0) = false) (hb0 : (rankF b == 0) = false) (hsa : Ieee.double.sub a a = some 0) (hsb : Ieee.double.sub b b = some 0) (za : (FloatKind.f64.format.order a 0 == some .eq) = true) (zb : (FloatKind.f64.format.order b 0 == some .eq) = true) (s : Nat) (hs : s < 18446744073709551616) (hadd : Ieee.double.add a b = some s) (P : Nat → Prop) (hP : P s) : MidDoc a b P := by
  intro w
  have HP := hid hP; have HLT := hid hs
  clear hP hs
  have HRA := hid (ref_rank ha); have HRB := hid (ref_rank hb)
  have h00 : (FloatKind.f64.format.order 0 0 != some .eq) = false := by decide +kernel
  generalize rankF a = ra at *
  generalize rankF b = rb at *
  clear ha hb
  go_enter Tryz.func16, Tryz.ntmps16
  go_wp2_with fail
  refine (HRA.out _).mono ?_
  rintro e w1 ⟨rfl, hb1⟩
  have B1 := hid hb1
  clear hb1 HRA
  go_wp2_with fail
  refine (HRB.out _).mono ?_
  rintro e w2 ⟨rfl, hb2⟩
  have B2 := hid (B1.out.trans (hb2.mono B1.out.size))
  clear hb2 HRB B1
  have q0 := run_sub 30 w2 hsa
  have q1 := run_sub 30 w2 hsb
  clear hsb hsa
  have q9 := run_add 30 (w2) hadd
  clear hadd
  go_wp2_with fail
  go_ret
  exact ⟨_, rfl, HP.out, HLT.out, B2.out⟩

set_option maxRecDepth 100000 in
set_option maxHeartbeats 4000000 in
theorem doc_finA {a b : Nat} (ha : a < 18446744073709551616) (hb : b < 18446744073709551616) (ha0 : (rankF a == 0) = false) (hb0 : (rankF b == 0) = false) (hsa : Ieee.double.sub a a = some 0) (hsb : Ieee.double.sub b b = some 0) (za : (FloatKind.f64.format.order a 0 == some .eq) = false) {Z1 Z2 X N : Int} {D1 D2 DX E m : Nat}
    (h1 : ∀ w, Calls Tryz.prog 35 #[.float .f64 a] w fun e w' => FromIs w Z1 D1 e w')
    (h2 : ∀ w, Calls Tryz.prog 35 #[.float .f64 b] w fun e w' => FromIs w Z2 D2 e w')
    (h3 : ∀ (w : World) (v u : Value), IsQ w v Z1 D1 → IsQ w u Z2 D2 → Calls Tryz.prog 38 #[v, u] w fun e w' => IsRat w X DX e w')
    (h4 : ∀ (w : World) (v u : Value), IsQ w v X DX → IsQ w u 2 1 → Calls Tryz.prog 37 #[v, u] w fun e w' => FromIs w N E e w')
    (h5 : ∀ (w : World) (v : Value), IsQ w v N E → Calls Tryz.prog 12 #[v] w fun e w' => e = .returned (.float .f64 m) ∧ Below w.heap.size w w') (w : World) :
    Calls Tryz.prog 16 #[.float .f64 a, .float .f64 b] w fun e w' => e = .returned (.float .f64 m) ∧ Below w.heap.size w w' := by
  have HRA := hid (ref_rank ha); have HRB := hid (ref_rank hb)
  have H1 := hid h1; have H2 := hid h2; have H3 := hid h3; have H4 := hid h4; have H5 := hid h5
  have HOF := hid (fun w => ref_ofQ 2 (by decide) (by decide) w)
  have h00 : (FloatKind.f64.format.order 0 0 != some .eq) = false := by decide +kernel
  clear ha hb h1 h2 h3 h4 h5
  generalize rankF a = ra at *
  generalize rankF b = rb at *
  go_enter Tryz.func16, Tryz.ntmps16
  go_wp2_with fail
  refine (HRA.out _).mono ?_
  rintro e w1 ⟨rfl, hb1⟩
  have B1 := hid hb1
  clear hb1 HRA
  go_wp2_with fail
  refine (HRB.out _).mono ?_
  rintro e w2 ⟨rfl, hb2⟩
  have B2 := hid (B1.out.trans (hb2.mono B1.out.size))
  clear hb2 HRB B1
  have q0 := run_sub 30 w2 hsa
  have q1 := run_sub 30 w2 hsb
  clear hsb hsa
  go_wp2_with fail
  refine (H1.out _).mono ?_
  rintro e w3 ⟨v3, rfl, hq, hb⟩
  have R3 := hid hq
  have B3 := hid (B2.out.trans (hb.mono B2.out.size))
  obtain ⟨r1, r2, r3, r4, rfl⟩ := hq.form
  obtain ⟨w4, gY, hw4, hgY, hb4, hB4, hy4⟩ := box3_new B3.out (.bool (zneg Z1)) (.slice r1 (zlim Z1).length r2) (.slice r3 (limbs D1).length r4)
  have R4 := hid (IsQ.below R3.out hb4); have Y4 := hid hy4; have B4 := hid hB4
  have HW4 := hid hw4.symm; have HGY := hid hgY.symm
  clear hq hb hw4 hgY hb4 hB4 hy4 R3 B3 B2 H1 q0 q1
  go_wp2_with fail
  rw [HW4.out, HGY.out]
  clear HW4 HGY
  refine (H2.out _).mono ?_
  rintro e w5 ⟨v5, rfl, hq, hb⟩
  have S5 := hid hq
  have R5 := hid (R4.out.below hb); have Y5 := hid (Y4.out.below hb); have B5 := hid (B4.out.trans (hb.mono B4.out.size))
  obtain ⟨s1, s2, s3, s4, rfl⟩ := hq.form
  obtain ⟨w6, gZ, hw6, hgZ, hb6, hB6, hz6⟩ := box3_new B5.out (.bool (zneg Z2)) (.slice s1 (zlim Z2).length s2) (.slice s3 (limbs D2).length s4)
  have S6 := hid (S5.out.below hb6); have R6 := hid (R5.out.below hb6); have Y6 := hid (Y5.out.below hb6); have Z6 := hid hz6; have B6 := hid hB6
  have HW6 := hid hw6.symm; have HGZ := hid hgZ.symm
  clear hq hb hw6 hgZ hb6 hB6 hz6 R4 Y4 B4 S5 R5 B5 H2
  obtain ⟨y0, y1, y2, -, -, -⟩ := Y5.out.open3
  have ltY := Y5.out.lt
  go_wp2_with fail
  rw [HW6.out, HGZ.out]
  clear HW6 HGZ Y5 ltY
  refine (H3.out _ _ _ R6.out S6.out).mono ?_
  rintro e w7 ⟨v7, rfl, hq, hb⟩
  have T7 := hid hq
  have B7 := hid (B6.out.trans (hb.mono B6.out.size))
  clear hq hb R6 S6 Y6 Z6 B6 H3 y0 y1 y2
  go_wp2_with fail
  refine (HOF.out _).mono ?_
  rintro e w8 ⟨v8, rfl, hq, hb⟩
  have U8 := hid hq
  have T8 := hid (T7.out.below hb)
  have B8 := hid (B7.out.trans (hb.mono B7.out.size))
  clear hq hb T7 B7 HOF
  go_wp2_with fail
  refine (H4.out _ _ _ T8.out U8.out).mono ?_
  rintro e w9 ⟨v9, rfl, hq, hb⟩
  have V9 := hid hq
  have B9 := hid (B8.out.trans (hb.mono B8.out.size))
  obtain ⟨t1, t2, t3, t4, rfl⟩ := hq.form
  obtain ⟨wa, gV, hwa, hgV, hba, hBa, hza⟩ := box3_new B9.out (.bool (zneg N)) (.slice t1 (zlim N).length t2) (.slice t3 (limbs E).length t4)
  have VA := hid (V9.out.below hba); have XA := hid hza; have BA := hid hBa
  have HWA := hid hwa.symm; have HGV := hid hgV.symm
  clear hq hb hwa hgV hba hBa hza T8 U8 B8 V9 B9 H4
  go_wp2_with fail
  rw [HWA.out, HGV.out]
  clear HWA HGV
  refine (H5.out _ _ VA.out).mono ?_
  rintro e wb ⟨rfl, hb⟩
  have BB := hid (BA.out.trans (hb.mono BA.out.size))
  clear hb
  go_wp2_with fail
  go_ret
  exact ⟨rfl, BB.out⟩

set_option maxRecDepth 100000 in
set_option maxHeartbeats 4000000 in
theorem doc_finB {a b : Nat} (ha : a < 18446744073709551616) (hb : b < 18446744073709551616) (ha0 : (rankF a == 0) = false) (hb0 : (rankF b == 0) = false) (hsa : Ieee.double.sub a a = some 0) (hsb : Ieee.double.sub b b = some 0) (za : (FloatKind.f64.format.order a 0 == some .eq) = true) (zb : (FloatKind.f64.format.order b 0 == some .eq) = false) {Z1 Z2 X N : Int} {D1 D2 DX E m : Nat}
    (h1 : ∀ w, Calls Tryz.prog 35 #[.float .f64 a] w fun e w' => FromIs w Z1 D1 e w')
    (h2 : ∀ w, Calls Tryz.prog 35 #[.float .f64 b] w fun e w' => FromIs w Z2 D2 e w')
    (h3 : ∀ (w : World) (v u : Value), IsQ w v Z1 D1 → IsQ w u Z2 D2 → Calls Tryz.prog 38 #[v, u] w fun e w' => IsRat w X DX e w')
    (h4 : ∀ (w : World) (v u : Value), IsQ w v X DX → IsQ w u 2 1 → Calls Tryz.prog 37 #[v, u] w fun e w' => FromIs w N E e w')
    (h5 : ∀ (w : World) (v : Value), IsQ w v N E → Calls Tryz.prog 12 #[v] w fun e w' => e = .returned (.float .f64 m) ∧ Below w.heap.size w w') (w : World) :
    Calls Tryz.prog 16 #[.float .f64 a, .float .f64 b] w fun e w' => e = .returned (.float .f64 m) ∧ Below w.heap.size w w' := by
  have HRA := hid (ref_rank ha); have HRB := hid (ref_rank hb)
  have H1 := hid h1; have H2 := hid h2; have H3 := hid h3; have H4 := hid h4; have H5 := hid h5
  have HOF := hid (fun w => ref_ofQ 2 (by decide) (by decide) w)
  have h00 : (FloatKind.f64.format.order 0 0 != some .eq) = false := by decide +kernel
  clear ha hb h1 h2 h3 h4 h5
  generalize rankF a = ra at *
  generalize rankF b = rb at *
  go_enter Tryz.func16, Tryz.ntmps16
  go_wp2_with fail
  refine (HRA.out _).mono ?_
  rintro e w1 ⟨rfl, hb1⟩
  have B1 := hid hb1
  clear hb1 HRA
  go_wp2_with fail
  refine (HRB.out _).mono ?_
  rintro e w2 ⟨rfl, hb2⟩
  have B2 := hid (B1.out.trans (hb2.mono B1.out.size))
  clear hb2 HRB B1
  have q0 := run_sub 30 w2 hsa
  have q1 := run_sub 30 w2 hsb
  clear hsb hsa
  go_wp2_with fail
  refine (H1.out _).mono ?_
  rintro e w3 ⟨v3, rfl, hq, hb⟩
  have R3 := hid hq
  have B3 := hid (B2.out.trans (hb.mono B2.out.size))
  obtain ⟨r1, r2, r3, r4, rfl⟩ := hq.form
  obtain ⟨w4, gY, hw4, hgY, hb4, hB4, hy4⟩ := box3_new B3.out (.bool (zneg Z1)) (.slice r1 (zlim Z1).length r2) (.slice r3 (limbs D1).length r4)
  have R4 := hid (IsQ.below R3.out hb4); have Y4 := hid hy4; have B4 := hid hB4
  have HW4 := hid hw4.symm; have HGY := hid hgY.symm
  clear hq hb hw4 hgY hb4 hB4 hy4 R3 B3 B2 H1 q0 q1
  go_wp2_with fail
  rw [HW4.out, HGY.out]
  clear HW4 HGY
  refine (H2.out _).mono ?_
  rintro e w5 ⟨v5, rfl, hq, hb⟩
  have S5 := hid hq
  have R5 := hid (R4.out.below hb); have Y5 := hid (Y4.out.below hb); have B5 := hid (B4.out.trans (hb.mono B4.out.size))
  obtain ⟨s1, s2, s3, s4, rfl⟩ := hq.form
  obtain ⟨w6, gZ, hw6, hgZ, hb6, hB6, hz6⟩ := box3_new B5.out (.bool (zneg Z2)) (.slice s1 (zlim Z2).length s2) (.slice s3 (limbs D2).length s4)
  have S6 := hid (S5.out.below hb6); have R6 := hid (R5.out.below hb6); have Y6 := hid (Y5.out.below hb6); have Z6 := hid hz6; have B6 := hid hB6
  have HW6 := hid hw6.symm; have HGZ := hid hgZ.symm
  clear hq hb hw6 hgZ hb6 hB6 hz6 R4 Y4 B4 S5 R5 B5 H2
  obtain ⟨y0, y1, y2, -, -, -⟩ := Y5.out.open3
  have ltY := Y5.out.lt
  go_wp2_with fail
  rw [HW6.out, HGZ.out]
  clear HW6 HGZ Y5 ltY
  refine (H3.out _ _ _ R6.out S6.out).mono ?_
  rintro e w7 ⟨v7, rfl, hq, hb⟩
  have T7 := hid hq
  have B7 := hid (B6.out.trans (hb.mono B6.out.size))
  clear hq hb R6 S6 Y6 Z6 B6 H3 y0 y1 y2
  go_wp2_with fail
  refine (HOF.out _).mono ?_
  rintro e w8 ⟨v8, rfl, hq, hb⟩
  have U8 := hid hq
  have T8 := hid (T7.out.below hb)
  have B8 := hid (B7.out.trans (hb.mono B7.out.size))
  clear hq hb T7 B7 HOF
  go_wp2_with fail
  refine (H4.out _ _ _ T8.out U8.out).mono ?_
  rintro e w9 ⟨v9, rfl, hq, hb⟩
  have V9 := hid hq
  have B9 := hid (B8.out.trans (hb.mono B8.out.size))
  obtain ⟨t1, t2, t3, t4, rfl⟩ := hq.form
  obtain ⟨wa, gV, hwa, hgV, hba, hBa, hza⟩ := box3_new B9.out (.bool (zneg N)) (.slice t1 (zlim N).length t2) (.slice t3 (limbs E).length t4)
  have VA := hid (V9.out.below hba); have XA := hid hza; have BA := hid hBa
  have HWA := hid hwa.symm; have HGV := hid hgV.symm
  clear hq hb hwa hgV hba hBa hza T8 U8 B8 V9 B9 H4
  go_wp2_with fail
  rw [HWA.out, HGV.out]
  clear HWA HGV
  refine (H5.out _ _ VA.out).mono ?_
  rintro e wb ⟨rfl, hb⟩
  have BB := hid (BA.out.trans (hb.mono BA.out.size))
  clear hb
  go_wp2_with fail
  go_ret
  exact ⟨rfl, BB.out⟩

theorem half_cross {A B z N S1 S2 : Int} {C D U d E : Int} (hC : C ≠ 0) (hD : D ≠ 0) (hd : d ≠ 0) (h1 : A * U = S1 * C) (h2 : B * U = S2 * D) (h3 : z * (C * D) = (A * D + B * C) * d) (h4 : N * (2 * d) = z * 1 * E) : N * (2 * U) = (S1 + S2) * E := by
  apply Int.eq_of_mul_eq_mul_right (Int.mul_ne_zero hd (Int.mul_ne_zero hC hD)); grind

/-- The document's Mid of two floats that are finite and not both 0: half of their sum, rounded once. -/
noncomputable def midD (a b : Nat) : Nat := if smag a + smag b = 0 then 0 else wordOf (decide (smag a + smag b < 0)) (rungAt (smag a + smag b).natAbs (-1075))

theorem tq_mid {N : Int} {E a b : Nat} (hE : 0 < E) (h : N * (2 * (units : Int)) = (smag a + smag b) * (E : Int)) : tq N E = midD a b := by
  unfold tq midD
  obtain ⟨U, hU, huu⟩ := units_eq
  have hu0 := units_pos
  generalize units = V at *
  have hu : (0 : Int) < 2 * (V : Int) := by omega
  have hE' : (0 : Int) < (E : Int) := by omega
  by_cases h0 : N = 0
  · rw [h0, Int.zero_mul] at h
    have : smag a + smag b = 0 := by
      rcases Int.mul_eq_zero.1 h.symm with h | h
      · exact h
      · omega
    rw [if_pos h0, if_pos this]
  have hS : smag a + smag b ≠ 0 := by
    intro e
    rw [e, Int.zero_mul] at h
    rcases Int.mul_eq_zero.1 h with h | h
    · exact h0 h
    · omega
  rw [if_neg h0, if_neg hS]
  generalize smag a + smag b = S at *
  have hn : decide (N < 0) = decide (S < 0) := by
    by_cases hs : S < 0
    · have h1 := Int.mul_neg_of_neg_of_pos hs hE'
      have : N < 0 := by
        rcases Int.lt_or_le N 0 with g | g
        · exact g
        · have := Int.mul_nonneg g (Int.le_of_lt hu); omega
      rw [decide_eq_true this, decide_eq_true hs]
    · have h1 := Int.mul_nonneg (show 0 ≤ S by omega) (Int.le_of_lt hE')
      have : ¬ N < 0 := by
        intro g
        have := Int.mul_neg_of_neg_of_pos g hu
        omega
      rw [decide_eq_false this, decide_eq_false hs]
  rw [hn]
  have h1 : N * ((2 * V : Nat) : Int) = S * (E : Int) := by rw [Int.natCast_mul]; exact h
  have h2 := congrArg Int.natAbs h1
  rw [Int.natAbs_mul, Int.natAbs_mul, Int.natAbs_natCast, Int.natAbs_natCast] at h2
  have e2 : 2 * V = 2 ^ (U + 1) := by rw [huu, Nat.pow_succ, Nat.mul_comm]
  rw [e2] at h2
  have := nearF_at (a := N.natAbs) (d := E) (m := S.natAbs) (K := U + 1) (by omega) hE (by omega) h2
  rw [this, show (-((U + 1 : Nat) : Int)) = -1075 by omega]

theorem doc_fin {a b : Nat} (ha : a < 18446744073709551616) (hb : b < 18446744073709551616) (hfa : rung a < 9218868437227405312) (hfb : rung b < 9218868437227405312) (ha0 : (rankF a == 0) = false) (hb0 : (rankF b == 0) = false) (hz : (FloatKind.f64.format.order a 0 == some .eq) = false ∨ (FloatKind.f64.format.order b 0 == some .eq) = false) (w : World) :
    Calls Tryz.prog 16 #[.float .f64 a, .float .f64 b] w fun e w' => e = .returned (.float .f64 (midD a b)) ∧ Below w.heap.size w w' := by
  obtain ⟨q1, q2⟩ := from_len hfa
  obtain ⟨q3, q4⟩ := from_len hfb
  obtain ⟨p1, p2⟩ := from_plainN a
  obtain ⟨p3, p4⟩ := from_plainN b
  have pa := fden_pos a; have pb := fden_pos b
  have ua := from_units a; have ub := from_units b
  have hFA := fun w => ref_fromD ha hfa w
  have hFB := fun w => ref_fromD hb hfb w
  generalize fnumer a = A at *
  generalize fdenom a = C at *
  generalize fnumer b = B at *
  generalize fdenom b = D at *
  have hCD : 0 < C * D := Nat.mul_pos pa pb
  have m1 := zlim_mul (A := A) (B := (D : Int)) (m := 70) (n := 40) (by omega) (show (limbs D).length ≤ 40 by omega)
  have m2 := zlim_mul (A := B) (B := (C : Int)) (m := 70) (n := 40) (by omega) (show (limbs C).length ≤ 40 by omega)
  have m3 := zlim_add m1 m2
  have m4 := limbs_mul (A := C) (B := D) (m := 40) (n := 40) (by omega) (by omega)
  have hx := q_crossD (A * (D : Int) + B * (C : Int)) (d := C * D) (by omega)
  have lx := qnum_lenD (A * (D : Int) + B * (C : Int)) (C * D)
  have ld := qden_lenD (A * (D : Int) + B * (C : Int)) (C * D)
  have px := qnum_plain (A * (D : Int) + B * (C : Int)) (C * D)
  have pd := qden_plain (A * (D : Int) + B * (C : Int)) (C * D)
  have hd0 := qd_pos (A * (D : Int) + B * (C : Int)) (C * D)
  have hadd : ∀ (w : World) (v u : Value), IsQ w v A C → IsQ w u B D → Calls Tryz.prog 38 #[v, u] w fun e w' => IsRat w (qnum (A * (D : Int) + B * (C : Int)) (C * D)) (qden (A * (D : Int) + B * (C : Int)) (C * D)) e w' := fun w v u hv hu =>
    ref_addQ hv hu (by omega) (by omega) (by omega) (by omega) A B C D (by rw [zval_plain, val_limbs]; exact p1) (by rw [zval_plain, val_limbs]; exact p2) (by rw [zval_plain, val_limbs]; exact p3) (by rw [zval_plain, val_limbs]; exact p4) (by omega) (by omega) (by omega) (by omega) (by omega) (by omega) hCD
  generalize qnum (A * (D : Int) + B * (C : Int)) (C * D) = X at *
  generalize qden (A * (D : Int) + B * (C : Int)) (C * D) = d at *
  have l2 : (zlim 2).length ≤ 5 := by decide
  have l1 : (limbs 1).length ≤ 5 := by decide
  have hdiv : ∀ (w : World) (v u : Value), IsQ w v X d → IsQ w u 2 1 → Calls Tryz.prog 37 #[v, u] w fun e w' => FromIs w (qnum (X * ((1 : Nat) : Int)) (2 * d)) (qden (X * ((1 : Nat) : Int)) (2 * d)) e w' := fun w v u hv hu =>
    ref_divQ hv hu (by omega) (by omega) (by omega) (by omega) X 2 d 1 (2 * d) (by rw [zval_plain, val_limbs]; exact px) (by rw [zval_plain, val_limbs]; exact pd) (by decide +kernel) (by decide +kernel) (by omega) (by omega) (by omega) (by omega) (by omega) (by omega)
  have hy := q_crossD (X * ((1 : Nat) : Int)) (d := 2 * d) (by omega)
  have ly := qnum_lenD (X * ((1 : Nat) : Int)) (2 * d)
  have le := qden_lenD (X * ((1 : Nat) : Int)) (2 * d)
  have hE := qd_pos (X * ((1 : Nat) : Int)) (2 * d)
  have py := qnum_plain (X * ((1 : Nat) : Int)) (2 * d)
  have pe := qden_plain (X * ((1 : Nat) : Int)) (2 * d)
  have m5 := limbs_mul (A := 2) (B := d) (m := 5) (n := 100) (by decide) (by omega)
  have m6 : (zlim (X * ((1 : Nat) : Int))).length ≤ 150 := by rw [show X * ((1 : Nat) : Int) = X by omega]; omega
  generalize qnum (X * ((1 : Nat) : Int)) (2 * d) = N at *
  generalize qden (X * ((1 : Nat) : Int)) (2 * d) = E at *
  have hval : tq N E = midD a b := by
    refine tq_mid hE (half_cross (z := X) (C := (C : Int)) (D := (D : Int)) (d := (d : Int)) (by omega) (by omega) (by omega) ua ub ?_ ?_)
    · rw [← Int.natCast_mul]; exact hx
    · have := hy
      rw [Int.natCast_mul] at this
      exact this
  have hto : ∀ (w : World) (v : Value), IsQ w v N E → Calls Tryz.prog 12 #[v] w fun e w' => e = .returned (.float .f64 (midD a b)) ∧ Below w.heap.size w w' := fun w v hv => by
    have := ref4_to hv (by omega) (by omega)
    rw [zval_plain, val_limbs, py, pe, hval] at this
    exact this
  rcases hz' : (FloatKind.f64.format.order a 0 == some .eq) with _ | _
  · exact doc_finA ha hb ha0 hb0 (sub_self hfa) (sub_self hfb) hz' hFA hFB hadd hdiv hto w
  · have hzb : (FloatKind.f64.format.order b 0 == some .eq) = false := by
      rcases hz with h | h
      · rw [hz'] at h; cases h
      · exact h
    exact doc_finB ha hb ha0 hb0 (sub_self hfa) (sub_self hfb) hz' hzb hFA hFB hadd hdiv hto w
end Go.Proofs.YtjnbonellgpjnaaGreat
