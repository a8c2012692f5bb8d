/- For every two floats, approx.Mid answers the same whichever comes first, and what it answers stands between them, but for NaN and unlike infinities, where it is NaN. Conditions: none. -/
import Derived.Test.YtbmofdoehfjjdaaGreatKT
import Derived.Test.YtbmofdoehfjjdaaGreatKQ
import Derived.Test.YtbmofdoehfjjdaaGreatKB
set_option linter.unusedVariables false
set_option linter.unusedSimpArgs false
namespace Go.Proofs.YtbmofdoehfjjdaaGreat.approxBetween
open Go.ChangeShapes Go.WideShapes Go.ChangeAt Go.RowKit

theorem same_self (m : Nat) : sameB m m = true := by unfold sameB; cases isNan m <;> simp
/-- a ≤ m, m ≤ b, b ≤ m, m ≤ a: what the law's last line meets. -/
theorem between_tests {a b m : Nat} (ht : (srung a ≤ srung m ∧ srung m ≤ srung b ∨ srung b ≤ srung m ∧ srung m ≤ srung a) ∧ fnum a m = true ∧ fnum m b = true) :
    ((FloatKind.f64.format.order a m == some .lt || FloatKind.f64.format.order a m == some .eq) = true ∧ (FloatKind.f64.format.order m b == some .lt || FloatKind.f64.format.order m b == some .eq) = true) ∨
    ((FloatKind.f64.format.order a m == some .lt || FloatKind.f64.format.order a m == some .eq) = true ∧ (FloatKind.f64.format.order m b == some .lt || FloatKind.f64.format.order m b == some .eq) = false ∧ (FloatKind.f64.format.order b m == some .lt || FloatKind.f64.format.order b m == some .eq) = true ∧ (FloatKind.f64.format.order m a == some .lt || FloatKind.f64.format.order m a == some .eq) = true) ∨
    ((FloatKind.f64.format.order a m == some .lt || FloatKind.f64.format.order a m == some .eq) = false ∧ (FloatKind.f64.format.order b m == some .lt || FloatKind.f64.format.order b m == some .eq) = true ∧ (FloatKind.f64.format.order m a == some .lt || FloatKind.f64.format.order m a == some .eq) = true) := by
  obtain ⟨h, f1, f2⟩ := ht
  have f3 : fnum b m = true := by unfold fnum at *; rw [Bool.and_comm]; exact f2
  have f4 : fnum m a = true := by unfold fnum at *; rw [Bool.and_comm]; exact f1
  rw [leq_tests, leq_tests, leq_tests, leq_tests, f1, f2, f3, f4]
  simp only [Bool.true_and, decide_eq_true_eq, decide_eq_false_iff_not]
  omega

set_option maxRecDepth 100000 in
set_option maxHeartbeats 4000000 in
theorem w_nanA {a b m : Nat} (hm1 : MidIs a b m) (hm2 : MidIs b a m) (hm : m < 18446744073709551616) (hna : (FloatKind.f64.format.order a a != some .eq) = true) (hmn : (FloatKind.f64.format.order m m != some .eq) = true) (w : World) : Calls Tryz.prog 11 #[.float .f64 a, .float .f64 b] w fun e w' => e = .returned (.bool true) ∧ Below w.heap.size w w' := by
  have HM1 := hid hm1; have HM2 := hid hm2
  have HSM := hid (fun w => law_same hm hm w)
  rw [same_self] at HSM
  clear hm1 hm2 hm
  go_enter Tryz.func11, Tryz.ntmps11
  go_wp2_with fail
  refine (awakeF _).mono ?_
  rintro e w1 ⟨rfl, hb1⟩
  have HB1 := hid hb1
  clear hb1
  go_wp2_with fail
  refine (HM1.out _).mono ?_
  rintro e w2 ⟨rfl, hb2⟩
  have HB2 := hid (HB1.out.trans (hb2.mono HB1.out.size))
  clear hb2
  go_wp2_with fail
  refine (HM2.out _).mono ?_
  rintro e w3 ⟨rfl, hb3⟩
  have HB3 := hid (HB2.out.trans (hb3.mono HB2.out.size))
  clear hb3
  
  go_wp2_with fail
  refine (HSM.out _).mono ?_
  rintro e w' ⟨rfl, rfl⟩
  go_wp2_with fail
  go_ret
  exact ⟨by simp, HB3.out⟩

set_option maxRecDepth 100000 in
set_option maxHeartbeats 4000000 in
theorem w_nanB {a b m : Nat} (hm1 : MidIs a b m) (hm2 : MidIs b a m) (hm : m < 18446744073709551616) (hna : (FloatKind.f64.format.order a a != some .eq) = false) (hnb : (FloatKind.f64.format.order b b != some .eq) = true) (hmn : (FloatKind.f64.format.order m m != some .eq) = true) (w : World) : Calls Tryz.prog 11 #[.float .f64 a, .float .f64 b] w fun e w' => e = .returned (.bool true) ∧ Below w.heap.size w w' := by
  have HM1 := hid hm1; have HM2 := hid hm2
  have HSM := hid (fun w => law_same hm hm w)
  rw [same_self] at HSM
  clear hm1 hm2 hm
  go_enter Tryz.func11, Tryz.ntmps11
  go_wp2_with fail
  refine (awakeF _).mono ?_
  rintro e w1 ⟨rfl, hb1⟩
  have HB1 := hid hb1
  clear hb1
  go_wp2_with fail
  refine (HM1.out _).mono ?_
  rintro e w2 ⟨rfl, hb2⟩
  have HB2 := hid (HB1.out.trans (hb2.mono HB1.out.size))
  clear hb2
  go_wp2_with fail
  refine (HM2.out _).mono ?_
  rintro e w3 ⟨rfl, hb3⟩
  have HB3 := hid (HB2.out.trans (hb3.mono HB2.out.size))
  clear hb3
  
  go_wp2_with fail
  refine (HSM.out _).mono ?_
  rintro e w' ⟨rfl, rfl⟩
  go_wp2_with fail
  go_ret
  exact ⟨by simp, HB3.out⟩

set_option maxRecDepth 100000 in
set_option maxHeartbeats 4000000 in
theorem w_fin {a b m : Nat} (hm1 : MidIs a b m) (hm2 : MidIs b a m) (hm : m < 18446744073709551616) (hna : (FloatKind.f64.format.order a a != some .eq) = false) (hnb : (FloatKind.f64.format.order b b != some .eq) = false) (ha : Ieee.double.sub a a = some 0) (ht : (srung a ≤ srung m ∧ srung m ≤ srung b ∨ srung b ≤ srung m ∧ srung m ≤ srung a) ∧ fnum a m = true ∧ fnum m b = true) (w : World) : Calls Tryz.prog 11 #[.float .f64 a, .float .f64 b] w fun e w' => e = .returned (.bool true) ∧ Below w.heap.size w w' := by
  have hp := between_tests ht
  have HM1 := hid hm1; have HM2 := hid hm2
  have HSM := hid (fun w => law_same hm hm w)
  rw [same_self] at HSM
  clear hm1 hm2 hm
  clear ht
  rcases hp with ⟨t1, t2⟩ | ⟨t1, t2, t3, t4⟩ | ⟨t1, t3, t4⟩
  · go_enter Tryz.func11, Tryz.ntmps11
    go_wp2_with fail
    refine (awakeF _).mono ?_
    rintro e w1 ⟨rfl, hb1⟩
    have HB1 := hid hb1
    clear hb1
    go_wp2_with fail
    refine (HM1.out _).mono ?_
    rintro e w2 ⟨rfl, hb2⟩
    have HB2 := hid (HB1.out.trans (hb2.mono HB1.out.size))
    clear hb2
    go_wp2_with fail
    refine (HM2.out _).mono ?_
    rintro e w3 ⟨rfl, hb3⟩
    have HB3 := hid (HB2.out.trans (hb3.mono HB2.out.size))
    clear hb3
    have hs := run_sub 30 w3 ha
    have h00 : (FloatKind.f64.format.order 0 0 != some .eq) = false := by decide +kernel
    go_wp2_with fail
    refine (HSM.out _).mono ?_
    rintro e w' ⟨rfl, rfl⟩
    go_wp2_with fail
    go_ret
    exact ⟨by simp, HB3.out⟩
  · go_enter Tryz.func11, Tryz.ntmps11
    go_wp2_with fail
    refine (awakeF _).mono ?_
    rintro e w1 ⟨rfl, hb1⟩
    have HB1 := hid hb1
    clear hb1
    go_wp2_with fail
    refine (HM1.out _).mono ?_
    rintro e w2 ⟨rfl, hb2⟩
    have HB2 := hid (HB1.out.trans (hb2.mono HB1.out.size))
    clear hb2
    go_wp2_with fail
    refine (HM2.out _).mono ?_
    rintro e w3 ⟨rfl, hb3⟩
    have HB3 := hid (HB2.out.trans (hb3.mono HB2.out.size))
    clear hb3
    have hs := run_sub 30 w3 ha
    have h00 : (FloatKind.f64.format.order 0 0 != some .eq) = false := by decide +kernel
    go_wp2_with fail
    refine (HSM.out _).mono ?_
    rintro e w' ⟨rfl, rfl⟩
    go_wp2_with fail
    go_ret
    exact ⟨by simp, HB3.out⟩
  · go_enter Tryz.func11, Tryz.ntmps11
    go_wp2_with fail
    refine (awakeF _).mono ?_
    rintro e w1 ⟨rfl, hb1⟩
    have HB1 := hid hb1
    clear hb1
    go_wp2_with fail
    refine (HM1.out _).mono ?_
    rintro e w2 ⟨rfl, hb2⟩
    have HB2 := hid (HB1.out.trans (hb2.mono HB1.out.size))
    clear hb2
    go_wp2_with fail
    refine (HM2.out _).mono ?_
    rintro e w3 ⟨rfl, hb3⟩
    have HB3 := hid (HB2.out.trans (hb3.mono HB2.out.size))
    clear hb3
    have hs := run_sub 30 w3 ha
    have h00 : (FloatKind.f64.format.order 0 0 != some .eq) = false := by decide +kernel
    go_wp2_with fail
    refine (HSM.out _).mono ?_
    rintro e w' ⟨rfl, rfl⟩
    go_wp2_with fail
    go_ret
    exact ⟨by simp, HB3.out⟩

set_option maxRecDepth 100000 in
set_option maxHeartbeats 4000000 in
theorem w_infA {a b m : Nat} (hm1 : MidIs a b m) (hm2 : MidIs b a m) (hm : m < 18446744073709551616) (hna : (FloatKind.f64.format.order a a != some .eq) = false) (hnb : (FloatKind.f64.format.order b b != some .eq) = false) (ha : Ieee.double.sub a a = none) (hb : Ieee.double.sub b b = some 0) (ht : (srung a ≤ srung m ∧ srung m ≤ srung b ∨ srung b ≤ srung m ∧ srung m ≤ srung a) ∧ fnum a m = true ∧ fnum m b = true) (w : World) : Calls Tryz.prog 11 #[.float .f64 a, .float .f64 b] w fun e w' => e = .returned (.bool true) ∧ Below w.heap.size w w' := by
  have hp := between_tests ht
  have HM1 := hid hm1; have HM2 := hid hm2
  have HSM := hid (fun w => law_same hm hm w)
  rw [same_self] at HSM
  clear hm1 hm2 hm
  clear ht
  rcases hp with ⟨t1, t2⟩ | ⟨t1, t2, t3, t4⟩ | ⟨t1, t3, t4⟩
  · go_enter Tryz.func11, Tryz.ntmps11
    go_wp2_with fail
    refine (awakeF _).mono ?_
    rintro e w1 ⟨rfl, hb1⟩
    have HB1 := hid hb1
    clear hb1
    go_wp2_with fail
    refine (HM1.out _).mono ?_
    rintro e w2 ⟨rfl, hb2⟩
    have HB2 := hid (HB1.out.trans (hb2.mono HB1.out.size))
    clear hb2
    go_wp2_with fail
    refine (HM2.out _).mono ?_
    rintro e w3 ⟨rfl, hb3⟩
    have HB3 := hid (HB2.out.trans (hb3.mono HB2.out.size))
    clear hb3
    obtain ⟨r, hs, hrn, -⟩ := run_nan_sub 30 w3 ha
    have hr0 := ne_nan hrn
    clear hrn
    have hs2 := run_sub 30 w3.drew hb
    have h00 : (FloatKind.f64.format.order 0 0 != some .eq) = false := by decide +kernel
    go_wp2_with fail
    refine (HSM.out _).mono ?_
    rintro e w' ⟨rfl, rfl⟩
    go_wp2_with fail
    go_ret
    exact ⟨by simp, HB3.out.drew⟩
  · go_enter Tryz.func11, Tryz.ntmps11
    go_wp2_with fail
    refine (awakeF _).mono ?_
    rintro e w1 ⟨rfl, hb1⟩
    have HB1 := hid hb1
    clear hb1
    go_wp2_with fail
    refine (HM1.out _).mono ?_
    rintro e w2 ⟨rfl, hb2⟩
    have HB2 := hid (HB1.out.trans (hb2.mono HB1.out.size))
    clear hb2
    go_wp2_with fail
    refine (HM2.out _).mono ?_
    rintro e w3 ⟨rfl, hb3⟩
    have HB3 := hid (HB2.out.trans (hb3.mono HB2.out.size))
    clear hb3
    obtain ⟨r, hs, hrn, -⟩ := run_nan_sub 30 w3 ha
    have hr0 := ne_nan hrn
    clear hrn
    have hs2 := run_sub 30 w3.drew hb
    have h00 : (FloatKind.f64.format.order 0 0 != some .eq) = false := by decide +kernel
    go_wp2_with fail
    refine (HSM.out _).mono ?_
    rintro e w' ⟨rfl, rfl⟩
    go_wp2_with fail
    go_ret
    exact ⟨by simp, HB3.out.drew⟩
  · go_enter Tryz.func11, Tryz.ntmps11
    go_wp2_with fail
    refine (awakeF _).mono ?_
    rintro e w1 ⟨rfl, hb1⟩
    have HB1 := hid hb1
    clear hb1
    go_wp2_with fail
    refine (HM1.out _).mono ?_
    rintro e w2 ⟨rfl, hb2⟩
    have HB2 := hid (HB1.out.trans (hb2.mono HB1.out.size))
    clear hb2
    go_wp2_with fail
    refine (HM2.out _).mono ?_
    rintro e w3 ⟨rfl, hb3⟩
    have HB3 := hid (HB2.out.trans (hb3.mono HB2.out.size))
    clear hb3
    obtain ⟨r, hs, hrn, -⟩ := run_nan_sub 30 w3 ha
    have hr0 := ne_nan hrn
    clear hrn
    have hs2 := run_sub 30 w3.drew hb
    have h00 : (FloatKind.f64.format.order 0 0 != some .eq) = false := by decide +kernel
    go_wp2_with fail
    refine (HSM.out _).mono ?_
    rintro e w' ⟨rfl, rfl⟩
    go_wp2_with fail
    go_ret
    exact ⟨by simp, HB3.out.drew⟩

set_option maxRecDepth 100000 in
set_option maxHeartbeats 4000000 in
theorem w_same {a b m : Nat} (hm1 : MidIs a b m) (hm2 : MidIs b a m) (hm : m < 18446744073709551616) (hna : (FloatKind.f64.format.order a a != some .eq) = false) (hnb : (FloatKind.f64.format.order b b != some .eq) = false) (ha : Ieee.double.sub a a = none) (hb : Ieee.double.sub b b = none) (hne : (FloatKind.f64.format.order a b != some .eq) = false) (ht : (srung a ≤ srung m ∧ srung m ≤ srung b ∨ srung b ≤ srung m ∧ srung m ≤ srung a) ∧ fnum a m = true ∧ fnum m b = true) (w : World) : Calls Tryz.prog 11 #[.float .f64 a, .float .f64 b] w fun e w' => e = .returned (.bool true) ∧ Below w.heap.size w w' := by
  have hp := between_tests ht
  have HM1 := hid hm1; have HM2 := hid hm2
  have HSM := hid (fun w => law_same hm hm w)
  rw [same_self] at HSM
  clear hm1 hm2 hm
  clear ht
  rcases hp with ⟨t1, t2⟩ | ⟨t1, t2, t3, t4⟩ | ⟨t1, t3, t4⟩
  · go_enter Tryz.func11, Tryz.ntmps11
    go_wp2_with fail
    refine (awakeF _).mono ?_
    rintro e w1 ⟨rfl, hb1⟩
    have HB1 := hid hb1
    clear hb1
    go_wp2_with fail
    refine (HM1.out _).mono ?_
    rintro e w2 ⟨rfl, hb2⟩
    have HB2 := hid (HB1.out.trans (hb2.mono HB1.out.size))
    clear hb2
    go_wp2_with fail
    refine (HM2.out _).mono ?_
    rintro e w3 ⟨rfl, hb3⟩
    have HB3 := hid (HB2.out.trans (hb3.mono HB2.out.size))
    clear hb3
    obtain ⟨r, hs, hrn, -⟩ := run_nan_sub 30 w3 ha
    have hr0 := ne_nan hrn
    clear hrn
    obtain ⟨r2, hs2, hrn2, -⟩ := run_nan_sub 30 w3.drew hb
    have hr2 := ne_nan hrn2
    clear hrn2
    go_wp2_with fail
    refine (HSM.out _).mono ?_
    rintro e w' ⟨rfl, rfl⟩
    go_wp2_with fail
    go_ret
    exact ⟨by simp, HB3.out.drew.drew⟩
  · go_enter Tryz.func11, Tryz.ntmps11
    go_wp2_with fail
    refine (awakeF _).mono ?_
    rintro e w1 ⟨rfl, hb1⟩
    have HB1 := hid hb1
    clear hb1
    go_wp2_with fail
    refine (HM1.out _).mono ?_
    rintro e w2 ⟨rfl, hb2⟩
    have HB2 := hid (HB1.out.trans (hb2.mono HB1.out.size))
    clear hb2
    go_wp2_with fail
    refine (HM2.out _).mono ?_
    rintro e w3 ⟨rfl, hb3⟩
    have HB3 := hid (HB2.out.trans (hb3.mono HB2.out.size))
    clear hb3
    obtain ⟨r, hs, hrn, -⟩ := run_nan_sub 30 w3 ha
    have hr0 := ne_nan hrn
    clear hrn
    obtain ⟨r2, hs2, hrn2, -⟩ := run_nan_sub 30 w3.drew hb
    have hr2 := ne_nan hrn2
    clear hrn2
    go_wp2_with fail
    refine (HSM.out _).mono ?_
    rintro e w' ⟨rfl, rfl⟩
    go_wp2_with fail
    go_ret
    exact ⟨by simp, HB3.out.drew.drew⟩
  · go_enter Tryz.func11, Tryz.ntmps11
    go_wp2_with fail
    refine (awakeF _).mono ?_
    rintro e w1 ⟨rfl, hb1⟩
    have HB1 := hid hb1
    clear hb1
    go_wp2_with fail
    refine (HM1.out _).mono ?_
    rintro e w2 ⟨rfl, hb2⟩
    have HB2 := hid (HB1.out.trans (hb2.mono HB1.out.size))
    clear hb2
    go_wp2_with fail
    refine (HM2.out _).mono ?_
    rintro e w3 ⟨rfl, hb3⟩
    have HB3 := hid (HB2.out.trans (hb3.mono HB2.out.size))
    clear hb3
    obtain ⟨r, hs, hrn, -⟩ := run_nan_sub 30 w3 ha
    have hr0 := ne_nan hrn
    clear hrn
    obtain ⟨r2, hs2, hrn2, -⟩ := run_nan_sub 30 w3.drew hb
    have hr2 := ne_nan hrn2
    clear hrn2
    go_wp2_with fail
    refine (HSM.out _).mono ?_
    rintro e w' ⟨rfl, rfl⟩
    go_wp2_with fail
    go_ret
    exact ⟨by simp, HB3.out.drew.drew⟩

set_option maxRecDepth 100000 in
set_option maxHeartbeats 4000000 in
theorem w_unlike {a b m : Nat} (hm1 : MidIs a b m) (hm2 : MidIs b a m) (hm : m < 18446744073709551616) (hna : (FloatKind.f64.format.order a a != some .eq) = false) (hnb : (FloatKind.f64.format.order b b != some .eq) = false) (ha : Ieee.double.sub a a = none) (hb : Ieee.double.sub b b = none) (hne : (FloatKind.f64.format.order a b != some .eq) = true) (hmn : (FloatKind.f64.format.order m m != some .eq) = true) (w : World) : Calls Tryz.prog 11 #[.float .f64 a, .float .f64 b] w fun e w' => e = .returned (.bool true) ∧ Below w.heap.size w w' := by
  have HM1 := hid hm1; have HM2 := hid hm2
  have HSM := hid (fun w => law_same hm hm w)
  rw [same_self] at HSM
  clear hm1 hm2 hm
  go_enter Tryz.func11, Tryz.ntmps11
  go_wp2_with fail
  refine (awakeF _).mono ?_
  rintro e w1 ⟨rfl, hb1⟩
  have HB1 := hid hb1
  clear hb1
  go_wp2_with fail
  refine (HM1.out _).mono ?_
  rintro e w2 ⟨rfl, hb2⟩
  have HB2 := hid (HB1.out.trans (hb2.mono HB1.out.size))
  clear hb2
  go_wp2_with fail
  refine (HM2.out _).mono ?_
  rintro e w3 ⟨rfl, hb3⟩
  have HB3 := hid (HB2.out.trans (hb3.mono HB2.out.size))
  clear hb3
  obtain ⟨r, hs, hrn, -⟩ := run_nan_sub 30 w3 ha
  have hr0 := ne_nan hrn
  clear hrn
  obtain ⟨r2, hs2, hrn2, -⟩ := run_nan_sub 30 w3.drew hb
  have hr2 := ne_nan hrn2
  clear hrn2
  go_wp2_with fail
  refine (HSM.out _).mono ?_
  rintro e w' ⟨rfl, rfl⟩
  go_wp2_with fail
  go_ret
  exact ⟨by simp, HB3.out.drew.drew⟩


theorem inf_word {a : Nat} (h : a < 18446744073709551616) (hi : isInf a = true) : Ieee.double.word (fneg a) 9218868437227405312 = a := by
  have h1 := of_decide_eq_true hi
  have h2 := word_self h
  rw [h1] at h2
  exact (word_eq _ _).trans h2
theorem add_inf {a b : Nat} (h : a < 18446744073709551616) (hi : isInf a = true) (hb : rung b < 9218868437227405312) : Ieee.double.add a b = some a := by
  obtain ⟨m, i, e1, e2⟩ := read_fin hb
  unfold Ieee.Format.add
  rw [read_inf hi, e1]
  show some (Ieee.double.write (.infinity (fneg a))) = some a
  exact congrArg some (inf_word h hi)
theorem add_infs {a b : Nat} (h : a < 18446744073709551616) (hi : isInf a = true) (hj : isInf b = true) : Ieee.double.add a b = if fneg a = fneg b then some a else none := by
  unfold Ieee.Format.add
  rw [read_inf hi, read_inf hj]
  show Option.map _ (if fneg a = fneg b then some (Ieee.Datum.infinity (fneg a)) else none) = _
  by_cases e : fneg a = fneg b
  · rw [if_pos e, if_pos e]
    exact congrArg some (inf_word h hi)
  · rw [if_neg e, if_neg e]; rfl
theorem div_inf {a : Nat} (h : a < 18446744073709551616) (hi : isInf a = true) : Ieee.double.div a 4611686018427387904 = some a := by
  unfold Ieee.Format.div
  rw [read_inf hi, two_read]
  show some (Ieee.double.write (.infinity (fneg a ^^ false))) = some a
  rw [show (fneg a ^^ false) = fneg a by cases fneg a <;> rfl]
  exact congrArg some (inf_word h hi)
theorem half_fin {b : Nat} (hb : rung b < 9218868437227405312) : ∃ y, Ieee.double.div b 4611686018427387904 = some y ∧ rung y < 9218868437227405312 := by
  have h1 := div_two_s hb
  rw [nearest_rung] at h1
  refine ⟨_, h1, ?_⟩
  rw [(rung_word_le _ (rung_le _ _)).1]
  have h2 := rungAt_mono (show mag (rung b) ≤ mag (rung b) * 2 by omega) (-1075)
  have h3 := rungAt_two (m := mag (rung b)) (-1074)
  rw [rungAt_mag hb] at h3
  have h4 : rungAt (mag (rung b) * 2) (-1075) = rung b := h3
  omega
theorem add_nan {a b : Nat} (h : isNan a = true ∨ isNan b = true) : Ieee.double.add a b = none := by
  unfold Ieee.Format.add
  rcases h with h | h
  · obtain ⟨s, f, e⟩ := read_nan h
    rw [e]; rfl
  · obtain ⟨s, f, e⟩ := read_nan h
    rw [e]
    cases Ieee.double.read a <;> rfl
/-- An infinity and a finite float. -/
theorem mid_one {a b : Nat} (ha : a < 18446744073709551616) (hi : isInf a = true) (hb : rung b < 9218868437227405312) : MidIs a b a ∧ MidIs b a a := by
  obtain ⟨y, hy, hyl⟩ := half_fin hb
  have hn : isNan a = false := by have h1 := of_decide_eq_true hi; unfold isNan; rw [h1]; decide
  have h1 := add_inf ha hi hb
  have h2 := add_inf ha hi hyl
  exact ⟨mid_inf h1 ha hn hi (div_inf ha hi) hy h2, mid_inf ((add_comm_f b a).trans h1) ha hn hi hy (div_inf ha hi) ((add_comm_f y a).trans h2)⟩
theorem inf_ends {a b : Nat} (hi : isInf a = true) (hb : rung b < 9218868437227405312) : srung a ≤ srung b ∨ srung b ≤ srung a := Int.le_total _ _

theorem walk {a b : Nat} (ha : a < 18446744073709551616) (hb : b < 18446744073709551616) (w : World) : Calls Tryz.prog 11 #[.float .f64 a, .float .f64 b] w fun e w' => e = .returned (.bool true) ∧ Below w.heap.size w w' := by
  have hna : (FloatKind.f64.format.order a a != some .eq) = isNan a := order_self a
  have hnb : (FloatKind.f64.format.order b b != some .eq) = isNan b := order_self b
  have hmn : (FloatKind.f64.format.order 9221120237041090561 9221120237041090561 != some .eq) = true := by decide +kernel
  cases ea : isNan a
  · rw [ea] at hna
    cases eb : isNan b
    · rw [eb] at hnb
      have fab : fnum a b = true := by unfold fnum; rw [ea, eb]; rfl
      have faa : fnum a a = true := by unfold fnum; rw [ea]; rfl
      have fbb : fnum b b = true := by unfold fnum; rw [eb]; rfl
      cases ia : isInf a
      · have hra : rung a < 9218868437227405312 := by
          have h1 := of_decide_eq_false ea; have h2 := of_decide_eq_false ia; omega
        have hsa := sub_self hra
        cases ib : isInf b
        · have hrb : rung b < 9218868437227405312 := by
            have h1 := of_decide_eq_false eb; have h2 := of_decide_eq_false ib; omega
          rcases Int.le_total (srung a) (srung b) with g | g
          · obtain ⟨m, hm, hnm, h1, h2, h3, h4⟩ := mid_between hra hrb g
            exact w_fin h1 h2 hm hna hnb hsa ⟨.inl ⟨h3, h4⟩, by unfold fnum; rw [ea, hnm]; rfl, by unfold fnum; rw [eb, hnm]; rfl⟩ w
          · obtain ⟨m, hm, hnm, h1, h2, h3, h4⟩ := mid_between hrb hra g
            exact w_fin h2 h1 hm hna hnb hsa ⟨.inr ⟨h3, h4⟩, by unfold fnum; rw [ea, hnm]; rfl, by unfold fnum; rw [eb, hnm]; rfl⟩ w
        · have h1 := mid_one hb ib hra
          refine w_fin h1.2 h1.1 hb hna hnb hsa ⟨?_, fab, fbb⟩ w
          rcases Int.le_total (srung a) (srung b) with g | g
          · exact .inl ⟨g, Int.le_refl _⟩
          · exact .inr ⟨Int.le_refl _, g⟩
      · have hsa := sub_none ia
        cases ib : isInf b
        · have hrb : rung b < 9218868437227405312 := by
            have h1 := of_decide_eq_false eb; have h2 := of_decide_eq_false ib; omega
          have h1 := mid_one ha ia hrb
          refine w_infA h1.1 h1.2 ha hna hnb hsa (sub_self hrb) ⟨?_, faa, fab⟩ w
          rcases Int.le_total (srung a) (srung b) with g | g
          · exact .inl ⟨Int.le_refl _, g⟩
          · exact .inr ⟨g, Int.le_refl _⟩
        · have hsb := sub_none ib
          have hadd := add_infs ha ia ib
          have ra := of_decide_eq_true ia
          have rb := of_decide_eq_true ib
          by_cases e : fneg a = fneg b
          · rw [if_pos e] at hadd
            have hab : a = b := by
              have h1 := word_self ha; have h2 := word_self hb
              rw [ra] at h1; rw [rb, ← e] at h2
              exact h1.symm.trans h2
            have hm := mid_inf hadd ha ea ia (div_inf ha ia) (div_inf hb ib) hadd
            have hm2 : MidIs b a a := by rw [← hab] at hm ⊢; exact hm
            refine w_same hm hm2 ha hna hnb hsa hsb ?_ ⟨.inl ⟨Int.le_refl _, by rw [hab]; exact Int.le_refl _⟩, faa, fab⟩ w
            rw [← hab]; exact hna
          · rw [if_neg e] at hadd
            refine w_unlike (mid_none hadd) (mid_none ((add_comm_f b a).trans hadd)) (by decide) hna hnb hsa hsb ?_ hmn w
            refine (order_ne a b).trans ?_
            have hne : ¬ srung a = srung b := by
              unfold srung; rw [ra, rb]
              cases h1 : fneg a <;> cases h2 : fneg b <;> simp
              · exact e (h1.trans h2.symm)
              · exact e (h1.trans h2.symm)
            rw [decide_eq_false hne]; simp
    · rw [eb] at hnb
      have h1 := add_nan (a := a) (.inr eb)
      exact w_nanB (mid_none h1) (mid_none ((add_comm_f b a).trans h1)) (by decide) hna hnb hmn w
  · rw [ea] at hna
    have h1 := add_nan (b := b) (.inl ea)
    exact w_nanA (mid_none h1) (mid_none ((add_comm_f b a).trans h1)) (by decide) hna hmn w

/-! ### The row's step -/
set_option maxRecDepth 100000 in
theorem contract (H : Type) (enc : TypeId × Value → H) (W : World) (base : Nat) (args : Array Value) (ds gs : List (DataW H)) (before : List MemPlace)
    (hval0 : ∀ (j : Nat) t v, Tryz.f11.params[j]? = some t → args[j]? = some v → Value.okWide Tryz.prog W .any base t v)
    (hW : DataW.Whole enc Tryz.prog Tryz.f11.params.toList Rows.approxBetweenSpec.vars false W args.toList ds gs before) :
    Calls Tryz.prog 11 args W fun e W' => ∃ v, e = .returned v ∧ Rows.approxBetweenSpec.post enc Tryz.prog Tryz.f11 false true false false W args v W' := by
  have hW' := hW
  obtain ⟨p, q, hA0, hV, rfl, hfz, hnd⟩ := hW
  have hA : DataW.TrodAll enc Tryz.prog W 0 (fun _ => true) true Tryz.f11.params.toList args.toList ds p := hA0
  have hval : ∀ (j : Nat) t v, Tryz.f11.params[j]? = some t → args[j]? = some v → Value.okWide Tryz.prog W .any base t v := hval0
  rw [Tryz.params11] at hA hval
  obtain ⟨v0, vs0, d0, ds0, p0, q0, hargs, rfl, rfl, h0, r0⟩ := trodAll_cons hA
  obtain ⟨v1, vs1, d1, ds1, p1, q1, rfl, rfl, rfl, h1, r1⟩ := trodAll_cons r0
  obtain ⟨rfl, rfl, rfl⟩ := trodAll_nil r1
  obtain rfl : args = #[v0, v1] := by cases args; simp_all
  obtain ⟨rfl, rfl⟩ := trodVars_none hV
  have k0 := h0
  obtain ⟨b0, rfl, rfl, rfl, wb0⟩ := open_float Tryz.underlying30 (hval 0 30 v0 rfl rfl) h0
  have lb0 : b0 < 18446744073709551616 := by simpa [Lit.wf] using wb0
  have k1 := h1
  obtain ⟨b1, rfl, rfl, rfl, wb1⟩ := open_float Tryz.underlying30 (hval 1 30 v1 rfl rfl) h1
  have lb1 : b1 < 18446744073709551616 := by simpa [Lit.wf] using wb1
  refine (walk lb0 lb1 W).mono fun e W' ⟨he, hb⟩ => ?_
  subst he
  exact ⟨_, rfl, _, _, _, _, _, _, hW', trodAll_cons_mk (shut_bool Tryz.underlying4 _) trodAll_mk0, trodAll_cons_mk (Below.trod laidOut (by kernel_rfl) (of_decide_eq_true (by kernel_rfl)) k0 hb (fun x hx => by first | cases hx; done | (have := hW'.lt x (by simp [hx]); simpa using this))) (trodAll_cons_mk (Below.trod laidOut (by kernel_rfl) (of_decide_eq_true (by kernel_rfl)) k1 hb (fun x hx => by first | cases hx; done | (have := hW'.lt x (by simp [hx]); simpa using this))) (trodAll_mk0)), rfl, hb.frame _, fun h => by cases h⟩

set_option maxRecDepth 100000 in
theorem lifted (os : Os) (started : os.Started) (H : Type) (enc : TypeId × Value → H) :
    ReturnsInHanded {} Tryz.checked os 11 .any (Rows.approxBetweenSpec.pre6 enc Tryz.prog Tryz.f11 Rows.approxBetweenRow.domain false) (Rows.approxBetweenSpec.post enc Tryz.prog Tryz.f11 false true false false) := by
  refine returnsInHanded_of_change (C := Tryz.checked) own started (by kernel_rfl) Tryz.func11
    (ChangeSpec.witness6 (enc := enc) (C := Tryz.checked) false ⟨#[], #[.float .f64 0, .float .f64 0], []⟩ 8 (by kernel_rfl) (by kernel_rfl) (by kernel_rfl) (by kernel_rfl)) ?_
  intro W base args ds gs before hval0 hW _ _
  exact contract H enc W base args ds gs before hval0 hW

theorem holds : Rows.ApproxBetweenSaid :=
  OpenClaim.holds_of_wide 11 Tryz.f11 rfl rfl rfl rfl rfl rfl rfl ⟨rfl, rfl, rfl, rfl, rfl⟩ rfl rfl rfl rfl rfl (by kernel_rfl) Tryz.func11 (by kernel_rfl)
    (of_decide_eq_true (by kernel_rfl)) (by unfold Func.isWrapper; first | (rw [if_pos (by decide +kernel)]; kernel_rfl) | (rw [if_neg (by decide +kernel)]; exact ⟨rfl, rfl⟩))
    (fun os started H enc _ => lifted os started H enc)
end Go.Proofs.YtbmofdoehfjjdaaGreat.approxBetween
