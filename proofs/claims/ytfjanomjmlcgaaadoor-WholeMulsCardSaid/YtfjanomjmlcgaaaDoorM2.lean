/- Layer 2: Small, Make, Of, Mul, Gcd, Div. -/
import Derived.Test.YtfjanomjmlcgaaaDoorZ8
import Derived.Test.YtfjanomjmlcgaaaDoorRefInt
import Derived.Test.YtfjanomjmlcgaaaDoorRef2
import Derived.Test.YtfjanomjmlcgaaaDoorM1
import Derived.Test.YtfjanomjmlcgaaaDoorRefMul
import Derived.Deep.RegionHeld3
import Derived.Test.YtfjanomjmlcgaaaDoorRef3
set_option linter.unusedVariables false
set_option linter.unusedSimpArgs false
namespace Go.Proofs.YtfjanomjmlcgaaaDoor
open Go.RowKit

/-- What Small tells of a whole number. -/
def smallI (n : Bool) (l : List Nat) : Int := if val l < 9223372036854775808 then zval n l else 0
def smallB (l : List Nat) : Bool := decide (val l < 9223372036854775808)

set_option maxHeartbeats 1000000 in
theorem whole_small {v : Value} {n : Bool} {l : List Nat} {w : World} (h : SeesZ w v n l) :
    Calls Tryd.prog 35 #[v] w fun e w' => e = .returned (.tuple #[.int .i64 (smallI n l), .bool (smallB l)]) ∧ Below w.heap.size w w' := by
  obtain ⟨m, rfl, hm⟩ := h
  have HB := hid (box_below (w := w) n m)
  have hm1 := hm.below HB.out
  have HM1 := hid hm1
  obtain ⟨ao, cap, rfl, -, -, -, -, -⟩ := id hm
  clear hm hm1
  go_enter Tryd.func35, Tryd.ntmps35
  by_cases hs : val l < 9223372036854775808
  · have e1 : smallI n l = zval n l := by unfold smallI; rw [if_pos hs]
    have e2 : smallB l = true := by unfold smallB; simp [hs]
    have HC := hid (nat_small_ok HM1.out hs)
    rw [e1, e2]
    obtain ⟨x, hx⟩ : ∃ x, val l = x := ⟨_, rfl⟩
    have hz : zval n l = if n = true then -(x : Int) else (x : Int) := by unfold zval; rw [hx]
    rw [hx] at HC hs
    have HZ := hid hz
    clear hx hz e1 e2
    go_wp2_with fail
    refine HC.out.mono ?_
    rintro e w2 ⟨rfl, rfl⟩
    clear HC
    cases n
    · have hz := HZ.out
      simp only [Bool.false_eq_true, if_false] at hz
      have HZ2 := hid hz
      clear hz HZ
      go_wp2
      go_ret2
      exact ⟨by rw [HZ2.out]; rfl, HB.out⟩
    · have hz := HZ.out
      simp only [if_true] at hz
      have HZ2 := hid hz
      have ew : IntKind.i64.wrap (-(x : Int)) = -(x : Int) := by rw [IntKind.wrap_i64]; omega
      clear hz HZ
      go_wp2
      go_ret2
      exact ⟨by rw [HZ2.out]; rfl, HB.out⟩
  · have e1 : smallI n l = 0 := by unfold smallI; rw [if_neg hs]
    have e2 : smallB l = false := by unfold smallB; simp [hs]
    have HC := hid (nat_small_no HM1.out hs)
    rw [e1, e2]
    clear e1 e2 hs
    go_wp2_with fail
    refine HC.out.mono ?_
    rintro e w2 ⟨rfl, rfl⟩
    clear HC
    cases n
    · go_wp2
      go_ret2
      exact ⟨rfl, HB.out⟩
    · go_wp2
      go_ret2
      exact ⟨rfl, HB.out⟩

set_option maxHeartbeats 1000000 in
theorem ref_smallZ {v : Value} {n : Bool} {l : List Nat} {w : World} (h : SeesZ w v n l) (hl : l.length ≤ 35184372088000) :
    Calls Tryd.prog 36 #[v] w fun e w' => e = .returned (.tuple #[.int .i64 (smallI n l), .bool (smallB l)]) ∧ Below w.heap.size w w' := by
  obtain ⟨m, rfl, hm⟩ := h
  have HB := hid (box_below (w := w) n m)
  have HX := hid (Box.new w (.bool n) m 34)
  have hm1 := hm.below HB.out
  have HM1 := hid hm1
  obtain ⟨ao, cap, rfl, -, -, -, -, -⟩ := id hm
  clear hm hm1
  go_enter Tryd.func36, Tryd.ntmps36
  by_cases hs : val l < 9223372036854775808
  · have e1 : smallI n l = zval n l := by unfold smallI; rw [if_pos hs]
    have e2 : smallB l = true := by unfold smallB; simp [hs]
    have HC := hid (ref_small_ok HM1.out hl hs)
    rw [e1, e2]
    obtain ⟨x, hx⟩ : ∃ x, val l = x := ⟨_, rfl⟩
    have hz : zval n l = if n = true then -(x : Int) else (x : Int) := by unfold zval; rw [hx]
    rw [hx] at HC hs
    have HZ := hid hz
    clear hx hz e1 e2
    go_wp2_with fail
    refine HC.out.mono ?_
    rintro e w2 ⟨rfl, hb2⟩
    have HB2 := hid (step_below HB.out hb2)
    obtain ⟨c0, c1, f0, f1⟩ := (HX.out.below hb2).cells
    clear HC hb2
    cases n
    · have hz := HZ.out
      simp only [Bool.false_eq_true, if_false] at hz
      have HZ2 := hid hz
      clear hz HZ
      go_wp2
      go_ret2
      exact ⟨by rw [HZ2.out]; rfl, HB2.out⟩
    · have hz := HZ.out
      simp only [if_true] at hz
      have HZ2 := hid hz
      have ew : IntKind.i64.wrap (-(x : Int)) = -(x : Int) := by rw [IntKind.wrap_i64]; omega
      clear hz HZ
      go_wp2
      go_ret2
      exact ⟨by rw [HZ2.out]; rfl, HB2.out⟩
  · have e1 : smallI n l = 0 := by unfold smallI; rw [if_neg hs]
    have e2 : smallB l = false := by unfold smallB; simp [hs]
    have HC := hid (ref_small_no HM1.out hl hs)
    rw [e1, e2]
    clear e1 e2 hs
    go_wp2_with fail
    refine HC.out.mono ?_
    rintro e w2 ⟨rfl, hb2⟩
    have HB2 := hid (step_below HB.out hb2)
    clear HC hb2
    go_wp2
    go_ret2
    exact ⟨rfl, HB2.out⟩

set_option maxRecDepth 100000 in
set_option maxHeartbeats 1000000 in
theorem ref_make (neg : Bool) {m : Value} {l : List Nat} {w : World} (h : Sees w m l) (hl : l.length ≤ 35184372088832) (z : Int) (hz : z = if neg then -(val l : Int) else (val l : Int)) :
    Calls Tryd.prog 75 #[.bool neg, m] w fun e w' => IsInt w z e w' := by
  have HB := hid (box_below (w := w) false (.slice none 0 0))
  have HX := hid (Box.new w (.bool false) (.slice none 0 0) 34)
  have HZ := hid hz
  have hlen := (limbs_prefix h.ok).2
  have HC := hid (ref_plain m l _ (h.below HB.out) hl)
  have hpos : (0 < (limbs (val l)).length) ↔ val l ≠ 0 := by
    constructor
    · intro h1 h2; rw [h2, limbs_zero] at h1; simp at h1
    · intro h1; exact (limbs_last (by omega)).1
  have HP := hid hpos
  have hlb : (limbs (val l)).length ≤ 70368744177664 := by omega
  clear hz hpos h
  go_enter Tryd.func75, Tryd.ntmps75
  go_wp2_with fail
  refine HC.out.mono ?_
  intro e w1 hp
  obtain ⟨v1, rfl, hs1, hb1⟩ := hp.sees hlb
  have HB1 := hid (step_below HB.out hb1)
  have HX1 := hid (HX.out.below hb1)
  have HS1 := hid hs1
  obtain ⟨ao, cap, rfl, -, -, -, -, -⟩ := id hs1
  have hz1 := isZ_of hs1 neg z HZ.out
  have hdn : decide (val l ≠ 0) = decide (0 < (limbs (val l)).length) := by
    have := HP.out
    by_cases h : val l = 0
    · simp [h, limbs_zero]
    · have h1 := this.2 h; simp [h, h1]
  rw [hdn] at hz1
  have HZ1 := hid hz1
  obtain ⟨c0, c1, f0, f1⟩ := HX1.out.cells
  have hlt := HX1.out.lt
  clear hp hb1 hs1 hz1 hdn HC HB HX HZ HP hlen hl
  generalize limbs (val l) = p at *
  cases neg
  · obtain ⟨g1, g2, g3⟩ := store_end HB1.out (Nat.le_refl _) HX1.out (show IsZ w1 (.agg #[.bool false, .slice ao p.length cap]) z from HZ1.out)
    have HG1 := hid g1
    clear g1
    go_wp2
    exact bodyPost_ret (v := .agg #[.bool false, .slice ao p.length cap]) (by simp [results, Tryd.results75, go_sem, g2, g3]) rfl HG1.out
  · obtain ⟨b, hb⟩ : ∃ b, decide (0 < p.length) = b := ⟨_, rfl⟩
    have hb' : decide ((0 : Int) < (p.length : Int)) = b := by rw [← hb]; congr 1; simp
    obtain ⟨g1, g2, g3⟩ := store_end HB1.out (Nat.le_refl _) HX1.out (show IsZ w1 (.agg #[.bool b, .slice ao p.length cap]) z by have := HZ1.out; rw [hb] at this; exact this)
    have HG1 := hid g1
    cases b
    · have hp0 : ¬ 0 < p.length := by simpa using hb
      clear g1 hb hb'
      go_wp2
      exact bodyPost_ret (v := .agg #[.bool false, .slice ao p.length cap]) (by simp [results, Tryd.results75, go_sem, g2, g3]) rfl HG1.out
    · have hp0 : 0 < p.length := by simpa using hb
      clear g1 hb hb'
      go_wp2
      exact bodyPost_ret (v := .agg #[.bool true, .slice ao p.length cap]) (by simp [results, Tryd.results75, go_sem, g2, g3]) rfl HG1.out
end Go.Proofs.YtfjanomjmlcgaaaDoor

set_option linter.unusedVariables false
set_option linter.unusedSimpArgs false
namespace Go.Proofs.YtfjanomjmlcgaaaDoor
open Go.RowKit

theorem ref_addV {a b : Value} {l m : List Nat} {w : World} (ha : Sees w a l) (hb : Sees w b m) (hl : l.length ≤ 35184372088000) (hm : m.length ≤ 35184372088000) :
    Calls Tryd.prog 80 #[a, b] w fun e w' => ∃ v, e = .returned v ∧ Sees w' v (limbs (val l + val m)) ∧ Below w.heap.size w w' := by
  have hA := ha; have hB := hb
  obtain ⟨A, ca, rfl, -, -, -, -, -⟩ := ha
  obtain ⟨B, cb, rfl, -, -, -, -, -⟩ := hb
  exact ref_add _ _ _ _ _ _ _ hA hB hl hm

set_option maxRecDepth 100000 in
set_option maxHeartbeats 1000000 in
theorem ref_ofZ (n : Int) (h1 : -9223372036854775808 ≤ n) (h2 : n < 9223372036854775808) (w : World) :
    Calls Tryd.prog 38 #[.int .i64 n] w fun e w' => IsInt w n e w' := by
  have HB := hid (box_below (w := w) false (.slice none 0 0))
  have HX := hid (Box.new w (.bool false) (.slice none 0 0) 34)
  go_enter Tryd.func38, Tryd.ntmps38
  obtain ⟨w0, hw0⟩ : ∃ x, x = w.alloc (.cells #[.bool false, .slice none 0 0] 34) := ⟨_, rfl⟩
  rw [← hw0] at HB HX
  have HW := hid hw0.symm
  clear hw0
  rcases Int.lt_or_le n 0 with h | h
  · have hn1 : ¬ 0 ≤ n := by omega
    obtain ⟨k, hk⟩ : ∃ k : Nat, (k : Int) = -(n + 1) := ⟨(-(n + 1)).toNat, by omega⟩
    have e1 : IntKind.i64.wrap (n + 1) = n + 1 := by rw [IntKind.wrap_i64]; omega
    have e2 : IntKind.i64.wrap (-(n + 1)) = (k : Int) := by rw [IntKind.wrap_i64]; omega
    have hk64 : k < 9223372036854775808 := by omega
    have hz : n = if true = true then -((k + 1 : Nat) : Int) else ((k + 1 : Nat) : Int) := by simp; omega
    have HZ := hid hz
    have e3 : -(n + 1) = (k : Int) := hk.symm
    have HC1 := hid (fun w => ref_of (k : Int) (by omega) (by omega) w)
    have hkl : (limbs k).length ≤ 2 := limbs_length_le (by show k < 18446744073709551616; omega)
    have hkl1 : (limbs (k + 1)).length ≤ 2 := limbs_length_le (by show k + 1 < 18446744073709551616; omega)
    clear hk hz
    go_wp2_with fail
    rw [HW.out]
    refine (HC1.out _).mono ?_
    rw [Int.toNat_natCast]
    rintro e w1 ⟨v1, rfl, hs1, hb1⟩
    have HX1 := hid (HX.out.below hb1); have HB1 := hid (HB.out.trans (hb1.mono HB.out.size)); have HS1 := hid hs1
    clear hs1 hb1 HX HB HC1
    go_wp2_with fail
    refine (ref_of 1 (by omega) (by omega) _).mono ?_
    rintro e w2 ⟨v2, rfl, hs2, hb2⟩
    have HX2 := hid (HX1.out.below hb2); have HB2 := hid (HB1.out.trans (hb2.mono HB1.out.size)); have HS12 := hid (HS1.out.below hb2); have HS2 := hid hs2
    clear hs2 hb2 HX1 HB1 HS1
    go_wp2_with fail
    refine (ref_addV HS12.out HS2.out (by omega) (by decide)).mono ?_
    rw [val_limbs, val_limbs]
    rintro e w3 ⟨v3, rfl, hs3, hb3⟩
    have HX3 := hid (HX2.out.below hb3); have HB3 := hid (HB2.out.trans (hb3.mono HB2.out.size)); have HS3 : Hid (Sees w3 v3 (limbs (k + 1))) := hs3
    clear hs3 hb3 HX2 HB2 HS12 HS2
    go_wp2_with fail
    refine (ref_make true HS3.out (by omega) n (by rw [val_limbs]; exact HZ.out)).mono ?_
    rintro e w4 ⟨v4, rfl, hz4, hb4⟩
    have HX4 := hid (HX3.out.below hb4); have HB4 := hid (HB3.out.trans (hb4.mono HB3.out.size))
    obtain ⟨ao, cap, rfl⟩ := hz4.form
    obtain ⟨g1, g2, g3⟩ := store_end HB4.out (Nat.le_refl _) HX4.out hz4
    obtain ⟨c0, c1, f0, f1⟩ := HX4.out.cells
    have hlt := HX4.out.lt
    have HG1 := hid g1
    clear hb4 HX3 HB3 HS3 g1 hz4 HZ HW
    generalize zneg n = b at *
    generalize zlim n = l at *
    go_wp2
    exact bodyPost_ret (v := .agg #[.bool b, .slice ao l.length cap]) (by simp [results, Tryd.results38, go_sem, g2, g3]) rfl HG1.out
  · obtain ⟨k, rfl⟩ := Int.eq_ofNat_of_zero_le h
    have hz : (k : Int) = if false = true then -(k : Int) else (k : Int) := by simp
    have HZ := hid hz
    have HC1 := hid (fun w => ref_of (k : Int) (by omega) (by omega) w)
    have hkl : (limbs k).length ≤ 2 := limbs_length_le (by show k < 18446744073709551616; omega)
    clear hz
    go_wp2_with fail
    rw [HW.out]
    refine (HC1.out _).mono ?_
    rw [Int.toNat_natCast]
    rintro e w1 ⟨v1, rfl, hs1, hb1⟩
    have HX1 := hid (HX.out.below hb1); have HB1 := hid (HB.out.trans (hb1.mono HB.out.size)); have HS1 := hid hs1
    clear hs1 hb1 HX HB HC1
    go_wp2_with fail
    refine (ref_make false HS1.out (by omega) k (by rw [val_limbs]; exact HZ.out)).mono ?_
    rintro e w4 ⟨v4, rfl, hz4, hb4⟩
    have HX4 := hid (HX1.out.below hb4); have HB4 := hid (HB1.out.trans (hb4.mono HB1.out.size))
    obtain ⟨ao, cap, rfl⟩ := hz4.form
    obtain ⟨g1, g2, g3⟩ := store_end HB4.out (Nat.le_refl _) HX4.out hz4
    obtain ⟨c0, c1, f0, f1⟩ := HX4.out.cells
    have hlt := HX4.out.lt
    have HG1 := hid g1
    clear hb4 HX1 HB1 HS1 g1 hz4 HZ HW
    generalize zneg (k : Int) = b at *
    generalize zlim (k : Int) = l at *
    go_wp2
    exact bodyPost_ret (v := .agg #[.bool b, .slice ao l.length cap]) (by simp [results, Tryd.results38, go_sem, g2, g3]) rfl HG1.out
end Go.Proofs.YtfjanomjmlcgaaaDoor

set_option linter.unusedVariables false
set_option linter.unusedSimpArgs false
namespace Go.Proofs.YtfjanomjmlcgaaaDoor
open Go.RowKit

theorem zmul (n k : Bool) (l m : List Nat) : zval n l * zval k m = if (n != k) then -((val l * val m : Nat) : Int) else ((val l * val m : Nat) : Int) := by
  cases n <;> cases k <;> simp [zval, Int.natCast_mul, Int.neg_mul, Int.mul_neg]
theorem zgcd (n k : Bool) (l m : List Nat) : ((Nat.gcd (zval n l).natAbs (zval k m).natAbs : Nat) : Int) = ((Nat.gcd (val l) (val m) : Nat) : Int) := by
  rw [zval_abs, zval_abs]

set_option maxRecDepth 100000 in
set_option maxHeartbeats 4000000 in
theorem whole_gcd {va vb : Value} {n k : Bool} {la lb : List Nat} {w : World} (ha : SeesZ w va n la) (hb : SeesZ w vb k lb) (hla : la.length ≤ 100000) (hlb : lb.length ≤ 100000) :
    Calls Tryd.prog 44 #[va, vb] w fun e w' => IsInt w (((Nat.gcd (zval n la).natAbs (zval k lb).natAbs : Nat) : Int)) e w' := by
  obtain ⟨ma, rfl, hma⟩ := ha
  obtain ⟨mb, rfl, hmb⟩ := hb
  have HMA := hid hma; have HMB := hid hmb
  obtain ⟨ao, ca, rfl, -, -, -, -, -⟩ := hma
  obtain ⟨bo, cb, rfl, -, -, -, -, -⟩ := hmb
  obtain ⟨y, gA, gB, gR, hy, b, e1, e2, e3, xA, xB, xR⟩ := three_boxes w (.bool n) (.slice ao la.length ca) (.bool k) (.slice bo lb.length cb) (.bool false) (.slice none 0 0) 34
  have HY := hid hy.symm; have E1 := hid e1.symm; have E2 := hid e2.symm; have E3 := hid e3.symm
  have HXA := hid xA; have HXB := hid xB; have HXR := hid xR; have B0 := hid b; have HSA := hid (HMA.out.below b); have HSB := hid (HMB.out.below b)
  have HG : Hid (w.heap.size ≤ gR) := hid (by omega)
  have HNE : Hid (gA ≠ gR ∧ gB ≠ gR) := hid (by constructor <;> omega)
  clear hy e1 e2 e3 xA xB xR b HMA HMB
  have HZ := hid (zgcd n k la lb)
  generalize ((Nat.gcd (zval n la).natAbs (zval k lb).natAbs : Nat) : Int) = z at *
  go_enter Tryd.func44, Tryd.ntmps44
  all_goals
    go_wp2_with fail
    rw [HY.out, E3.out, E2.out, E1.out]
    clear HY E1 E2 E3
    refine (nat_gcd HSA.out HSB.out (by omega) (by omega)).mono ?_
    rintro e w1 ⟨v1, rfl, hs1, hb1⟩
    have HXR1 := hid (HXR.out.below hb1)
    have B1 := hid (step_below B0.out hb1)
    have HS1 := hid hs1
    clear hs1 hb1
    go_wp2_with fail
    refine (whole_signed false _ HS1.out z HZ.out).mono ?_
    rintro e w2 ⟨v2, rfl, hz2, hb2⟩
    have HXR2 := hid (HXR1.out.below hb2)
    have B2 := hid (step_below B1.out hb2)
    have HZ2 := hid hz2
    obtain ⟨ao2, cap2, rfl⟩ := hz2.form
    obtain ⟨r0, r1, r2, r3⟩ := HXR2.out.cells
    have hlt := HXR2.out.lt
    clear hb2 hz2
  all_goals
    have HR3 := hid (HXR2.out)
    obtain ⟨g1, g2, g3⟩ := store_end B2.out HG.out HR3.out HZ2.out
    obtain ⟨c0, c1, f0, f1⟩ := HR3.out.cells
    have hlt := HR3.out.lt
    have HG1 := hid g1
    clear HR3 HZ2 B2 HG HXR2 g1
    generalize zneg (z) = bb at *
    generalize zlim (z) = ll at *
    go_wp2
    exact bodyPost_ret (v := .agg #[.bool bb, .slice ao2 ll.length cap2]) (by simp [results, Tryd.results44, go_sem, g2, g3]) rfl HG1.out

theorem gcd_len {l m : List Nat} (hl : l.length ≤ 100000) (hm : m.length ≤ 100000) (h1 : Ok l) (h2 : Ok m) : (limbs (Nat.gcd (val l) (val m))).length ≤ 35184372088832 := by
  rcases Nat.eq_zero_or_pos (val l) with h0 | h0
  · rw [h0, Nat.gcd_zero_left]; have := (limbs_prefix h2).2; omega
  · have h3 := limbs_length_mono (Nat.gcd_le_left (val m) h0)
    have := (limbs_prefix h1).2; omega

set_option maxRecDepth 100000 in
set_option maxHeartbeats 4000000 in
theorem ref_gcdZ {va vb : Value} {n k : Bool} {la lb : List Nat} {w : World} (ha : SeesZ w va n la) (hb : SeesZ w vb k lb) (hla : la.length ≤ 100000) (hlb : lb.length ≤ 100000) :
    Calls Tryd.prog 45 #[va, vb] w fun e w' => IsInt w (((Nat.gcd (zval n la).natAbs (zval k lb).natAbs : Nat) : Int)) e w' := by
  obtain ⟨ma, rfl, hma⟩ := ha
  obtain ⟨mb, rfl, hmb⟩ := hb
  have HMA := hid hma; have HMB := hid hmb
  obtain ⟨ao, ca, rfl, -, -, -, -, -⟩ := hma
  obtain ⟨bo, cb, rfl, -, -, -, -, -⟩ := hmb
  obtain ⟨y, gA, gB, gR, hy, b, e1, e2, e3, xA, xB, xR⟩ := three_boxes w (.bool n) (.slice ao la.length ca) (.bool k) (.slice bo lb.length cb) (.bool false) (.slice none 0 0) 34
  have HY := hid hy.symm; have E1 := hid e1.symm; have E2 := hid e2.symm; have E3 := hid e3.symm
  have HXA := hid xA; have HXB := hid xB; have HXR := hid xR; have B0 := hid b; have HSA := hid (HMA.out.below b); have HSB := hid (HMB.out.below b)
  have HG : Hid (w.heap.size ≤ gR) := hid (by omega)
  have HNE : Hid (gA ≠ gR ∧ gB ≠ gR) := hid (by constructor <;> omega)
  clear hy e1 e2 e3 xA xB xR b HMA HMB
  have HLM : Hid ((limbs (Nat.gcd (val la) (val lb))).length ≤ 35184372088832) := gcd_len hla hlb HSA.out.ok HSB.out.ok
  have HZ := hid (zgcd n k la lb)
  generalize ((Nat.gcd (zval n la).natAbs (zval k lb).natAbs : Nat) : Int) = z at *
  go_enter Tryd.func45, Tryd.ntmps45
  all_goals
    go_wp2_with fail
    rw [HY.out, E3.out, E2.out, E1.out]
    clear HY E1 E2 E3
    refine (ref_gcd HSA.out HSB.out (by omega) (by omega)).mono ?_
    rintro e w1 ⟨v1, rfl, hs1, hb1⟩
    have HXR1 := hid (HXR.out.below hb1)
    have B1 := hid (step_below B0.out hb1)
    have HS1 := hid hs1
    clear hs1 hb1
    go_wp2_with fail
    refine (ref_make false HS1.out HLM.out z (by rw [val_limbs]; exact HZ.out)).mono ?_
    rintro e w2 ⟨v2, rfl, hz2, hb2⟩
    have HXR2 := hid (HXR1.out.below hb2)
    have B2 := hid (step_below B1.out hb2)
    have HZ2 := hid hz2
    obtain ⟨ao2, cap2, rfl⟩ := hz2.form
    obtain ⟨r0, r1, r2, r3⟩ := HXR2.out.cells
    have hlt := HXR2.out.lt
    clear hb2 hz2
  all_goals
    have HR3 := hid (HXR2.out)
    obtain ⟨g1, g2, g3⟩ := store_end B2.out HG.out HR3.out HZ2.out
    obtain ⟨c0, c1, f0, f1⟩ := HR3.out.cells
    have hlt := HR3.out.lt
    have HG1 := hid g1
    clear HR3 HZ2 B2 HG HXR2 g1
    generalize zneg (z) = bb at *
    generalize zlim (z) = ll at *
    go_wp2
    exact bodyPost_ret (v := .agg #[.bool bb, .slice ao2 ll.length cap2]) (by simp [results, Tryd.results45, go_sem, g2, g3]) rfl HG1.out
end Go.Proofs.YtfjanomjmlcgaaaDoor

set_option linter.unusedVariables false
set_option linter.unusedSimpArgs false
namespace Go.Proofs.YtfjanomjmlcgaaaDoor
open Go.RowKit

set_option maxRecDepth 100000 in
set_option maxHeartbeats 4000000 in
theorem whole_mul {va vb : Value} {n k : Bool} {la lb : List Nat} {w : World} (ha : SeesZ w va n la) (hb : SeesZ w vb k lb) (hla : la.length ≤ 17592186044000) (hlb : lb.length ≤ 17592186044000) :
    Calls Tryd.prog 42 #[va, vb] w fun e w' => IsInt w (zval n la * zval k lb) e w' := by
  obtain ⟨ma, rfl, hma⟩ := ha
  obtain ⟨mb, rfl, hmb⟩ := hb
  have HMA := hid hma; have HMB := hid hmb
  obtain ⟨ao, ca, rfl, -, -, -, -, -⟩ := hma
  obtain ⟨bo, cb, rfl, -, -, -, -, -⟩ := hmb
  obtain ⟨y, gA, gB, gR, hy, b, e1, e2, e3, xA, xB, xR⟩ := three_boxes w (.bool n) (.slice ao la.length ca) (.bool k) (.slice bo lb.length cb) (.bool false) (.slice none 0 0) 34
  have HY := hid hy.symm; have E1 := hid e1.symm; have E2 := hid e2.symm; have E3 := hid e3.symm
  have HXA := hid xA; have HXB := hid xB; have HXR := hid xR; have B0 := hid b; have HSA := hid (HMA.out.below b); have HSB := hid (HMB.out.below b)
  have HG : Hid (w.heap.size ≤ gR) := hid (by omega)
  have HNE : Hid (gA ≠ gR ∧ gB ≠ gR) := hid (by constructor <;> omega)
  clear hy e1 e2 e3 xA xB xR b HMA HMB
  have HZ := hid (zmul n k la lb)
  generalize zval n la * zval k lb = z at *
  go_enter Tryd.func42, Tryd.ntmps42
  cases n
  · cases k
    · go_wp2_with fail
      try rw [HY.out]
      try rw [E3.out]
      try rw [E2.out]
      try rw [E1.out]
      clear HY E1 E2 E3
      obtain ⟨a0, a1, a2, a3⟩ := HXA.out.cells
      obtain ⟨b0, b1, b2, b3⟩ := HXB.out.cells
      obtain ⟨q0, q1, q2, q3⟩ := HXR.out.cells
      have HD := hid ((Below.refl y.heap.size y).drew)
      go_region_held3 (fun w' => w'.cell? ⟨gA, 0, none⟩ = some (.bool false) ∧ w'.cell? ⟨gA, 1, none⟩ = some (.slice ao la.length ca) ∧ w'.cell? ⟨gB, 0, none⟩ = some (.bool false) ∧ w'.cell? ⟨gB, 1, none⟩ = some (.slice bo lb.length cb) ) (exact ⟨by assumption, by assumption, by assumption, by assumption⟩) (first
        | (go_at_call 21
           refine (nat_mul' (by exact HSA.out.below (Hid.out (by assumption))) (by exact HSB.out.below (Hid.out (by assumption))) (by omega) (by omega)).mono ?_
           rintro e w1 ⟨v1, rfl, hs1, hb1⟩
           have hbn := hid (step_below (w := y) (Hid.out (by assumption)) hb1)
           obtain ⟨xa0, xa1, -, -⟩ := (HXA.out.below hbn.out).cells
           obtain ⟨xb0, xb1, -, -⟩ := (HXB.out.below hbn.out).cells
           obtain ⟨xr0, xr1, xr2, xr3⟩ := (HXR.out.below hbn.out).cells
           have HS1 := hid hs1
           clear hs1 hb1)
        | (go_at_call 74
           refine (whole_signed _ _ (by exact HS1.out) z (by exact HZ.out)).mono ?_
           rintro e w2 ⟨v2, rfl, hz2, hb2⟩
           have hbn2 := hid (step_below (w := y) (Hid.out (by assumption)) hb2)
           obtain ⟨ya0, ya1, -, -⟩ := (HXA.out.below hbn2.out).cells
           obtain ⟨yb0, yb1, -, -⟩ := (HXB.out.below hbn2.out).cells
           have HXR2 := hid (HXR.out.below hbn2.out)
           have B2 := hid (B0.out.trans (hbn2.out.mono B0.out.size))
           have HZ2 := hid hz2
           obtain ⟨ao2, cap2, rfl⟩ := hz2.form
           obtain ⟨r0, r1, r2, r3⟩ := HXR2.out.cells
           obtain ⟨za0, za1, -, -⟩ := ((HXA.out.below hbn2.out).other HNE.out.1 (.bool (zneg z)) (.slice ao2 (zlim z).length cap2)).cells
           obtain ⟨zb0, zb1, -, -⟩ := ((HXB.out.below hbn2.out).other HNE.out.2 (.bool (zneg z)) (.slice ao2 (zlim z).length cap2)).cells
           have hlt := HXR2.out.lt
           clear hb2 hz2))
      have HR3 := hid (HXR2.out)
      obtain ⟨g1, g2, g3⟩ := store_end B2.out HG.out HR3.out HZ2.out
      obtain ⟨c0, c1, f0, f1⟩ := HR3.out.cells
      have hlt := HR3.out.lt
      have HG1 := hid g1
      clear HR3 HZ2 B2 HG HXR2 g1
      generalize zneg (z) = bb at *
      generalize zlim (z) = ll at *
      go_wp2
      exact bodyPost_ret (v := .agg #[.bool bb, .slice ao2 ll.length cap2]) (by simp [results, Tryd.results42, go_sem, g2, g3]) rfl HG1.out
    · go_wp2_with fail
      try rw [HY.out]
      try rw [E3.out]
      try rw [E2.out]
      try rw [E1.out]
      clear HY E1 E2 E3
      obtain ⟨a0, a1, a2, a3⟩ := HXA.out.cells
      obtain ⟨b0, b1, b2, b3⟩ := HXB.out.cells
      obtain ⟨q0, q1, q2, q3⟩ := HXR.out.cells
      have HD := hid ((Below.refl y.heap.size y).drew)
      go_region_held3 (fun w' => w'.cell? ⟨gA, 0, none⟩ = some (.bool false) ∧ w'.cell? ⟨gA, 1, none⟩ = some (.slice ao la.length ca) ∧ w'.cell? ⟨gB, 0, none⟩ = some (.bool true) ∧ w'.cell? ⟨gB, 1, none⟩ = some (.slice bo lb.length cb) ) (exact ⟨by assumption, by assumption, by assumption, by assumption⟩) (first
        | (go_at_call 21
           refine (nat_mul' (by exact HSA.out.below (Hid.out (by assumption))) (by exact HSB.out.below (Hid.out (by assumption))) (by omega) (by omega)).mono ?_
           rintro e w1 ⟨v1, rfl, hs1, hb1⟩
           have hbn := hid (step_below (w := y) (Hid.out (by assumption)) hb1)
           obtain ⟨xa0, xa1, -, -⟩ := (HXA.out.below hbn.out).cells
           obtain ⟨xb0, xb1, -, -⟩ := (HXB.out.below hbn.out).cells
           obtain ⟨xr0, xr1, xr2, xr3⟩ := (HXR.out.below hbn.out).cells
           have HS1 := hid hs1
           clear hs1 hb1)
        | (go_at_call 74
           refine (whole_signed _ _ (by exact HS1.out) z (by exact HZ.out)).mono ?_
           rintro e w2 ⟨v2, rfl, hz2, hb2⟩
           have hbn2 := hid (step_below (w := y) (Hid.out (by assumption)) hb2)
           obtain ⟨ya0, ya1, -, -⟩ := (HXA.out.below hbn2.out).cells
           obtain ⟨yb0, yb1, -, -⟩ := (HXB.out.below hbn2.out).cells
           have HXR2 := hid (HXR.out.below hbn2.out)
           have B2 := hid (B0.out.trans (hbn2.out.mono B0.out.size))
           have HZ2 := hid hz2
           obtain ⟨ao2, cap2, rfl⟩ := hz2.form
           obtain ⟨r0, r1, r2, r3⟩ := HXR2.out.cells
           obtain ⟨za0, za1, -, -⟩ := ((HXA.out.below hbn2.out).other HNE.out.1 (.bool (zneg z)) (.slice ao2 (zlim z).length cap2)).cells
           obtain ⟨zb0, zb1, -, -⟩ := ((HXB.out.below hbn2.out).other HNE.out.2 (.bool (zneg z)) (.slice ao2 (zlim z).length cap2)).cells
           have hlt := HXR2.out.lt
           clear hb2 hz2))
      have HR3 := hid (HXR2.out)
      obtain ⟨g1, g2, g3⟩ := store_end B2.out HG.out HR3.out HZ2.out
      obtain ⟨c0, c1, f0, f1⟩ := HR3.out.cells
      have hlt := HR3.out.lt
      have HG1 := hid g1
      clear HR3 HZ2 B2 HG HXR2 g1
      generalize zneg (z) = bb at *
      generalize zlim (z) = ll at *
      go_wp2
      exact bodyPost_ret (v := .agg #[.bool bb, .slice ao2 ll.length cap2]) (by simp [results, Tryd.results42, go_sem, g2, g3]) rfl HG1.out
  · cases k
    · go_wp2_with fail
      try rw [HY.out]
      try rw [E3.out]
      try rw [E2.out]
      try rw [E1.out]
      clear HY E1 E2 E3
      obtain ⟨a0, a1, a2, a3⟩ := HXA.out.cells
      obtain ⟨b0, b1, b2, b3⟩ := HXB.out.cells
      obtain ⟨q0, q1, q2, q3⟩ := HXR.out.cells
      have HD := hid ((Below.refl y.heap.size y).drew)
      go_region_held3 (fun w' => w'.cell? ⟨gA, 0, none⟩ = some (.bool true) ∧ w'.cell? ⟨gA, 1, none⟩ = some (.slice ao la.length ca) ∧ w'.cell? ⟨gB, 0, none⟩ = some (.bool false) ∧ w'.cell? ⟨gB, 1, none⟩ = some (.slice bo lb.length cb) ) (exact ⟨by assumption, by assumption, by assumption, by assumption⟩) (first
        | (go_at_call 21
           refine (nat_mul' (by exact HSA.out.below (Hid.out (by assumption))) (by exact HSB.out.below (Hid.out (by assumption))) (by omega) (by omega)).mono ?_
           rintro e w1 ⟨v1, rfl, hs1, hb1⟩
           have hbn := hid (step_below (w := y) (Hid.out (by assumption)) hb1)
           obtain ⟨xa0, xa1, -, -⟩ := (HXA.out.below hbn.out).cells
           obtain ⟨xb0, xb1, -, -⟩ := (HXB.out.below hbn.out).cells
           obtain ⟨xr0, xr1, xr2, xr3⟩ := (HXR.out.below hbn.out).cells
           have HS1 := hid hs1
           clear hs1 hb1)
        | (go_at_call 74
           refine (whole_signed _ _ (by exact HS1.out) z (by exact HZ.out)).mono ?_
           rintro e w2 ⟨v2, rfl, hz2, hb2⟩
           have hbn2 := hid (step_below (w := y) (Hid.out (by assumption)) hb2)
           obtain ⟨ya0, ya1, -, -⟩ := (HXA.out.below hbn2.out).cells
           obtain ⟨yb0, yb1, -, -⟩ := (HXB.out.below hbn2.out).cells
           have HXR2 := hid (HXR.out.below hbn2.out)
           have B2 := hid (B0.out.trans (hbn2.out.mono B0.out.size))
           have HZ2 := hid hz2
           obtain ⟨ao2, cap2, rfl⟩ := hz2.form
           obtain ⟨r0, r1, r2, r3⟩ := HXR2.out.cells
           obtain ⟨za0, za1, -, -⟩ := ((HXA.out.below hbn2.out).other HNE.out.1 (.bool (zneg z)) (.slice ao2 (zlim z).length cap2)).cells
           obtain ⟨zb0, zb1, -, -⟩ := ((HXB.out.below hbn2.out).other HNE.out.2 (.bool (zneg z)) (.slice ao2 (zlim z).length cap2)).cells
           have hlt := HXR2.out.lt
           clear hb2 hz2))
      have HR3 := hid (HXR2.out)
      obtain ⟨g1, g2, g3⟩ := store_end B2.out HG.out HR3.out HZ2.out
      obtain ⟨c0, c1, f0, f1⟩ := HR3.out.cells
      have hlt := HR3.out.lt
      have HG1 := hid g1
      clear HR3 HZ2 B2 HG HXR2 g1
      generalize zneg (z) = bb at *
      generalize zlim (z) = ll at *
      go_wp2
      exact bodyPost_ret (v := .agg #[.bool bb, .slice ao2 ll.length cap2]) (by simp [results, Tryd.results42, go_sem, g2, g3]) rfl HG1.out
    · go_wp2_with fail
      try rw [HY.out]
      try rw [E3.out]
      try rw [E2.out]
      try rw [E1.out]
      clear HY E1 E2 E3
      obtain ⟨a0, a1, a2, a3⟩ := HXA.out.cells
      obtain ⟨b0, b1, b2, b3⟩ := HXB.out.cells
      obtain ⟨q0, q1, q2, q3⟩ := HXR.out.cells
      have HD := hid ((Below.refl y.heap.size y).drew)
      go_region_held3 (fun w' => w'.cell? ⟨gA, 0, none⟩ = some (.bool true) ∧ w'.cell? ⟨gA, 1, none⟩ = some (.slice ao la.length ca) ∧ w'.cell? ⟨gB, 0, none⟩ = some (.bool true) ∧ w'.cell? ⟨gB, 1, none⟩ = some (.slice bo lb.length cb) ) (exact ⟨by assumption, by assumption, by assumption, by assumption⟩) (first
        | (go_at_call 21
           refine (nat_mul' (by exact HSA.out.below (Hid.out (by assumption))) (by exact HSB.out.below (Hid.out (by assumption))) (by omega) (by omega)).mono ?_
           rintro e w1 ⟨v1, rfl, hs1, hb1⟩
           have hbn := hid (step_below (w := y) (Hid.out (by assumption)) hb1)
           obtain ⟨xa0, xa1, -, -⟩ := (HXA.out.below hbn.out).cells
           obtain ⟨xb0, xb1, -, -⟩ := (HXB.out.below hbn.out).cells
           obtain ⟨xr0, xr1, xr2, xr3⟩ := (HXR.out.below hbn.out).cells
           have HS1 := hid hs1
           clear hs1 hb1)
        | (go_at_call 74
           refine (whole_signed _ _ (by exact HS1.out) z (by exact HZ.out)).mono ?_
           rintro e w2 ⟨v2, rfl, hz2, hb2⟩
           have hbn2 := hid (step_below (w := y) (Hid.out (by assumption)) hb2)
           obtain ⟨ya0, ya1, -, -⟩ := (HXA.out.below hbn2.out).cells
           obtain ⟨yb0, yb1, -, -⟩ := (HXB.out.below hbn2.out).cells
           have HXR2 := hid (HXR.out.below hbn2.out)
           have B2 := hid (B0.out.trans (hbn2.out.mono B0.out.size))
           have HZ2 := hid hz2
           obtain ⟨ao2, cap2, rfl⟩ := hz2.form
           obtain ⟨r0, r1, r2, r3⟩ := HXR2.out.cells
           obtain ⟨za0, za1, -, -⟩ := ((HXA.out.below hbn2.out).other HNE.out.1 (.bool (zneg z)) (.slice ao2 (zlim z).length cap2)).cells
           obtain ⟨zb0, zb1, -, -⟩ := ((HXB.out.below hbn2.out).other HNE.out.2 (.bool (zneg z)) (.slice ao2 (zlim z).length cap2)).cells
           have hlt := HXR2.out.lt
           clear hb2 hz2))
      have HR3 := hid (HXR2.out)
      obtain ⟨g1, g2, g3⟩ := store_end B2.out HG.out HR3.out HZ2.out
      obtain ⟨c0, c1, f0, f1⟩ := HR3.out.cells
      have hlt := HR3.out.lt
      have HG1 := hid g1
      clear HR3 HZ2 B2 HG HXR2 g1
      generalize zneg (z) = bb at *
      generalize zlim (z) = ll at *
      go_wp2
      exact bodyPost_ret (v := .agg #[.bool bb, .slice ao2 ll.length cap2]) (by simp [results, Tryd.results42, go_sem, g2, g3]) rfl HG1.out

set_option maxRecDepth 100000 in
set_option maxHeartbeats 4000000 in
theorem ref_mulZ {va vb : Value} {n k : Bool} {la lb : List Nat} {w : World} (ha : SeesZ w va n la) (hb : SeesZ w vb k lb) (hla : la.length ≤ 17592186044000) (hlb : lb.length ≤ 17592186044000) :
    Calls Tryd.prog 43 #[va, vb] w fun e w' => IsInt w (zval n la * zval k lb) e w' := by
  obtain ⟨ma, rfl, hma⟩ := ha
  obtain ⟨mb, rfl, hmb⟩ := hb
  have HMA := hid hma; have HMB := hid hmb
  obtain ⟨ao, ca, rfl, -, -, -, -, -⟩ := hma
  obtain ⟨bo, cb, rfl, -, -, -, -, -⟩ := hmb
  obtain ⟨y, gA, gB, gR, hy, b, e1, e2, e3, xA, xB, xR⟩ := three_boxes w (.bool n) (.slice ao la.length ca) (.bool k) (.slice bo lb.length cb) (.bool false) (.slice none 0 0) 34
  have HY := hid hy.symm; have E1 := hid e1.symm; have E2 := hid e2.symm; have E3 := hid e3.symm
  have HXA := hid xA; have HXB := hid xB; have HXR := hid xR; have B0 := hid b; have HSA := hid (HMA.out.below b); have HSB := hid (HMB.out.below b)
  have HG : Hid (w.heap.size ≤ gR) := hid (by omega)
  have HNE : Hid (gA ≠ gR ∧ gB ≠ gR) := hid (by constructor <;> omega)
  clear hy e1 e2 e3 xA xB xR b HMA HMB
  have HLM : Hid ((limbs (val la * val lb)).length ≤ 35184372088832) := Nat.le_trans (mul_length HSA.out.ok HSB.out.ok 17592186044000 17592186044000 hla hlb) (by decide)
  have HZ := hid (zmul n k la lb)
  generalize zval n la * zval k lb = z at *
  go_enter Tryd.func43, Tryd.ntmps43
  cases n
  · cases k
    · go_wp2_with fail
      try rw [HY.out]
      try rw [E3.out]
      try rw [E2.out]
      try rw [E1.out]
      clear HY E1 E2 E3
      obtain ⟨a0, a1, a2, a3⟩ := HXA.out.cells
      obtain ⟨b0, b1, b2, b3⟩ := HXB.out.cells
      obtain ⟨q0, q1, q2, q3⟩ := HXR.out.cells
      have HD := hid ((Below.refl y.heap.size y).drew)
      go_region_held3 (fun w' => w'.cell? ⟨gA, 0, none⟩ = some (.bool false) ∧ w'.cell? ⟨gA, 1, none⟩ = some (.slice ao la.length ca) ∧ w'.cell? ⟨gB, 0, none⟩ = some (.bool false) ∧ w'.cell? ⟨gB, 1, none⟩ = some (.slice bo lb.length cb) ) (exact ⟨by assumption, by assumption, by assumption, by assumption⟩) (first
        | (go_at_call 83
           refine (ref_mul' (by exact HSA.out.below (Hid.out (by assumption))) (by exact HSB.out.below (Hid.out (by assumption))) (by omega) (by omega)).mono ?_
           rintro e w1 ⟨v1, rfl, hs1, hb1⟩
           have hbn := hid (step_below (w := y) (Hid.out (by assumption)) hb1)
           obtain ⟨xa0, xa1, -, -⟩ := (HXA.out.below hbn.out).cells
           obtain ⟨xb0, xb1, -, -⟩ := (HXB.out.below hbn.out).cells
           obtain ⟨xr0, xr1, xr2, xr3⟩ := (HXR.out.below hbn.out).cells
           have HS1 := hid hs1
           clear hs1 hb1)
        | (go_at_call 75
           refine (ref_make _ (by exact HS1.out) HLM.out z (by rw [val_limbs]; exact HZ.out)).mono ?_
           rintro e w2 ⟨v2, rfl, hz2, hb2⟩
           have hbn2 := hid (step_below (w := y) (Hid.out (by assumption)) hb2)
           obtain ⟨ya0, ya1, -, -⟩ := (HXA.out.below hbn2.out).cells
           obtain ⟨yb0, yb1, -, -⟩ := (HXB.out.below hbn2.out).cells
           have HXR2 := hid (HXR.out.below hbn2.out)
           have B2 := hid (B0.out.trans (hbn2.out.mono B0.out.size))
           have HZ2 := hid hz2
           obtain ⟨ao2, cap2, rfl⟩ := hz2.form
           obtain ⟨r0, r1, r2, r3⟩ := HXR2.out.cells
           obtain ⟨za0, za1, -, -⟩ := ((HXA.out.below hbn2.out).other HNE.out.1 (.bool (zneg z)) (.slice ao2 (zlim z).length cap2)).cells
           obtain ⟨zb0, zb1, -, -⟩ := ((HXB.out.below hbn2.out).other HNE.out.2 (.bool (zneg z)) (.slice ao2 (zlim z).length cap2)).cells
           have hlt := HXR2.out.lt
           clear hb2 hz2))
      have HR3 := hid (HXR2.out)
      obtain ⟨g1, g2, g3⟩ := store_end B2.out HG.out HR3.out HZ2.out
      obtain ⟨c0, c1, f0, f1⟩ := HR3.out.cells
      have hlt := HR3.out.lt
      have HG1 := hid g1
      clear HR3 HZ2 B2 HG HXR2 g1
      generalize zneg (z) = bb at *
      generalize zlim (z) = ll at *
      go_wp2
      exact bodyPost_ret (v := .agg #[.bool bb, .slice ao2 ll.length cap2]) (by simp [results, Tryd.results43, go_sem, g2, g3]) rfl HG1.out
    · go_wp2_with fail
      try rw [HY.out]
      try rw [E3.out]
      try rw [E2.out]
      try rw [E1.out]
      clear HY E1 E2 E3
      obtain ⟨a0, a1, a2, a3⟩ := HXA.out.cells
      obtain ⟨b0, b1, b2, b3⟩ := HXB.out.cells
      obtain ⟨q0, q1, q2, q3⟩ := HXR.out.cells
      have HD := hid ((Below.refl y.heap.size y).drew)
      go_region_held3 (fun w' => w'.cell? ⟨gA, 0, none⟩ = some (.bool false) ∧ w'.cell? ⟨gA, 1, none⟩ = some (.slice ao la.length ca) ∧ w'.cell? ⟨gB, 0, none⟩ = some (.bool true) ∧ w'.cell? ⟨gB, 1, none⟩ = some (.slice bo lb.length cb) ) (exact ⟨by assumption, by assumption, by assumption, by assumption⟩) (first
        | (go_at_call 83
           refine (ref_mul' (by exact HSA.out.below (Hid.out (by assumption))) (by exact HSB.out.below (Hid.out (by assumption))) (by omega) (by omega)).mono ?_
           rintro e w1 ⟨v1, rfl, hs1, hb1⟩
           have hbn := hid (step_below (w := y) (Hid.out (by assumption)) hb1)
           obtain ⟨xa0, xa1, -, -⟩ := (HXA.out.below hbn.out).cells
           obtain ⟨xb0, xb1, -, -⟩ := (HXB.out.below hbn.out).cells
           obtain ⟨xr0, xr1, xr2, xr3⟩ := (HXR.out.below hbn.out).cells
           have HS1 := hid hs1
           clear hs1 hb1)
        | (go_at_call 75
           refine (ref_make _ (by exact HS1.out) HLM.out z (by rw [val_limbs]; exact HZ.out)).mono ?_
           rintro e w2 ⟨v2, rfl, hz2, hb2⟩
           have hbn2 := hid (step_below (w := y) (Hid.out (by assumption)) hb2)
           obtain ⟨ya0, ya1, -, -⟩ := (HXA.out.below hbn2.out).cells
           obtain ⟨yb0, yb1, -, -⟩ := (HXB.out.below hbn2.out).cells
           have HXR2 := hid (HXR.out.below hbn2.out)
           have B2 := hid (B0.out.trans (hbn2.out.mono B0.out.size))
           have HZ2 := hid hz2
           obtain ⟨ao2, cap2, rfl⟩ := hz2.form
           obtain ⟨r0, r1, r2, r3⟩ := HXR2.out.cells
           obtain ⟨za0, za1, -, -⟩ := ((HXA.out.below hbn2.out).other HNE.out.1 (.bool (zneg z)) (.slice ao2 (zlim z).length cap2)).cells
           obtain ⟨zb0, zb1, -, -⟩ := ((HXB.out.below hbn2.out).other HNE.out.2 (.bool (zneg z)) (.slice ao2 (zlim z).length cap2)).cells
           have hlt := HXR2.out.lt
           clear hb2 hz2))
      have HR3 := hid (HXR2.out)
      obtain ⟨g1, g2, g3⟩ := store_end B2.out HG.out HR3.out HZ2.out
      obtain ⟨c0, c1, f0, f1⟩ := HR3.out.cells
      have hlt := HR3.out.lt
      have HG1 := hid g1
      clear HR3 HZ2 B2 HG HXR2 g1
      generalize zneg (z) = bb at *
      generalize zlim (z) = ll at *
      go_wp2
      exact bodyPost_ret (v := .agg #[.bool bb, .slice ao2 ll.length cap2]) (by simp [results, Tryd.results43, go_sem, g2, g3]) rfl HG1.out
  · cases k
    · go_wp2_with fail
      try rw [HY.out]
      try rw [E3.out]
      try rw [E2.out]
      try rw [E1.out]
      clear HY E1 E2 E3
      obtain ⟨a0, a1, a2, a3⟩ := HXA.out.cells
      obtain ⟨b0, b1, b2, b3⟩ := HXB.out.cells
      obtain ⟨q0, q1, q2, q3⟩ := HXR.out.cells
      have HD := hid ((Below.refl y.heap.size y).drew)
      go_region_held3 (fun w' => w'.cell? ⟨gA, 0, none⟩ = some (.bool true) ∧ w'.cell? ⟨gA, 1, none⟩ = some (.slice ao la.length ca) ∧ w'.cell? ⟨gB, 0, none⟩ = some (.bool false) ∧ w'.cell? ⟨gB, 1, none⟩ = some (.slice bo lb.length cb) ) (exact ⟨by assumption, by assumption, by assumption, by assumption⟩) (first
        | (go_at_call 83
           refine (ref_mul' (by exact HSA.out.below (Hid.out (by assumption))) (by exact HSB.out.below (Hid.out (by assumption))) (by omega) (by omega)).mono ?_
           rintro e w1 ⟨v1, rfl, hs1, hb1⟩
           have hbn := hid (step_below (w := y) (Hid.out (by assumption)) hb1)
           obtain ⟨xa0, xa1, -, -⟩ := (HXA.out.below hbn.out).cells
           obtain ⟨xb0, xb1, -, -⟩ := (HXB.out.below hbn.out).cells
           obtain ⟨xr0, xr1, xr2, xr3⟩ := (HXR.out.below hbn.out).cells
           have HS1 := hid hs1
           clear hs1 hb1)
        | (go_at_call 75
           refine (ref_make _ (by exact HS1.out) HLM.out z (by rw [val_limbs]; exact HZ.out)).mono ?_
           rintro e w2 ⟨v2, rfl, hz2, hb2⟩
           have hbn2 := hid (step_below (w := y) (Hid.out (by assumption)) hb2)
           obtain ⟨ya0, ya1, -, -⟩ := (HXA.out.below hbn2.out).cells
           obtain ⟨yb0, yb1, -, -⟩ := (HXB.out.below hbn2.out).cells
           have HXR2 := hid (HXR.out.below hbn2.out)
           have B2 := hid (B0.out.trans (hbn2.out.mono B0.out.size))
           have HZ2 := hid hz2
           obtain ⟨ao2, cap2, rfl⟩ := hz2.form
           obtain ⟨r0, r1, r2, r3⟩ := HXR2.out.cells
           obtain ⟨za0, za1, -, -⟩ := ((HXA.out.below hbn2.out).other HNE.out.1 (.bool (zneg z)) (.slice ao2 (zlim z).length cap2)).cells
           obtain ⟨zb0, zb1, -, -⟩ := ((HXB.out.below hbn2.out).other HNE.out.2 (.bool (zneg z)) (.slice ao2 (zlim z).length cap2)).cells
           have hlt := HXR2.out.lt
           clear hb2 hz2))
      have HR3 := hid (HXR2.out)
      obtain ⟨g1, g2, g3⟩ := store_end B2.out HG.out HR3.out HZ2.out
      obtain ⟨c0, c1, f0, f1⟩ := HR3.out.cells
      have hlt := HR3.out.lt
      have HG1 := hid g1
      clear HR3 HZ2 B2 HG HXR2 g1
      generalize zneg (z) = bb at *
      generalize zlim (z) = ll at *
      go_wp2
      exact bodyPost_ret (v := .agg #[.bool bb, .slice ao2 ll.length cap2]) (by simp [results, Tryd.results43, go_sem, g2, g3]) rfl HG1.out
    · go_wp2_with fail
      try rw [HY.out]
      try rw [E3.out]
      try rw [E2.out]
      try rw [E1.out]
      clear HY E1 E2 E3
      obtain ⟨a0, a1, a2, a3⟩ := HXA.out.cells
      obtain ⟨b0, b1, b2, b3⟩ := HXB.out.cells
      obtain ⟨q0, q1, q2, q3⟩ := HXR.out.cells
      have HD := hid ((Below.refl y.heap.size y).drew)
      go_region_held3 (fun w' => w'.cell? ⟨gA, 0, none⟩ = some (.bool true) ∧ w'.cell? ⟨gA, 1, none⟩ = some (.slice ao la.length ca) ∧ w'.cell? ⟨gB, 0, none⟩ = some (.bool true) ∧ w'.cell? ⟨gB, 1, none⟩ = some (.slice bo lb.length cb) ) (exact ⟨by assumption, by assumption, by assumption, by assumption⟩) (first
        | (go_at_call 83
           refine (ref_mul' (by exact HSA.out.below (Hid.out (by assumption))) (by exact HSB.out.below (Hid.out (by assumption))) (by omega) (by omega)).mono ?_
           rintro e w1 ⟨v1, rfl, hs1, hb1⟩
           have hbn := hid (step_below (w := y) (Hid.out (by assumption)) hb1)
           obtain ⟨xa0, xa1, -, -⟩ := (HXA.out.below hbn.out).cells
           obtain ⟨xb0, xb1, -, -⟩ := (HXB.out.below hbn.out).cells
           obtain ⟨xr0, xr1, xr2, xr3⟩ := (HXR.out.below hbn.out).cells
           have HS1 := hid hs1
           clear hs1 hb1)
        | (go_at_call 75
           refine (ref_make _ (by exact HS1.out) HLM.out z (by rw [val_limbs]; exact HZ.out)).mono ?_
           rintro e w2 ⟨v2, rfl, hz2, hb2⟩
           have hbn2 := hid (step_below (w := y) (Hid.out (by assumption)) hb2)
           obtain ⟨ya0, ya1, -, -⟩ := (HXA.out.below hbn2.out).cells
           obtain ⟨yb0, yb1, -, -⟩ := (HXB.out.below hbn2.out).cells
           have HXR2 := hid (HXR.out.below hbn2.out)
           have B2 := hid (B0.out.trans (hbn2.out.mono B0.out.size))
           have HZ2 := hid hz2
           obtain ⟨ao2, cap2, rfl⟩ := hz2.form
           obtain ⟨r0, r1, r2, r3⟩ := HXR2.out.cells
           obtain ⟨za0, za1, -, -⟩ := ((HXA.out.below hbn2.out).other HNE.out.1 (.bool (zneg z)) (.slice ao2 (zlim z).length cap2)).cells
           obtain ⟨zb0, zb1, -, -⟩ := ((HXB.out.below hbn2.out).other HNE.out.2 (.bool (zneg z)) (.slice ao2 (zlim z).length cap2)).cells
           have hlt := HXR2.out.lt
           clear hb2 hz2))
      have HR3 := hid (HXR2.out)
      obtain ⟨g1, g2, g3⟩ := store_end B2.out HG.out HR3.out HZ2.out
      obtain ⟨c0, c1, f0, f1⟩ := HR3.out.cells
      have hlt := HR3.out.lt
      have HG1 := hid g1
      clear HR3 HZ2 B2 HG HXR2 g1
      generalize zneg (z) = bb at *
      generalize zlim (z) = ll at *
      go_wp2
      exact bodyPost_ret (v := .agg #[.bool bb, .slice ao2 ll.length cap2]) (by simp [results, Tryd.results43, go_sem, g2, g3]) rfl HG1.out
end Go.Proofs.YtfjanomjmlcgaaaDoor

set_option linter.unusedVariables false
set_option linter.unusedSimpArgs false
namespace Go.Proofs.YtfjanomjmlcgaaaDoor
open Go.RowKit

theorem ref_make' (neg : Bool) (x : Nat) {m : Value} {w : World} (h : Sees w m (limbs x)) (hl : (limbs x).length ≤ 100001) (z : Int) (hz : z = if neg then -(x : Int) else (x : Int)) :
    Calls Tryd.prog 75 #[.bool neg, m] w fun e w' => IsInt w z e w' :=
  ref_make neg h (by omega) z (by rw [val_limbs]; exact hz)
theorem isZ_zero (w : World) : IsZ w (.agg #[.bool false, .slice none 0 0]) 0 := ⟨_, rfl, Sees.nil w⟩

set_option maxRecDepth 100000 in
set_option maxHeartbeats 4000000 in
theorem whole_div0 {a b : Value} {n k : Bool} {l m : List Nat} {w : World} (ha : SeesZ w a n l) (hb : SeesZ w b k m)  (h0 : val m = 0) :
    Calls Tryd.prog 40 #[a, b] w fun e w' => ∃ q r, e = .returned (.tuple #[q, r, .bool false]) ∧ SeesZ w' q false [] ∧ SeesZ w' r false [] ∧ Below w.heap.size w w' := by
  obtain ⟨va, rfl, ha⟩ := ha
  obtain ⟨vb, rfl, hb⟩ := hb
  have HA := hid ha; have HB := hid hb
  obtain ⟨aa, ca, rfl, -, -, -, -, -⟩ := ha
  obtain ⟨ab, cb, rfl, -, -, -, -, -⟩ := hb
  obtain ⟨w0, ga, gb, g1, g2, hw0, b0, e1, e2, e3, e4, x1, x2, y1, y2⟩ := four_boxes w (.bool n) (.slice aa l.length ca) (.bool k) (.slice ab m.length cb) (.bool false) (.slice none 0 0) (.bool false) (.slice none 0 0) 34
  have HW := hid hw0.symm
  have HG : Hid (w.heap.size ≤ g1 ∧ w.heap.size ≤ g2 ∧ g1 ≠ g2) := by refine ⟨?_, ?_, ?_⟩ <;> omega
  have E1 := hid e1.symm; have E2 := hid e2.symm; have E3 := hid e3.symm; have E4 := hid e4.symm
  have B0 := hid b0; have Y1 := hid y1; have Y2 := hid y2
  have HA0 := hid (HA.out.below b0); have HB0 := hid (HB.out.below b0)
  have H0 := hid h0
  clear hw0 b0 x1 x2 y1 y2 HA HB e1 e2 e3 e4 h0
  go_enter Tryd.func40, Tryd.ntmps40
  go_wp2_with fail
  rw [HW.out, E4.out, E3.out, E2.out, E1.out]
  clear HW E1 E2 E3 E4
  refine (nat_divmod0' HA0.out HB0.out H0.out).mono ?_
  rintro e w1 ⟨rfl, rfl⟩
  have B1 := B0; have Y11 := Y1; have Y21 := Y2
  clear B0 Y1 Y2 
  obtain ⟨w7, hw7, z7, y7, b7, m0, m1, m2, m3⟩ := store_end2 B1.out HG.out.1 HG.out.2.1 HG.out.2.2 Y11.out Y21.out (isZ_zero _) (isZ_zero _)
  obtain ⟨c0, c1, f0, f1⟩ := Y11.out.cells
  obtain ⟨d0, d1, k0, k1⟩ := Y21.out.cells
  obtain ⟨q0, q1, q2, q3⟩ := (Y21.out.other (Ne.symm HG.out.2.2) (.bool false) (.slice none 0 0)).cells
  have hlt := Y11.out.lt
  have hlt2 := Y21.out.lt
  have HZ7 := hid z7; have HY7 := hid y7; have HB7 := hid b7; have HW7 := hid hw7.symm
  have HNE := HG.out.2.2
  clear z7 y7 b7 hw7
  go_wp2
  rw [HW7.out]
  exact bodyPost_ret (v := .tuple #[.agg #[.bool false, .slice none 0 0], .agg #[.bool false, .slice none 0 0], .bool false]) (by simp [results, Tryd.results40, go_sem, m0, m1, m2, m3]) rfl ⟨_, _, rfl, HZ7.out, HY7.out, HB7.out⟩

set_option maxRecDepth 100000 in
set_option maxHeartbeats 4000000 in
theorem ref_divZ0 {a b : Value} {n k : Bool} {l m : List Nat} {w : World} (ha : SeesZ w a n l) (hb : SeesZ w b k m) (hl : l.length ≤ 35184372088000) (hm : m.length ≤ 35184372088000) (h0 : val m = 0) :
    Calls Tryd.prog 41 #[a, b] w fun e w' => ∃ q r, e = .returned (.tuple #[q, r, .bool false]) ∧ SeesZ w' q false [] ∧ SeesZ w' r false [] ∧ Below w.heap.size w w' := by
  obtain ⟨va, rfl, ha⟩ := ha
  obtain ⟨vb, rfl, hb⟩ := hb
  have HA := hid ha; have HB := hid hb
  obtain ⟨aa, ca, rfl, -, -, -, -, -⟩ := ha
  obtain ⟨ab, cb, rfl, -, -, -, -, -⟩ := hb
  obtain ⟨w0, ga, gb, g1, g2, hw0, b0, e1, e2, e3, e4, x1, x2, y1, y2⟩ := four_boxes w (.bool n) (.slice aa l.length ca) (.bool k) (.slice ab m.length cb) (.bool false) (.slice none 0 0) (.bool false) (.slice none 0 0) 34
  have HW := hid hw0.symm
  have HG : Hid (w.heap.size ≤ g1 ∧ w.heap.size ≤ g2 ∧ g1 ≠ g2) := by refine ⟨?_, ?_, ?_⟩ <;> omega
  have E1 := hid e1.symm; have E2 := hid e2.symm; have E3 := hid e3.symm; have E4 := hid e4.symm
  have B0 := hid b0; have Y1 := hid y1; have Y2 := hid y2
  have HA0 := hid (HA.out.below b0); have HB0 := hid (HB.out.below b0)
  have H0 := hid h0
  clear hw0 b0 x1 x2 y1 y2 HA HB e1 e2 e3 e4 h0
  go_enter Tryd.func41, Tryd.ntmps41
  go_wp2_with fail
  rw [HW.out, E4.out, E3.out, E2.out, E1.out]
  clear HW E1 E2 E3 E4
  refine (ref_div_zero HA0.out HB0.out hl hm H0.out).mono ?_
  rintro e w1 ⟨rfl, hb1⟩
  have B1 := hid (step_below B0.out hb1); have Y11 := hid (Y1.out.below hb1); have Y21 := hid (Y2.out.below hb1)
  clear B0 Y1 Y2 hb1
  obtain ⟨w7, hw7, z7, y7, b7, m0, m1, m2, m3⟩ := store_end2 B1.out HG.out.1 HG.out.2.1 HG.out.2.2 Y11.out Y21.out (isZ_zero _) (isZ_zero _)
  obtain ⟨c0, c1, f0, f1⟩ := Y11.out.cells
  obtain ⟨d0, d1, k0, k1⟩ := Y21.out.cells
  obtain ⟨q0, q1, q2, q3⟩ := (Y21.out.other (Ne.symm HG.out.2.2) (.bool false) (.slice none 0 0)).cells
  have hlt := Y11.out.lt
  have hlt2 := Y21.out.lt
  have HZ7 := hid z7; have HY7 := hid y7; have HB7 := hid b7; have HW7 := hid hw7.symm
  have HNE := HG.out.2.2
  clear z7 y7 b7 hw7
  go_wp2
  rw [HW7.out]
  exact bodyPost_ret (v := .tuple #[.agg #[.bool false, .slice none 0 0], .agg #[.bool false, .slice none 0 0], .bool false]) (by simp [results, Tryd.results41, go_sem, m0, m1, m2, m3]) rfl ⟨_, _, rfl, HZ7.out, HY7.out, HB7.out⟩
set_option maxRecDepth 100000 in
set_option maxHeartbeats 4000000 in
theorem ref_divZ {a b : Value} {n k : Bool} {l m : List Nat} {w : World} (ha : SeesZ w a n l) (hb : SeesZ w b k m) (hl : l.length ≤ 100000) (hm : m.length ≤ 100000) (h0 : 0 < val m) :
    Calls Tryd.prog 41 #[a, b] w fun e w' => ∃ q r, e = .returned (.tuple #[q, r, .bool true]) ∧ IsZ w' q (zval n l / zval k m) ∧ IsZ w' r (zval n l % zval k m) ∧ Below w.heap.size w w' := by
  obtain ⟨va, rfl, ha⟩ := ha
  obtain ⟨vb, rfl, hb⟩ := hb
  have HA := hid ha; have HB := hid hb
  have hok := ha.ok
  have hokm := hb.ok
  have HL1 : Hid ((limbs (val l / val m)).length ≤ 100000) := Nat.le_trans (limbs_length_le (Nat.lt_of_le_of_lt (Nat.div_le_self _ _) (val_lt hok))) hl
  have HL2 : Hid ((limbs (val l % val m)).length ≤ 100000) := Nat.le_trans (limbs_length_le (Nat.lt_of_le_of_lt (Nat.mod_le _ _) (val_lt hok))) hl
  have HL3 : Hid ((limbs (val m - val l % val m)).length ≤ 100000) := Nat.le_trans (limbs_length_le (Nat.lt_of_le_of_lt (Nat.sub_le _ _) (val_lt hokm))) hm
  have HL4 : Hid ((limbs (val l / val m + 1)).length ≤ 100001) := by
    refine limbs_length_le ?_
    obtain ⟨N, hN⟩ : ∃ N, N = 100000 := ⟨_, rfl⟩
    have h1 : val l / val m < 4294967296 ^ N := Nat.lt_of_lt_of_le (Nat.lt_of_le_of_lt (Nat.div_le_self _ _) (val_lt hok)) (Nat.pow_le_pow_right (by decide) (by omega))
    rw [show 100001 = N + 1 by omega, Nat.pow_succ]
    generalize 4294967296 ^ N = P at h1 ⊢
    generalize val l / val m = Q at h1 ⊢
    omega
  obtain ⟨aa, ca, rfl, -, -, -, -, -⟩ := ha
  obtain ⟨ab, cb, rfl, -, -, -, -, -⟩ := hb
  obtain ⟨w0, ga, gb, g1, g2, hw0, b0, e1, e2, e3, e4, x1, x2, y1, y2⟩ := four_boxes w (.bool n) (.slice aa l.length ca) (.bool k) (.slice ab m.length cb) (.bool false) (.slice none 0 0) (.bool false) (.slice none 0 0) 34
  have HW := hid hw0.symm
  have HG : Hid (w.heap.size ≤ g1 ∧ w.heap.size ≤ g2 ∧ g1 ≠ g2) := by refine ⟨?_, ?_, ?_⟩ <;> omega
  have E1 := hid e1.symm; have E2 := hid e2.symm; have E3 := hid e3.symm; have E4 := hid e4.symm
  have B0 := hid b0; have X1 := hid x1; have X2 := hid x2; have Y1 := hid y1; have Y2 := hid y2
  have HA0 := hid (HA.out.below b0); have HB0 := hid (HB.out.below b0)
  clear hw0 b0 x1 x2 y1 y2 HA HB e1 e2 e3 e4
  go_enter Tryd.func41, Tryd.ntmps41
  go_wp2_with fail
  rw [HW.out, E4.out, E3.out, E2.out, E1.out]
  clear HW E1 E2 E3 E4
  refine (ref_div_pos HA0.out HB0.out hl hm h0).mono ?_
  rintro e w1 ⟨vq, vr, rfl, hq, hr, hb1⟩
  have B1 := hid (B0.out.trans (hb1.mono B0.out.size))
  have X11 := hid (X1.out.below hb1); have X21 := hid (X2.out.below hb1); have Y11 := hid (Y1.out.below hb1); have Y21 := hid (Y2.out.below hb1)
  have HB1 := hid (HB0.out.below hb1)
  have HQ := hid hq; have HR := hid hr
  clear hb1 hq hr B0 X1 X2 Y1 Y2 HA0 HB0
  obtain ⟨qa, qc, rfl, -, -, -, -, -⟩ := id HQ.out
  obtain ⟨ra, rc, rfl, -, -, -, -, -⟩ := id HR.out
  by_cases hcase : n = false ∨ val l % val m = 0
  · cases n
    · have HD := hid (div_keep false k k (by cases k <;> rfl) l m h0 hcase)
      clear hcase
      obtain ⟨p0, p1, p2, p3⟩ := X11.out.cells
      clear p1 p2 p3
      have hdz := HD.out
      obtain ⟨c0, c1, f0, f1⟩ := X11.out.cells
      obtain ⟨d0, d1, k0, k1⟩ := X21.out.cells
      go_wp2_with fail
      refine (ref_make' _ _ HQ.out (by first | exact HL4.out | (have := HL1.out; omega)) _ rfl).mono ?_
      rintro e w5 ⟨v5, rfl, hz5, hb5⟩
      rw [hdz.1] at hz5
      have B5 := hid (B1.out.trans (hb5.mono B1.out.size))
      have Y15 := hid (Y11.out.below hb5); have Y25 := hid (Y21.out.below hb5); have HR5 := hid (HR.out.below hb5)
      obtain ⟨ao5, cap5, rfl⟩ := hz5.form
      have HZ5 := hid hz5
      clear hb5 hz5 Y11 Y21 B1 HQ HR c0 c1 f0 f1 d0 d1 k0 k1
      go_wp2_with fail
      refine (ref_make' false _ HR5.out (by first | (have := HL3.out; omega) | (have := HL2.out; omega) | decide) _ rfl).mono ?_
      rintro e w6 ⟨v6, rfl, hz6, hb6⟩
      have hz6' := hz6
      rw [if_neg (by decide), hdz.2] at hz6'
      have B6 := hid (B5.out.trans (hb6.mono B5.out.size))
      have Y16 := hid (Y15.out.below hb6); have Y26 := hid (Y25.out.below hb6); have HZ56 := hid (HZ5.out.below hb6)
      obtain ⟨ao6, cap6, rfl⟩ := hz6'.form
      obtain ⟨w7, hw7, z7, y7, b7, m0, m1, m2, m3⟩ := store_end2 B6.out HG.out.1 HG.out.2.1 HG.out.2.2 Y16.out Y26.out HZ56.out hz6'
      obtain ⟨c0, c1, f0, f1⟩ := Y16.out.cells
      obtain ⟨d0, d1, k0, k1⟩ := Y26.out.cells
      have i0 := (Y16.out.other HG.out.2.2 (.bool true) (.bool true))
      have x26 := (Y26.out.other (Ne.symm HG.out.2.2) (.bool (zneg (zval false l / zval k m))) (.slice ao5 (zlim (zval false l / zval k m)).length cap5)).cells
      obtain ⟨q0, q1, q2, q3⟩ := x26
      have hlt := Y16.out.lt
      have hlt2 := Y26.out.lt
      have HZ7 := hid z7; have HY7 := hid y7; have HB7 := hid b7; have HW7 := hid hw7.symm
      have HNE := HG.out.2.2
      clear hb6 hz6 hz6' HZ5 HR5 Y15 Y25 B5 z7 y7 b7 hw7 HD hdz i0
      generalize zneg (zval false l / zval k m) = nb1 at *
      generalize zlim (zval false l / zval k m) = lb1 at *
      generalize zneg (zval false l % zval k m) = nb2 at *
      generalize zlim (zval false l % zval k m) = lb2 at *
      go_wp2
      rw [HW7.out]
      exact bodyPost_ret (v := .tuple #[.agg #[.bool nb1, .slice ao5 lb1.length cap5], .agg #[.bool nb2, .slice ao6 lb2.length cap6], .bool true]) (by simp [results, Tryd.results41, go_sem, m0, m1, m2, m3]) rfl ⟨_, _, rfl, HZ7.out, HY7.out, HB7.out⟩
    · have hr0 : val l % val m = 0 := by rcases hcase with h | h; cases h; exact h
      have HD := hid (div_keep true k (!k) (by cases k <;> rfl) l m h0 hcase)
      have HR0 := hid hr0
      clear hcase hr0
      simp only [HR0.out, limbs_zero, List.length_nil] at HR ⊢
      have hr00 := HR0.out
      have HL2' : Hid ((limbs 0).length ≤ 100000) := by show _ ≤ _; decide
      have hdz := HD.out
      obtain ⟨c0, c1, f0, f1⟩ := X11.out.cells
      obtain ⟨d0, d1, k0, k1⟩ := X21.out.cells
      go_wp2_with fail
      refine (ref_make' _ _ HQ.out (by first | exact HL4.out | (have := HL1.out; omega)) _ rfl).mono ?_
      rintro e w5 ⟨v5, rfl, hz5, hb5⟩
      rw [hdz.1] at hz5
      have B5 := hid (B1.out.trans (hb5.mono B1.out.size))
      have Y15 := hid (Y11.out.below hb5); have Y25 := hid (Y21.out.below hb5); have HR5 := hid (HR.out.below hb5)
      obtain ⟨ao5, cap5, rfl⟩ := hz5.form
      have HZ5 := hid hz5
      clear hb5 hz5 Y11 Y21 B1 HQ HR c0 c1 f0 f1 d0 d1 k0 k1
      go_wp2_with fail
      refine (ref_make' false 0 (by exact HR5.out) (by decide) _ rfl).mono ?_
      rintro e w6 ⟨v6, rfl, hz6, hb6⟩
      have hz6' := hz6
      have hdz2 : ((0 : Nat) : Int) = zval true l % zval k m := by have h5 := hdz.2; rw [HR0.out] at h5; exact h5
      rw [if_neg (by decide), hdz2] at hz6'
      have B6 := hid (B5.out.trans (hb6.mono B5.out.size))
      have Y16 := hid (Y15.out.below hb6); have Y26 := hid (Y25.out.below hb6); have HZ56 := hid (HZ5.out.below hb6)
      obtain ⟨ao6, cap6, rfl⟩ := hz6'.form
      obtain ⟨w7, hw7, z7, y7, b7, m0, m1, m2, m3⟩ := store_end2 B6.out HG.out.1 HG.out.2.1 HG.out.2.2 Y16.out Y26.out HZ56.out hz6'
      obtain ⟨c0, c1, f0, f1⟩ := Y16.out.cells
      obtain ⟨d0, d1, k0, k1⟩ := Y26.out.cells
      have i0 := (Y16.out.other HG.out.2.2 (.bool true) (.bool true))
      have x26 := (Y26.out.other (Ne.symm HG.out.2.2) (.bool (zneg (zval true l / zval k m))) (.slice ao5 (zlim (zval true l / zval k m)).length cap5)).cells
      obtain ⟨q0, q1, q2, q3⟩ := x26
      have hlt := Y16.out.lt
      have hlt2 := Y26.out.lt
      have HZ7 := hid z7; have HY7 := hid y7; have HB7 := hid b7; have HW7 := hid hw7.symm
      have HNE := HG.out.2.2
      clear hb6 hz6 hz6' HZ5 HR5 Y15 Y25 B5 z7 y7 b7 hw7 HD hdz i0
      generalize zneg (zval true l / zval k m) = nb1 at *
      generalize zlim (zval true l / zval k m) = lb1 at *
      generalize zneg (zval true l % zval k m) = nb2 at *
      generalize zlim (zval true l % zval k m) = lb2 at *
      go_wp2
      rw [HW7.out]
      exact bodyPost_ret (v := .tuple #[.agg #[.bool nb1, .slice ao5 lb1.length cap5], .agg #[.bool nb2, .slice ao6 lb2.length cap6], .bool true]) (by simp [results, Tryd.results41, go_sem, m0, m1, m2, m3]) rfl ⟨_, _, rfl, HZ7.out, HY7.out, HB7.out⟩
  · have hr0 : ¬ val l % val m = 0 := fun h => hcase (.inr h)
    have hn : n = true := by cases n; exact absurd (.inl rfl) hcase; rfl
    subst hn
    have HD := hid (div_lift k (!k) (by cases k <;> rfl) l m h0 hr0)
    have HR0 := hid hr0
    have HLE : Hid (val l % val m ≤ val m) := Nat.le_of_lt (Nat.mod_lt _ h0)
    have hrl := (limbs_last (Nat.pos_of_ne_zero hr0)).1
    obtain ⟨p0, p1, p2, p3⟩ := X11.out.cells
    clear hcase hr0
    go_wp2_with fail
    refine (ref_of 1 (by omega) (by omega) _).mono ?_
    rintro e w3 ⟨v3, rfl, hs3, hb3⟩
    clear p0 p1 p2 p3
    have B1' := hid (B1.out.trans (hb3.mono B1.out.size))
    have X11' := hid (X11.out.below hb3); have X21' := hid (X21.out.below hb3); have Y11' := hid (Y11.out.below hb3); have Y21' := hid (Y21.out.below hb3)
    have HQ' := hid (HQ.out.below hb3); have HR' := hid (HR.out.below hb3); have HB1' := hid (HB1.out.below hb3); have HS3 := hid hs3
    clear hb3 hs3 B1 X11 X21 Y11 Y21 HQ HR HB1
    go_wp2_with fail
    refine (ref_addV HQ'.out HS3.out (by have := HL1.out; omega) (by decide)).mono ?_
    rw [val_limbs, val_limbs]
    rintro e w4 ⟨v4, rfl, hs4, hb4⟩
    have B1 := hid (B1'.out.trans (hb4.mono B1'.out.size))
    have X11 := hid (X11'.out.below hb4); have X21 := hid (X21'.out.below hb4); have Y11 := hid (Y11'.out.below hb4); have Y21 := hid (Y21'.out.below hb4)
    have HR := hid (HR'.out.below hb4); have HB1 := hid (HB1'.out.below hb4); have HQ : Hid (Sees w4 v4 (limbs (val l / val m + 1))) := hs4
    clear hb4 hs4 B1' X11' X21' Y11' Y21' HQ' HR' HB1' HS3
    obtain ⟨p0, p1, p2, p3⟩ := X21.out.cells
    go_wp2_with fail
    refine (ref_sub_ok _ _ _ _ _ _ _ HB1.out HR.out (by omega) (by rw [val_limbs]; exact HLE.out)).mono ?_
    rw [val_limbs]
    rintro e w8 ⟨v8, rfl, hs8, hb8⟩
    have B1' := hid (B1.out.trans (hb8.mono B1.out.size))
    have X11' := hid (X11.out.below hb8); have X21' := hid (X21.out.below hb8); have Y11' := hid (Y11.out.below hb8); have Y21' := hid (Y21.out.below hb8)
    have HQ' := hid (HQ.out.below hb8); have HR' := hid hs8
    clear hb8 hs8 B1 X11 X21 Y11 Y21 HQ HR HB1 p0 p1 p2 p3
    have B1 := B1'; have X11 := X11'; have X21 := X21'; have Y11 := Y11'; have Y21 := Y21'; have HQ := HQ'; have HR := HR'
    clear B1' X11' X21' Y11' Y21' HQ' HR'
    have hdz := HD.out
    obtain ⟨c0, c1, f0, f1⟩ := X11.out.cells
    obtain ⟨d0, d1, k0, k1⟩ := X21.out.cells
    go_wp2_with fail
    refine (ref_make' _ _ HQ.out (by first | exact HL4.out | (have := HL1.out; omega)) _ rfl).mono ?_
    rintro e w5 ⟨v5, rfl, hz5, hb5⟩
    rw [hdz.1] at hz5
    have B5 := hid (B1.out.trans (hb5.mono B1.out.size))
    have Y15 := hid (Y11.out.below hb5); have Y25 := hid (Y21.out.below hb5); have HR5 := hid (HR.out.below hb5)
    obtain ⟨ao5, cap5, rfl⟩ := hz5.form
    have HZ5 := hid hz5
    clear hb5 hz5 Y11 Y21 B1 HQ HR c0 c1 f0 f1 d0 d1 k0 k1
    go_wp2_with fail
    refine (ref_make' false _ HR5.out (by first | (have := HL3.out; omega) | (have := HL2.out; omega) | decide) _ rfl).mono ?_
    rintro e w6 ⟨v6, rfl, hz6, hb6⟩
    have hz6' := hz6
    rw [if_neg (by decide), hdz.2] at hz6'
    have B6 := hid (B5.out.trans (hb6.mono B5.out.size))
    have Y16 := hid (Y15.out.below hb6); have Y26 := hid (Y25.out.below hb6); have HZ56 := hid (HZ5.out.below hb6)
    obtain ⟨ao6, cap6, rfl⟩ := hz6'.form
    obtain ⟨w7, hw7, z7, y7, b7, m0, m1, m2, m3⟩ := store_end2 B6.out HG.out.1 HG.out.2.1 HG.out.2.2 Y16.out Y26.out HZ56.out hz6'
    obtain ⟨c0, c1, f0, f1⟩ := Y16.out.cells
    obtain ⟨d0, d1, k0, k1⟩ := Y26.out.cells
    have i0 := (Y16.out.other HG.out.2.2 (.bool true) (.bool true))
    have x26 := (Y26.out.other (Ne.symm HG.out.2.2) (.bool (zneg (zval true l / zval k m))) (.slice ao5 (zlim (zval true l / zval k m)).length cap5)).cells
    obtain ⟨q0, q1, q2, q3⟩ := x26
    have hlt := Y16.out.lt
    have hlt2 := Y26.out.lt
    have HZ7 := hid z7; have HY7 := hid y7; have HB7 := hid b7; have HW7 := hid hw7.symm
    have HNE := HG.out.2.2
    clear hb6 hz6 hz6' HZ5 HR5 Y15 Y25 B5 z7 y7 b7 hw7 HD hdz i0
    generalize zneg (zval true l / zval k m) = nb1 at *
    generalize zlim (zval true l / zval k m) = lb1 at *
    generalize zneg (zval true l % zval k m) = nb2 at *
    generalize zlim (zval true l % zval k m) = lb2 at *
    go_wp2
    rw [HW7.out]
    exact bodyPost_ret (v := .tuple #[.agg #[.bool nb1, .slice ao5 lb1.length cap5], .agg #[.bool nb2, .slice ao6 lb2.length cap6], .bool true]) (by simp [results, Tryd.results41, go_sem, m0, m1, m2, m3]) rfl ⟨_, _, rfl, HZ7.out, HY7.out, HB7.out⟩
end Go.Proofs.YtfjanomjmlcgaaaDoor
