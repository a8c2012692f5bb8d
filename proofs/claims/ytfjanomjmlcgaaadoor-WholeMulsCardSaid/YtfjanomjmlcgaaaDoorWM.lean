/- primroselaw02.WholeMuls answers true for every two whole numbers that may be in memory: products, quotients, rests and the greatest common divisor are the document's (of the first 20 limbs of each). No condition beyond the row's own (the listed tables of the library are as its text lays them). -/
import Derived.Test.YtfjanomjmlcgaaaDoorM2
import Derived.Deep.RegionHeld3
set_option linter.unusedVariables false
set_option linter.unusedSimpArgs false
namespace Go.Proofs.YtfjanomjmlcgaaaDoor.wholeMuls
open Go.ChangeShapes Go.WideShapes Go.ChangeAt Go.RowKit

/-- Both quotients and rests, by 0 too. -/
def zq (n k : Bool) (l m : List Nat) : Int := if val m = 0 then 0 else zval n l / zval k m
def zr (n k : Bool) (l m : List Nat) : Int := if val m = 0 then 0 else zval n l % zval k m
def zok (m : List Nat) : Bool := if val m = 0 then false else true
def IsQuot (w : World) (n k : Bool) (l m : List Nat) (e : Ending) (w' : World) : Prop := ∃ a ca b cb, e = .returned (.tuple #[.agg #[.bool (zneg (zq n k l m)), .slice a (zlim (zq n k l m)).length ca], .agg #[.bool (zneg (zr n k l m)), .slice b (zlim (zr n k l m)).length cb], .bool (zok m)]) ∧ SeesZ w' (.agg #[.bool (zneg (zq n k l m)), .slice a (zlim (zq n k l m)).length ca]) (zneg (zq n k l m)) (zlim (zq n k l m)) ∧ SeesZ w' (.agg #[.bool (zneg (zr n k l m)), .slice b (zlim (zr n k l m)).length cb]) (zneg (zr n k l m)) (zlim (zr n k l m)) ∧ Below w.heap.size w w'
theorem isQuot_pos {w w' : World} {n k : Bool} {l m : List Nat} {e : Ending} (h0 : 0 < val m) (h : ∃ q r, e = .returned (.tuple #[q, r, .bool true]) ∧ IsZ w' q (zval n l / zval k m) ∧ IsZ w' r (zval n l % zval k m) ∧ Below w.heap.size w w') : IsQuot w n k l m e w' := by
  obtain ⟨q, r, rfl, hq, hr, hb⟩ := h
  obtain ⟨a, ca, rfl⟩ := hq.form
  obtain ⟨b, cb, rfl⟩ := hr.form
  have e1 : zq n k l m = zval n l / zval k m := by unfold zq; rw [if_neg (by omega)]
  have e2 : zr n k l m = zval n l % zval k m := by unfold zr; rw [if_neg (by omega)]
  have e3 : zok m = true := by unfold zok; rw [if_neg (by omega)]
  unfold IsQuot
  rw [e1, e2, e3]
  exact ⟨a, ca, b, cb, rfl, hq, hr, hb⟩
theorem isQuot_zero {w w' : World} {n k : Bool} {l m : List Nat} {e : Ending} (h0 : val m = 0) (h : ∃ q r, e = .returned (.tuple #[q, r, .bool false]) ∧ SeesZ w' q false [] ∧ SeesZ w' r false [] ∧ Below w.heap.size w w') : IsQuot w n k l m e w' := by
  obtain ⟨q, r, rfl, hq, hr, hb⟩ := h
  obtain ⟨a, ca, rfl⟩ := hq.form
  obtain ⟨b, cb, rfl⟩ := hr.form
  have e1 : zq n k l m = 0 := by unfold zq; rw [if_pos h0]
  have e2 : zr n k l m = 0 := by unfold zr; rw [if_pos h0]
  have e3 : zok m = false := by unfold zok; rw [if_pos h0]
  unfold IsQuot
  rw [e1, e2, e3]
  exact ⟨a, ca, b, cb, rfl, hq, hr, hb⟩
theorem whole_div_any {a b : Value} {n k : Bool} {l m : List Nat} {w : World} (ha : SeesZ w a n l) (hb : SeesZ w b k m) (hl : l.length ≤ 100000) (hm : m.length ≤ 100000) :
    Calls Tryd.prog 40 #[a, b] w fun e w' => IsQuot w n k l m e w' := by
  rcases Nat.eq_zero_or_pos (val m) with h | h
  · exact (whole_div0 ha hb h).mono fun _ _ => isQuot_zero h
  · exact (whole_div ha hb (by omega) (by omega) h).mono fun _ _ => isQuot_pos h
theorem ref_div_any {a b : Value} {n k : Bool} {l m : List Nat} {w : World} (ha : SeesZ w a n l) (hb : SeesZ w b k m) (hl : l.length ≤ 100000) (hm : m.length ≤ 100000) :
    Calls Tryd.prog 41 #[a, b] w fun e w' => IsQuot w n k l m e w' := by
  rcases Nat.eq_zero_or_pos (val m) with h | h
  · exact (ref_divZ0 ha hb (by omega) (by omega) h).mono fun _ _ => isQuot_zero h
  · exact (ref_divZ ha hb hl hm h).mono fun _ _ => isQuot_pos h

set_option maxRecDepth 100000 in
set_option maxHeartbeats 8000000 in
theorem walk {va vb : Value} {na nb : Bool} {la lb : List Nat} {w : World} (ha : SeesZ w va na la) (hla : la.length ≤ 35184372087808) (hb : SeesZ w vb nb lb) (hlb : lb.length ≤ 35184372087808) :
    Calls Tryd.prog 9 #[va, vb] w fun e w' => e = .returned (.bool true) ∧ Below w.heap.size w w' := by
  obtain ⟨ma, rfl, hma⟩ := ha
  obtain ⟨mb, rfl, hmb⟩ := hb
  have HMA := hid hma; have HMB := hid hmb
  obtain ⟨ao, ca, rfl, -, -, -, -, -⟩ := hma
  obtain ⟨bo, cb, rfl, -, -, -, -, -⟩ := hmb
  obtain ⟨y, gA, gB, hy, b, e1, e2, xA, xB⟩ := two_boxes w (.bool na) (.slice ao la.length ca) (.bool nb) (.slice bo lb.length cb) 34
  have HY := hid hy.symm; have E1 := hid e1.symm; have E2 := hid e2.symm
  have NE : Hid (gA ≠ gB) := hid (by omega)
  have GA : Hid (w.heap.size ≤ gA ∧ w.heap.size ≤ gB) := hid (by omega)
  have XA := hid xA; have XB := hid xB
  have HBel := hid b
  have HA : Hid (SeesZ y (.agg #[.bool na, .slice ao la.length ca]) na la) := hid ⟨_, rfl, HMA.out.below b⟩
  have HB : Hid (SeesZ y (.agg #[.bool nb, .slice bo lb.length cb]) nb lb) := hid ⟨_, rfl, HMB.out.below b⟩
  have hkA : (la.take 20).length ≤ 20 := by simp; omega
  have hkB : (lb.take 20).length ≤ 20 := by simp; omega
  obtain ⟨pA, hpA⟩ : ∃ p, la.take 20 = p := ⟨_, rfl⟩
  obtain ⟨pB, hpB⟩ : ∃ p, lb.take 20 = p := ⟨_, rfl⟩
  rw [hpA] at hkA; rw [hpB] at hkB
  have HPA := hid hpA; have HPB := hid hpB
  clear hpA hpB hy e1 e2 xA xB b HMA HMB
  go_enter Tryd.func9, Tryd.ntmps9
  go_wp2
  try rw [HY.out]
  try rw [E2.out]
  try rw [E1.out]
  clear HY E1 E2
  obtain ⟨a0, a1, a2, a3⟩ := XA.out.cells
  obtain ⟨b0, b1, b2, b3⟩ := XB.out.cells
  go_region_with (first
    | (go_at_call 39
       refine (law_shortZ 20 (by exact HA.out) (by decide)).mono ?_
       rintro e wx ⟨⟨sA, rfl, hs⟩, hb⟩
       have HBn : Hid (Below w.heap.size w wx) := (by first | exact Below.trans HBel.out (Below.mono hb HBel.out.size) | exact Below.trans HBel.out.drew (Below.mono hb HBel.out.drew.size))
       clear HBel a0 a1 a2 a3 b0 b1 b2 b3; have HBel := HBn; clear HBn
       replace HB := hid (SeesZ.below (by exact HB.out) hb); replace HA := hid (SeesZ.below (by exact HA.out) hb)
       replace XA := hid (Box.below (by exact XA.out) hb); replace XB := hid (Box.below (by exact XB.out) hb)
       obtain ⟨a0, a1, a2, a3⟩ := XA.out.cells
       obtain ⟨b0, b1, b2, b3⟩ := XB.out.cells
       try replace HSB := hid (SeesZ.below (by exact HSB.out) hb)
       rw [HPA.out] at hs
       obtain ⟨bA, dA, rfl⟩ := hs.form
       have HSA := hid hs; clear hs hb
       try (obtain ⟨z0, z1, z2, z3⟩ := (XB.out.other (Ne.symm NE.out) (.bool na) (.slice bA pA.length dA)).cells; have hltA := XA.out.lt; have hltB := XB.out.lt; have HNEQ := NE.out; have HSX := HSB))
    | (go_at_call 39
       refine (law_shortZ 20 (by exact HB.out) (by decide)).mono ?_
       rintro e wx ⟨⟨sB, rfl, hs⟩, hb⟩
       have HBn : Hid (Below w.heap.size w wx) := (by first | exact Below.trans HBel.out (Below.mono hb HBel.out.size) | exact Below.trans HBel.out.drew (Below.mono hb HBel.out.drew.size))
       clear HBel a0 a1 a2 a3 b0 b1 b2 b3; have HBel := HBn; clear HBn
       replace HB := hid (SeesZ.below (by exact HB.out) hb); replace HA := hid (SeesZ.below (by exact HA.out) hb)
       replace XA := hid (Box.below (by exact XA.out) hb); replace XB := hid (Box.below (by exact XB.out) hb)
       obtain ⟨a0, a1, a2, a3⟩ := XA.out.cells
       obtain ⟨b0, b1, b2, b3⟩ := XB.out.cells
       try replace HSA := hid (SeesZ.below (by exact HSA.out) hb)
       rw [HPB.out] at hs
       obtain ⟨bB, dB, rfl⟩ := hs.form
       have HSB := hid hs; clear hs hb
       try (obtain ⟨z0, z1, z2, z3⟩ := (XB.out.other (Ne.symm NE.out) (.bool na) (.slice bA pA.length dA)).cells; have hltA := XA.out.lt; have hltB := XB.out.lt; have HNEQ := NE.out; have HSX := HSB)))
  all_goals
    obtain ⟨y2, hy2⟩ : ∃ x, x = (((wx.setCell ⟨gA, 0, none⟩ (.bool na)).setCell ⟨gA, 1, none⟩ (.slice bA pA.length dA)).setCell ⟨gB, 0, none⟩ (.bool nb)).setCell ⟨gB, 1, none⟩ (.slice bB pB.length dB) := ⟨_, rfl⟩
    have F : Hid (SeesZ y2 (.agg #[.bool na, .slice bA pA.length dA]) na pA ∧ SeesZ y2 (.agg #[.bool nb, .slice bB pB.length dB]) nb pB ∧ Box y2 gA (.bool na) (.slice bA pA.length dA) ∧ Box y2 gB (.bool nb) (.slice bB pB.length dB) ∧ Below w.heap.size w y2) := by
      have xa := XA.out.set (.bool na) (.slice bA pA.length dA)
      have xb := XB.out.other (Ne.symm NE.out) (.bool na) (.slice bA pA.length dA)
      have b1 := below_box HBel.out GA.out.1 HBel.out.size (.bool na) (.slice bA pA.length dA)
      rw [hy2]
      exact ⟨(HSA.out.box XA.out _ _).box xb _ _, (HSB.out.box XA.out _ _).box xb _ _, xa.other NE.out _ _, xb.set _ _, below_box b1 GA.out.2 b1.size _ _⟩
    rw [← hy2]
    clear HSA HSB HSX z0 z1 z2 z3 hy2 hltA hltB
    have HA2 := hid F.out.1; have HB2 := hid F.out.2.1; have XA2 := hid F.out.2.2.1; have XB2 := hid F.out.2.2.2.1; have HBel2 := hid F.out.2.2.2.2
    clear F HA HB XA XB HBel a0 a1 a2 a3 b0 b1 b2 b3
    obtain ⟨a0, a1, -, -⟩ := XA2.out.cells
    obtain ⟨b0, b1, -, -⟩ := XB2.out.cells
    have HD1 := hid (whole_div_any HA2.out HB2.out (by omega) (by omega))
    have HD2 := hid (fun w' (h : Below y2.heap.size y2 w') => ref_div_any (HA2.out.below h) (HB2.out.below h) (by omega) (by omega))
    simp only [IsQuot] at HD1 HD2
    generalize zneg (zq na nb pA pB) = nq at *
    generalize zlim (zq na nb pA pB) = lq at *
    generalize zneg (zr na nb pA pB) = nr at *
    generalize zlim (zr na nb pA pB) = lr at *
    generalize zok pB = okb at *
    go_wp2_with fail
    refine HD1.out.mono ?_
    rintro e w1 ⟨qa, qc, ra, rc, rfl, hq, hr, hb⟩
    clear HD1
    obtain ⟨y3, gQ, gR, hy3, bb3, e1, e2, xQ, xR⟩ := two_boxes w1 (.bool nq) (.slice qa lq.length qc) (.bool nr) (.slice ra lr.length rc) 34
    have HY3 := hid hy3.symm; have E1 := hid e1.symm; have E2 := hid e2.symm
    have BB := hid (step_below hb bb3)
    have HBel3 := hid (step_below HBel2.out BB.out)
    have XQ := hid xQ; have XR := hid xR; have HQ := hid (hq.below bb3); have HR := hid (hr.below bb3)
    obtain ⟨c0, c1, -, -⟩ := (XA2.out.below hb).cells
    obtain ⟨d0, d1, -, -⟩ := (XB2.out.below hb).cells
    have hltA := (XA2.out.below hb).lt; have hltB := (XB2.out.below hb).lt
    have HA3 := hid (HA2.out.below BB.out); have HB3 := hid (HB2.out.below BB.out); have XA3 := hid (XA2.out.below BB.out); have XB3 := hid (XB2.out.below BB.out)
    clear hq hr hb hy3 bb3 e1 e2 xQ xR a0 a1 b0 b1 HBel2
    go_wp2_with fail
    rw [HY3.out, E2.out, E1.out]
    clear HY3 E1 E2 c0 c1 d0 d1 hltA hltB
    refine (HD2.out _ BB.out).mono ?_
    rintro e w4 ⟨sa, sc, ta, tc, rfl, hs, ht, hb⟩
    clear HD2 HA2 HB2 XA2 XB2 BB
    obtain ⟨y5, gS, gT, hy5, bb5, e1, e2, xS, xT⟩ := two_boxes w4 (.bool nq) (.slice sa lq.length sc) (.bool nr) (.slice ta lr.length tc) 34
    have HY5 := hid hy5.symm; have E1 := hid e1.symm; have E2 := hid e2.symm
    have BB := hid (step_below hb bb5)
    have HBel5 := hid (step_below HBel3.out BB.out)
    have XS := hid xS; have XT := hid xT; have HS := hid (hs.below bb5); have HT := hid (ht.below bb5)
    have HA5 := hid (HA3.out.below BB.out); have HB5 := hid (HB3.out.below BB.out); have XA5 := hid (XA3.out.below BB.out); have XB5 := hid (XB3.out.below BB.out)
    have HQ5 := hid (HQ.out.below BB.out); have HR5 := hid (HR.out.below BB.out); have XQ5 := hid (XQ.out.below BB.out); have XR5 := hid (XR.out.below BB.out)
    clear hs ht hb hy5 bb5 e1 e2 xS xT HBel3 HA3 HB3 XA3 XB3 HQ HR XQ XR BB
    go_wp2
    rw [HY5.out, E2.out, E1.out]
    clear HY5 E1 E2
    obtain ⟨a0, a1, -, -⟩ := XA5.out.cells
    obtain ⟨b0, b1, -, -⟩ := XB5.out.cells
    obtain ⟨q0, q1, -, -⟩ := XQ5.out.cells
    obtain ⟨r0, r1, -, -⟩ := XR5.out.cells
    obtain ⟨s0, s1, -, -⟩ := XS.out.cells
    obtain ⟨t0, t1, -, -⟩ := XT.out.cells
    have HD := hid ((Below.refl y5.heap.size y5).drew)
    first | go_region_held3 (fun w' => w'.cell? ⟨gA, 0, none⟩ = some (.bool na) ∧ w'.cell? ⟨gA, 1, none⟩ = some (.slice bA pA.length dA) ∧ w'.cell? ⟨gB, 0, none⟩ = some (.bool nb) ∧ w'.cell? ⟨gB, 1, none⟩ = some (.slice bB pB.length dB) ∧ w'.cell? ⟨gQ, 0, none⟩ = some (.bool nq) ∧ w'.cell? ⟨gQ, 1, none⟩ = some (.slice qa lq.length qc) ∧ w'.cell? ⟨gR, 0, none⟩ = some (.bool nr) ∧ w'.cell? ⟨gR, 1, none⟩ = some (.slice ra lr.length rc) ∧ w'.cell? ⟨gS, 0, none⟩ = some (.bool nq) ∧ w'.cell? ⟨gS, 1, none⟩ = some (.slice sa lq.length sc) ∧ w'.cell? ⟨gT, 0, none⟩ = some (.bool nr) ∧ w'.cell? ⟨gT, 1, none⟩ = some (.slice ta lr.length tc) ∧ Hid (Below y5.heap.size y5 w')) (exact ⟨by assumption, by assumption, by assumption, by assumption, by assumption, by assumption, by assumption, by assumption, by assumption, by assumption, by assumption, by assumption, by assumption⟩) (first
      | (go_at_call 25
         refine (awakeZ_any _).mono ?_
         rintro e wx ⟨rfl, hb⟩
         have hbn := hid (step_below (w := y5) (Hid.out (by assumption)) hb)
         obtain ⟨xa0, xa1, -, -⟩ := (XA5.out.below hbn.out).cells
         obtain ⟨xb0, xb1, -, -⟩ := (XB5.out.below hbn.out).cells
         obtain ⟨xq0, xq1, -, -⟩ := (XQ5.out.below hbn.out).cells
         obtain ⟨xr0, xr1, -, -⟩ := (XR5.out.below hbn.out).cells
         obtain ⟨xs0, xs1, -, -⟩ := (XS.out.below hbn.out).cells
         obtain ⟨xt0, xt1, -, -⟩ := (XT.out.below hbn.out).cells
         clear hb)
      | (go_at_call 42
         refine (whole_mul (by exact SeesZ.below HA5.out (Hid.out (by assumption))) (by exact SeesZ.below HB5.out (Hid.out (by assumption))) (by omega) (by omega)).mono ?_
         rintro e wx ⟨v1, rfl, hz, hb⟩
         have hbn := hid (step_below (w := y5) (Hid.out (by assumption)) hb)
         obtain ⟨xa0, xa1, -, -⟩ := (XA5.out.below hbn.out).cells
         obtain ⟨xb0, xb1, -, -⟩ := (XB5.out.below hbn.out).cells
         obtain ⟨xq0, xq1, -, -⟩ := (XQ5.out.below hbn.out).cells
         obtain ⟨xr0, xr1, -, -⟩ := (XR5.out.below hbn.out).cells
         obtain ⟨xs0, xs1, -, -⟩ := (XS.out.below hbn.out).cells
         obtain ⟨xt0, xt1, -, -⟩ := (XT.out.below hbn.out).cells
         have HM1 := hid hz
         clear hz
         clear hb)
      | (go_at_call 43
         refine (ref_mulZ (by exact SeesZ.below HA5.out (Hid.out (by assumption))) (by exact SeesZ.below HB5.out (Hid.out (by assumption))) (by omega) (by omega)).mono ?_
         rintro e wx ⟨v2, rfl, hz, hb⟩
         have hbn := hid (step_below (w := y5) (Hid.out (by assumption)) hb)
         obtain ⟨xa0, xa1, -, -⟩ := (XA5.out.below hbn.out).cells
         obtain ⟨xb0, xb1, -, -⟩ := (XB5.out.below hbn.out).cells
         obtain ⟨xq0, xq1, -, -⟩ := (XQ5.out.below hbn.out).cells
         obtain ⟨xr0, xr1, -, -⟩ := (XR5.out.below hbn.out).cells
         obtain ⟨xs0, xs1, -, -⟩ := (XS.out.below hbn.out).cells
         obtain ⟨xt0, xt1, -, -⟩ := (XT.out.below hbn.out).cells
         have HM2 := hid hz
         replace HM1 := hid (IsZ.below HM1.out hb)
         clear hz
         clear hb)
      | (go_at_call 44
         refine (whole_gcd (by exact SeesZ.below HA5.out (Hid.out (by assumption))) (by exact SeesZ.below HB5.out (Hid.out (by assumption))) (by omega) (by omega)).mono ?_
         rintro e wx ⟨v3, rfl, hz, hb⟩
         have hbn := hid (step_below (w := y5) (Hid.out (by assumption)) hb)
         obtain ⟨xa0, xa1, -, -⟩ := (XA5.out.below hbn.out).cells
         obtain ⟨xb0, xb1, -, -⟩ := (XB5.out.below hbn.out).cells
         obtain ⟨xq0, xq1, -, -⟩ := (XQ5.out.below hbn.out).cells
         obtain ⟨xr0, xr1, -, -⟩ := (XR5.out.below hbn.out).cells
         obtain ⟨xs0, xs1, -, -⟩ := (XS.out.below hbn.out).cells
         obtain ⟨xt0, xt1, -, -⟩ := (XT.out.below hbn.out).cells
         have HG1 := hid hz
         clear hz
         clear hb)
      | (go_at_call 45
         refine (ref_gcdZ (by exact SeesZ.below HA5.out (Hid.out (by assumption))) (by exact SeesZ.below HB5.out (Hid.out (by assumption))) (by omega) (by omega)).mono ?_
         rintro e wx ⟨v4, rfl, hz, hb⟩
         have hbn := hid (step_below (w := y5) (Hid.out (by assumption)) hb)
         obtain ⟨xa0, xa1, -, -⟩ := (XA5.out.below hbn.out).cells
         obtain ⟨xb0, xb1, -, -⟩ := (XB5.out.below hbn.out).cells
         obtain ⟨xq0, xq1, -, -⟩ := (XQ5.out.below hbn.out).cells
         obtain ⟨xr0, xr1, -, -⟩ := (XR5.out.below hbn.out).cells
         obtain ⟨xs0, xs1, -, -⟩ := (XS.out.below hbn.out).cells
         obtain ⟨xt0, xt1, -, -⟩ := (XT.out.below hbn.out).cells
         have HG2 := hid hz
         replace HG1 := hid (IsZ.below HG1.out hb)
         clear hz
         clear hb)
      | (go_at_call 26
         refine (law_sameZ (by first | exact IsZ.sees HG1.out | exact IsZ.sees HM1.out | exact SeesZ.below HQ5.out (Hid.out (by assumption)) | exact SeesZ.below HR5.out (Hid.out (by assumption))) (by first | exact IsZ.sees HG2.out | exact IsZ.sees HM2.out | exact SeesZ.below HS.out (Hid.out (by assumption)) | exact SeesZ.below HT.out (Hid.out (by assumption)))).mono ?_
         rintro e wx ⟨rfl, hb⟩
         have hbn := hid (step_below (w := y5) (Hid.out (by assumption)) hb)
         obtain ⟨xa0, xa1, -, -⟩ := (XA5.out.below hbn.out).cells
         obtain ⟨xb0, xb1, -, -⟩ := (XB5.out.below hbn.out).cells
         obtain ⟨xq0, xq1, -, -⟩ := (XQ5.out.below hbn.out).cells
         obtain ⟨xr0, xr1, -, -⟩ := (XR5.out.below hbn.out).cells
         obtain ⟨xs0, xs1, -, -⟩ := (XS.out.below hbn.out).cells
         obtain ⟨xt0, xt1, -, -⟩ := (XT.out.below hbn.out).cells
         clear hb)) | fail
    rename_i hHd
    have HBL := hid (step_below HBel5.out (Hid.out hHd.2.2.2.2.2.2.2.2.2.2.2.2))
    clear hHd
    go_wp2
    go_ret
    exact ⟨by simp, HBL.out⟩

/-! ### The row's step and the card -/
set_option maxRecDepth 100000 in
theorem contract (H : Type) (enc : TypeId × Value → H) (W : World) (base : Nat) (args : Array Value) (ds gs : List (DataW H)) (before : List MemPlace)
    (hval0 : ∀ (j : Nat) t v, Tryd.f9.params[j]? = some t → args[j]? = some v → Value.okWide Tryd.prog W .any base t v)
    (hW : DataW.Whole enc Tryd.prog Tryd.f9.params.toList Rows.wholeMulsSpec.vars false W args.toList ds gs before)
    (hsz0 : (DataW.weightsEach Tryd.prog (Tryd.f9.params.toList ++ Rows.wholeMulsSpec.plain.varTypes Tryd.prog) (ds ++ gs)).all (· ≤ reachBytes) = true) :
    Calls Tryd.prog 9 args W fun e W' => ∃ v, e = .returned v ∧ Rows.wholeMulsSpec.post enc Tryd.prog Tryd.f9 false true false false W args v W' := by
  have hW' := hW
  obtain ⟨p, q, hA0, hV, rfl, hfz, hnd⟩ := hW
  have hA : DataW.TrodAll enc Tryd.prog W 0 (fun _ => true) true Tryd.f9.params.toList args.toList ds p := hA0
  have hval : ∀ (j : Nat) t v, Tryd.f9.params[j]? = some t → args[j]? = some v → Value.okWide Tryd.prog W .any base t v := hval0
  have hsz : (DataW.weightsEach Tryd.prog (Tryd.f9.params.toList ++ []) (ds ++ gs)).all (· ≤ reachBytes) = true := hsz0
  rw [Tryd.params9] at hA hval hsz
  obtain ⟨v0, vs0, d0, ds0, p0, q0, hargs, rfl, rfl, h0, r0⟩ := trodAll_cons hA
  obtain ⟨v1, vs1, d1, ds1, p1, q1, rfl, rfl, rfl, h1, r1⟩ := trodAll_cons r0
  obtain ⟨rfl, rfl, rfl⟩ := trodAll_nil r1
  obtain rfl : args = #[v0, v1] := by cases args; simp_all
  obtain ⟨rfl, rfl⟩ := trodVars_none hV
  obtain ⟨g0, l0, s0, b0⟩ := open_z (hval 0 34 v0 rfl rfl) h0 (fun parts e => by subst e; exact sized_part hsz (j := 0) (t := 34) rfl rfl)
  obtain ⟨g1, l1, s1, b1⟩ := open_z (hval 1 34 v1 rfl rfl) h1 (fun parts e => by subst e; exact sized_part hsz (j := 1) (t := 34) rfl rfl)
  refine (walk s0 b0 s1 b1).mono fun e W' ⟨he, hb⟩ => ?_
  subst he
  exact ⟨_, rfl, _, _, _, _, _, _, hW', trodAll_cons_mk (shut_bool Tryd.underlying4 _) trodAll_mk0, trodAll_cons_mk (Below.trod laidOut (by kernel_rfl) (of_decide_eq_true (by kernel_rfl)) h0 hb (fun x hx => by first | cases hx; done | (have := hW'.lt x (by simp [hx]); simpa using this))) (trodAll_cons_mk (Below.trod laidOut (by kernel_rfl) (of_decide_eq_true (by kernel_rfl)) h1 hb (fun x hx => by first | cases hx; done | (have := hW'.lt x (by simp [hx]); simpa using this))) (trodAll_mk0)), rfl, hb.frame _, fun h => by cases h⟩

set_option maxRecDepth 100000 in
theorem lifted (os : Os) (started : os.Started) (H : Type) (enc : TypeId × Value → H) :
    ReturnsInHanded {} Tryd.checked os 9 .any (fun w args => (Rows.wholeMulsSpec.pre enc Tryd.prog Tryd.f9 [] false w args ∧ laidMetH Tryd.prog laidList w) ∧ sizedMet enc Tryd.prog Tryd.f9 (OpenSpec.ofChange Rows.wholeMulsSpec) false w args)
      (Rows.wholeMulsSpec.post enc Tryd.prog Tryd.f9 false true false false) := by
  refine returnsInHanded_of_change_and (C := Tryd.checked) (X := fun w _ => laidMetH Tryd.prog laidList w) (fun _ _ _ hh h => h.of_heap hh) own started (by kernel_rfl) Tryd.func9
    (ChangeSpec.witness_shaped (enc := enc) (C := Tryd.checked) (os := os) (X := fun w _ => laidMetH Tryd.prog laidList w) false (World.laidAll Tryd.prog os laidList) #[.agg #[.bool false, .slice none 0 0], .agg #[.bool false, .slice none 0 0]] 8 (World.laidAll_os _ _ _)
      (World.shaped_of_ZipB (by kernel_rfl) (by kernel_rfl)) (by kernel_rfl) (by kernel_rfl) (by kernel_rfl) (laid_met os _)) ?_
  intro W base args ds gs before hval0 hW _ hsz _ _
  exact contract H enc W base args ds gs before hval0 hW hsz

theorem said : Rows.WholeMulsSaid :=
  OpenClaim.holds_of_wide 9 Tryd.f9 rfl rfl rfl rfl rfl rfl rfl ⟨rfl, rfl, rfl, rfl, rfl⟩ rfl rfl rfl rfl rfl (by kernel_rfl) Tryd.func9 (by kernel_rfl)
    (of_decide_eq_true (by kernel_rfl)) (by unfold Func.isWrapper; first | (rw [if_pos (by decide +kernel)]; kernel_rfl) | (rw [if_neg (by decide +kernel)]; exact ⟨rfl, rfl⟩))
    (fun os started H enc _ => lifted os started H enc)

theorem plain (f : FuncId) (fn : Func) (hf : Tryd.pinned.checked.prog.funcNamed "primrose/primroselaw02.WholeMuls" = some f) (hfn : Tryd.pinned.checked.prog.funcs[f]? = some fn) :
    false = Tryd.pinned.checked.prog.looks [] ∧ ∀ (j : Nat) t, fn.params[j]? = some t → Tryd.pinned.checked.prog.wantsStandIn t = false := by
  obtain rfl : f = 9 := Option.some.inj ((show Tryd.prog.funcNamed "primrose/primroselaw02.WholeMuls" = some 9 by kernel_rfl).symm.trans hf) |>.symm
  obtain rfl : fn = Tryd.f9 := (Option.some.inj (Tryd.func9.symm.trans hfn)).symm
  refine ⟨by kernel_rfl, fun j t ht => ?_⟩
  rw [Tryd.params9] at ht
  have hm : t ∈ [34, 34] := by simpa using Array.mem_of_getElem? ht
  have hall : ([34, 34].all fun u => !Tryd.prog.wantsStandIn u) = true := by kernel_rfl
  exact (show Tryd.prog.wantsStandIn t = false by simpa using List.all_eq_true.1 hall t hm)

/-- THE CARD. -/
theorem card : Rows.WholeMulsCardSaid :=
  Claim7.holds_tied_plain_at .later [] _ _ _ _ said (fun _ h => by cases h) (by kernel_rfl) (fun _ h => by cases h) wholeMuls_row_tie rfl ⟨rfl, rfl⟩ (by kernel_rfl) rfl plain (by kernel_rfl)
end Go.Proofs.YtfjanomjmlcgaaaDoor.wholeMuls
