/- whole.Mul, whole.Gcd, the document's Mul and Gcd of layer 2. whole.Mul, the document's Mul of layer 2. The document's Div of layer 2; whole.Div by 0. -/
import Derived.Test.YtcogldhjkjiodaaKG
import Derived.Test.YtcogldhjkjiodaaKF
import Derived.Test.YtcogldhjkjiodaaKI
import Derived.Test.YtcogldhjkjiodaaKJ
import Derived.Deep.RegionHeld3
import Derived.Test.YtcogldhjkjiodaaKL
set_option linter.unusedVariables false
set_option linter.unusedSimpArgs false
namespace Go.Proofs.Ytcogldhjkjiodaa
open Go.RowKit

theorem zmul (n k : Bool) (l m : List Nat) : zval n l * zval k m = if (n != k) then -((val l * val m : Nat) : Int) else ((val l * val m : Nat) : Int) := by
  cases n <;> cases k <;> simp [zval, Int.natCast_mul, Int.neg_mul, Int.mul_neg]
theorem zgcd (n k : Bool) (l m : List Nat) : ((Nat.gcd (zval n l).natAbs (zval k m).natAbs : Nat) : Int) = ((Nat.gcd (val l) (val m) : Nat) : Int) := by
  rw [zval_abs, zval_abs]

theorem gcd_len {l m : List Nat} (hl : l.length ≤ 100000) (hm : m.length ≤ 100000) (h1 : Ok l) (h2 : Ok m) : (limbs (Nat.gcd (val l) (val m))).length ≤ 35184372088832 := by
  rcases Nat.eq_zero_or_pos (val l) with h0 | h0
  · rw [h0, Nat.gcd_zero_left]; have := (limbs_prefix h2).2; omega
  · have h3 := limbs_length_mono (Nat.gcd_le_left (val m) h0)
    have := (limbs_prefix h1).2; omega

end Go.Proofs.Ytcogldhjkjiodaa

set_option linter.unusedVariables false
set_option linter.unusedSimpArgs false
namespace Go.Proofs.Ytcogldhjkjiodaa
open Go.RowKit

set_option maxRecDepth 100000 in
set_option maxHeartbeats 4000000 in
theorem ref_mulZ {va vb : Value} {n k : Bool} {la lb : List Nat} {w : World} (ha : SeesZ w va n la) (hb : SeesZ w vb k lb) (hla : la.length ≤ 17592186044000) (hlb : lb.length ≤ 17592186044000) :
    Calls Try.prog 13 #[va, vb] w fun e w' => IsInt w (zval n la * zval k lb) e w' := by
  obtain ⟨ma, rfl, hma⟩ := ha
  obtain ⟨mb, rfl, hmb⟩ := hb
  have HMA := hid hma; have HMB := hid hmb
  obtain ⟨ao, ca, rfl, -, -, -, -, -⟩ := hma
  obtain ⟨bo, cb, rfl, -, -, -, -, -⟩ := hmb
  obtain ⟨y, gA, gB, gR, hy, b, e1, e2, e3, xA, xB, xR⟩ := three_boxes w (.bool n) (.slice ao la.length ca) (.bool k) (.slice bo lb.length cb) (.bool false) (.slice none 0 0) 24
  have HY := hid hy.symm; have E1 := hid e1.symm; have E2 := hid e2.symm; have E3 := hid e3.symm
  have HXA := hid xA; have HXB := hid xB; have HXR := hid xR; have B0 := hid b; have HSA := hid (HMA.out.below b); have HSB := hid (HMB.out.below b)
  have HG : Hid (w.heap.size ≤ gR) := hid (by omega)
  have HNE : Hid (gA ≠ gR ∧ gB ≠ gR) := hid (by constructor <;> omega)
  clear hy e1 e2 e3 xA xB xR b HMA HMB
  have HLM : Hid ((limbs (val la * val lb)).length ≤ 35184372088832) := Nat.le_trans (mul_length HSA.out.ok HSB.out.ok 17592186044000 17592186044000 hla hlb) (by decide)
  have HZ := hid (zmul n k la lb)
  generalize zval n la * zval k lb = z at *
  go_enter Try.func13, Try.ntmps13
  cases n
  · cases k
    · go_wp2_with fail
      try rw [HY.out]
      try rw [E3.out]
      try rw [E2.out]
      try rw [E1.out]
      clear HY E1 E2 E3
      obtain ⟨a0, a1, a2, a3⟩ := HXA.out.cells
      obtain ⟨b0, b1, b2, b3⟩ := HXB.out.cells
      obtain ⟨q0, q1, q2, q3⟩ := HXR.out.cells
      have HD := hid ((Below.refl y.heap.size y).drew)
      go_region_held3 (fun w' => w'.cell? ⟨gA, 0, none⟩ = some (.bool false) ∧ w'.cell? ⟨gA, 1, none⟩ = some (.slice ao la.length ca) ∧ w'.cell? ⟨gB, 0, none⟩ = some (.bool false) ∧ w'.cell? ⟨gB, 1, none⟩ = some (.slice bo lb.length cb) ) (exact ⟨by assumption, by assumption, by assumption, by assumption⟩) (first
        | (go_at_call 36
           refine (ref_mul' (by exact HSA.out.below (Hid.out (by assumption))) (by exact HSB.out.below (Hid.out (by assumption))) (by omega) (by omega)).mono ?_
           rintro e w1 ⟨v1, rfl, hs1, hb1⟩
           have hbn := hid (step_below (w := y) (Hid.out (by assumption)) hb1)
           obtain ⟨xa0, xa1, -, -⟩ := (HXA.out.below hbn.out).cells
           obtain ⟨xb0, xb1, -, -⟩ := (HXB.out.below hbn.out).cells
           obtain ⟨xr0, xr1, xr2, xr3⟩ := (HXR.out.below hbn.out).cells
           have HS1 := hid hs1
           clear hs1 hb1)
        | (go_at_call 31
           refine (ref_make _ (by exact HS1.out) HLM.out z (by rw [val_limbs]; exact HZ.out)).mono ?_
           rintro e w2 ⟨v2, rfl, hz2, hb2⟩
           have hbn2 := hid (step_below (w := y) (Hid.out (by assumption)) hb2)
           obtain ⟨ya0, ya1, -, -⟩ := (HXA.out.below hbn2.out).cells
           obtain ⟨yb0, yb1, -, -⟩ := (HXB.out.below hbn2.out).cells
           have HXR2 := hid (HXR.out.below hbn2.out)
           have B2 := hid (B0.out.trans (hbn2.out.mono B0.out.size))
           have HZ2 := hid hz2
           obtain ⟨ao2, cap2, rfl⟩ := hz2.form
           obtain ⟨r0, r1, r2, r3⟩ := HXR2.out.cells
           obtain ⟨za0, za1, -, -⟩ := ((HXA.out.below hbn2.out).other HNE.out.1 (.bool (zneg z)) (.slice ao2 (zlim z).length cap2)).cells
           obtain ⟨zb0, zb1, -, -⟩ := ((HXB.out.below hbn2.out).other HNE.out.2 (.bool (zneg z)) (.slice ao2 (zlim z).length cap2)).cells
           have hlt := HXR2.out.lt
           clear hb2 hz2))
      have HR3 := hid (HXR2.out)
      obtain ⟨g1, g2, g3⟩ := store_end B2.out HG.out HR3.out HZ2.out
      obtain ⟨c0, c1, f0, f1⟩ := HR3.out.cells
      have hlt := HR3.out.lt
      have HG1 := hid g1
      clear HR3 HZ2 B2 HG HXR2 g1
      generalize zneg (z) = bb at *
      generalize zlim (z) = ll at *
      go_wp2
      exact bodyPost_ret (v := .agg #[.bool bb, .slice ao2 ll.length cap2]) (by simp [results, Try.results13, go_sem, g2, g3]) rfl HG1.out
    · go_wp2_with fail
      try rw [HY.out]
      try rw [E3.out]
      try rw [E2.out]
      try rw [E1.out]
      clear HY E1 E2 E3
      obtain ⟨a0, a1, a2, a3⟩ := HXA.out.cells
      obtain ⟨b0, b1, b2, b3⟩ := HXB.out.cells
      obtain ⟨q0, q1, q2, q3⟩ := HXR.out.cells
      have HD := hid ((Below.refl y.heap.size y).drew)
      go_region_held3 (fun w' => w'.cell? ⟨gA, 0, none⟩ = some (.bool false) ∧ w'.cell? ⟨gA, 1, none⟩ = some (.slice ao la.length ca) ∧ w'.cell? ⟨gB, 0, none⟩ = some (.bool true) ∧ w'.cell? ⟨gB, 1, none⟩ = some (.slice bo lb.length cb) ) (exact ⟨by assumption, by assumption, by assumption, by assumption⟩) (first
        | (go_at_call 36
           refine (ref_mul' (by exact HSA.out.below (Hid.out (by assumption))) (by exact HSB.out.below (Hid.out (by assumption))) (by omega) (by omega)).mono ?_
           rintro e w1 ⟨v1, rfl, hs1, hb1⟩
           have hbn := hid (step_below (w := y) (Hid.out (by assumption)) hb1)
           obtain ⟨xa0, xa1, -, -⟩ := (HXA.out.below hbn.out).cells
           obtain ⟨xb0, xb1, -, -⟩ := (HXB.out.below hbn.out).cells
           obtain ⟨xr0, xr1, xr2, xr3⟩ := (HXR.out.below hbn.out).cells
           have HS1 := hid hs1
           clear hs1 hb1)
        | (go_at_call 31
           refine (ref_make _ (by exact HS1.out) HLM.out z (by rw [val_limbs]; exact HZ.out)).mono ?_
           rintro e w2 ⟨v2, rfl, hz2, hb2⟩
           have hbn2 := hid (step_below (w := y) (Hid.out (by assumption)) hb2)
           obtain ⟨ya0, ya1, -, -⟩ := (HXA.out.below hbn2.out).cells
           obtain ⟨yb0, yb1, -, -⟩ := (HXB.out.below hbn2.out).cells
           have HXR2 := hid (HXR.out.below hbn2.out)
           have B2 := hid (B0.out.trans (hbn2.out.mono B0.out.size))
           have HZ2 := hid hz2
           obtain ⟨ao2, cap2, rfl⟩ := hz2.form
           obtain ⟨r0, r1, r2, r3⟩ := HXR2.out.cells
           obtain ⟨za0, za1, -, -⟩ := ((HXA.out.below hbn2.out).other HNE.out.1 (.bool (zneg z)) (.slice ao2 (zlim z).length cap2)).cells
           obtain ⟨zb0, zb1, -, -⟩ := ((HXB.out.below hbn2.out).other HNE.out.2 (.bool (zneg z)) (.slice ao2 (zlim z).length cap2)).cells
           have hlt := HXR2.out.lt
           clear hb2 hz2))
      have HR3 := hid (HXR2.out)
      obtain ⟨g1, g2, g3⟩ := store_end B2.out HG.out HR3.out HZ2.out
      obtain ⟨c0, c1, f0, f1⟩ := HR3.out.cells
      have hlt := HR3.out.lt
      have HG1 := hid g1
      clear HR3 HZ2 B2 HG HXR2 g1
      generalize zneg (z) = bb at *
      generalize zlim (z) = ll at *
      go_wp2
      exact bodyPost_ret (v := .agg #[.bool bb, .slice ao2 ll.length cap2]) (by simp [results, Try.results13, go_sem, g2, g3]) rfl HG1.out
  · cases k
    · go_wp2_with fail
      try rw [HY.out]
      try rw [E3.out]
      try rw [E2.out]
      try rw [E1.out]
      clear HY E1 E2 E3
      obtain ⟨a0, a1, a2, a3⟩ := HXA.out.cells
      obtain ⟨b0, b1, b2, b3⟩ := HXB.out.cells
      obtain ⟨q0, q1, q2, q3⟩ := HXR.out.cells
      have HD := hid ((Below.refl y.heap.size y).drew)
      go_region_held3 (fun w' => w'.cell? ⟨gA, 0, none⟩ = some (.bool true) ∧ w'.cell? ⟨gA, 1, none⟩ = some (.slice ao la.length ca) ∧ w'.cell? ⟨gB, 0, none⟩ = some (.bool false) ∧ w'.cell? ⟨gB, 1, none⟩ = some (.slice bo lb.length cb) ) (exact ⟨by assumption, by assumption, by assumption, by assumption⟩) (first
        | (go_at_call 36
           refine (ref_mul' (by exact HSA.out.below (Hid.out (by assumption))) (by exact HSB.out.below (Hid.out (by assumption))) (by omega) (by omega)).mono ?_
           rintro e w1 ⟨v1, rfl, hs1, hb1⟩
           have hbn := hid (step_below (w := y) (Hid.out (by assumption)) hb1)
           obtain ⟨xa0, xa1, -, -⟩ := (HXA.out.below hbn.out).cells
           obtain ⟨xb0, xb1, -, -⟩ := (HXB.out.below hbn.out).cells
           obtain ⟨xr0, xr1, xr2, xr3⟩ := (HXR.out.below hbn.out).cells
           have HS1 := hid hs1
           clear hs1 hb1)
        | (go_at_call 31
           refine (ref_make _ (by exact HS1.out) HLM.out z (by rw [val_limbs]; exact HZ.out)).mono ?_
           rintro e w2 ⟨v2, rfl, hz2, hb2⟩
           have hbn2 := hid (step_below (w := y) (Hid.out (by assumption)) hb2)
           obtain ⟨ya0, ya1, -, -⟩ := (HXA.out.below hbn2.out).cells
           obtain ⟨yb0, yb1, -, -⟩ := (HXB.out.below hbn2.out).cells
           have HXR2 := hid (HXR.out.below hbn2.out)
           have B2 := hid (B0.out.trans (hbn2.out.mono B0.out.size))
           have HZ2 := hid hz2
           obtain ⟨ao2, cap2, rfl⟩ := hz2.form
           obtain ⟨r0, r1, r2, r3⟩ := HXR2.out.cells
           obtain ⟨za0, za1, -, -⟩ := ((HXA.out.below hbn2.out).other HNE.out.1 (.bool (zneg z)) (.slice ao2 (zlim z).length cap2)).cells
           obtain ⟨zb0, zb1, -, -⟩ := ((HXB.out.below hbn2.out).other HNE.out.2 (.bool (zneg z)) (.slice ao2 (zlim z).length cap2)).cells
           have hlt := HXR2.out.lt
           clear hb2 hz2))
      have HR3 := hid (HXR2.out)
      obtain ⟨g1, g2, g3⟩ := store_end B2.out HG.out HR3.out HZ2.out
      obtain ⟨c0, c1, f0, f1⟩ := HR3.out.cells
      have hlt := HR3.out.lt
      have HG1 := hid g1
      clear HR3 HZ2 B2 HG HXR2 g1
      generalize zneg (z) = bb at *
      generalize zlim (z) = ll at *
      go_wp2
      exact bodyPost_ret (v := .agg #[.bool bb, .slice ao2 ll.length cap2]) (by simp [results, Try.results13, go_sem, g2, g3]) rfl HG1.out
    · go_wp2_with fail
      try rw [HY.out]
      try rw [E3.out]
      try rw [E2.out]
      try rw [E1.out]
      clear HY E1 E2 E3
      obtain ⟨a0, a1, a2, a3⟩ := HXA.out.cells
      obtain ⟨b0, b1, b2, b3⟩ := HXB.out.cells
      obtain ⟨q0, q1, q2, q3⟩ := HXR.out.cells
      have HD := hid ((Below.refl y.heap.size y).drew)
      go_region_held3 (fun w' => w'.cell? ⟨gA, 0, none⟩ = some (.bool true) ∧ w'.cell? ⟨gA, 1, none⟩ = some (.slice ao la.length ca) ∧ w'.cell? ⟨gB, 0, none⟩ = some (.bool true) ∧ w'.cell? ⟨gB, 1, none⟩ = some (.slice bo lb.length cb) ) (exact ⟨by assumption, by assumption, by assumption, by assumption⟩) (first
        | (go_at_call 36
           refine (ref_mul' (by exact HSA.out.below (Hid.out (by assumption))) (by exact HSB.out.below (Hid.out (by assumption))) (by omega) (by omega)).mono ?_
           rintro e w1 ⟨v1, rfl, hs1, hb1⟩
           have hbn := hid (step_below (w := y) (Hid.out (by assumption)) hb1)
           obtain ⟨xa0, xa1, -, -⟩ := (HXA.out.below hbn.out).cells
           obtain ⟨xb0, xb1, -, -⟩ := (HXB.out.below hbn.out).cells
           obtain ⟨xr0, xr1, xr2, xr3⟩ := (HXR.out.below hbn.out).cells
           have HS1 := hid hs1
           clear hs1 hb1)
        | (go_at_call 31
           refine (ref_make _ (by exact HS1.out) HLM.out z (by rw [val_limbs]; exact HZ.out)).mono ?_
           rintro e w2 ⟨v2, rfl, hz2, hb2⟩
           have hbn2 := hid (step_below (w := y) (Hid.out (by assumption)) hb2)
           obtain ⟨ya0, ya1, -, -⟩ := (HXA.out.below hbn2.out).cells
           obtain ⟨yb0, yb1, -, -⟩ := (HXB.out.below hbn2.out).cells
           have HXR2 := hid (HXR.out.below hbn2.out)
           have B2 := hid (B0.out.trans (hbn2.out.mono B0.out.size))
           have HZ2 := hid hz2
           obtain ⟨ao2, cap2, rfl⟩ := hz2.form
           obtain ⟨r0, r1, r2, r3⟩ := HXR2.out.cells
           obtain ⟨za0, za1, -, -⟩ := ((HXA.out.below hbn2.out).other HNE.out.1 (.bool (zneg z)) (.slice ao2 (zlim z).length cap2)).cells
           obtain ⟨zb0, zb1, -, -⟩ := ((HXB.out.below hbn2.out).other HNE.out.2 (.bool (zneg z)) (.slice ao2 (zlim z).length cap2)).cells
           have hlt := HXR2.out.lt
           clear hb2 hz2))
      have HR3 := hid (HXR2.out)
      obtain ⟨g1, g2, g3⟩ := store_end B2.out HG.out HR3.out HZ2.out
      obtain ⟨c0, c1, f0, f1⟩ := HR3.out.cells
      have hlt := HR3.out.lt
      have HG1 := hid g1
      clear HR3 HZ2 B2 HG HXR2 g1
      generalize zneg (z) = bb at *
      generalize zlim (z) = ll at *
      go_wp2
      exact bodyPost_ret (v := .agg #[.bool bb, .slice ao2 ll.length cap2]) (by simp [results, Try.results13, go_sem, g2, g3]) rfl HG1.out
end Go.Proofs.Ytcogldhjkjiodaa

set_option linter.unusedVariables false
set_option linter.unusedSimpArgs false
namespace Go.Proofs.Ytcogldhjkjiodaa
open Go.RowKit

theorem ref_make' (neg : Bool) (x : Nat) {m : Value} {w : World} (h : Sees w m (limbs x)) (hl : (limbs x).length ≤ 100001) (z : Int) (hz : z = if neg then -(x : Int) else (x : Int)) :
    Calls Try.prog 31 #[.bool neg, m] w fun e w' => IsInt w z e w' :=
  ref_make neg h (by omega) z (by rw [val_limbs]; exact hz)
theorem isZ_zero (w : World) : IsZ w (.agg #[.bool false, .slice none 0 0]) 0 := ⟨_, rfl, Sees.nil w⟩

set_option maxRecDepth 100000 in
set_option maxHeartbeats 4000000 in
theorem whole_div0 {a b : Value} {n k : Bool} {l m : List Nat} {w : World} (ha : SeesZ w a n l) (hb : SeesZ w b k m)  (h0 : val m = 0) :
    Calls Try.prog 43 #[a, b] w fun e w' => ∃ q r, e = .returned (.tuple #[q, r, .bool false]) ∧ SeesZ w' q false [] ∧ SeesZ w' r false [] ∧ Below w.heap.size w w' := by
  obtain ⟨va, rfl, ha⟩ := ha
  obtain ⟨vb, rfl, hb⟩ := hb
  have HA := hid ha; have HB := hid hb
  obtain ⟨aa, ca, rfl, -, -, -, -, -⟩ := ha
  obtain ⟨ab, cb, rfl, -, -, -, -, -⟩ := hb
  obtain ⟨w0, ga, gb, g1, g2, hw0, b0, e1, e2, e3, e4, x1, x2, y1, y2⟩ := four_boxes w (.bool n) (.slice aa l.length ca) (.bool k) (.slice ab m.length cb) (.bool false) (.slice none 0 0) (.bool false) (.slice none 0 0) 24
  have HW := hid hw0.symm
  have HG : Hid (w.heap.size ≤ g1 ∧ w.heap.size ≤ g2 ∧ g1 ≠ g2) := by refine ⟨?_, ?_, ?_⟩ <;> omega
  have E1 := hid e1.symm; have E2 := hid e2.symm; have E3 := hid e3.symm; have E4 := hid e4.symm
  have B0 := hid b0; have Y1 := hid y1; have Y2 := hid y2
  have HA0 := hid (HA.out.below b0); have HB0 := hid (HB.out.below b0)
  have H0 := hid h0
  clear hw0 b0 x1 x2 y1 y2 HA HB e1 e2 e3 e4 h0
  go_enter Try.func43, Try.ntmps43
  go_wp2_with fail
  rw [HW.out, E4.out, E3.out, E2.out, E1.out]
  clear HW E1 E2 E3 E4
  refine (nat_divmod0' HA0.out HB0.out H0.out).mono ?_
  rintro e w1 ⟨rfl, rfl⟩
  have B1 := B0; have Y11 := Y1; have Y21 := Y2
  clear B0 Y1 Y2 
  obtain ⟨w7, hw7, z7, y7, b7, m0, m1, m2, m3⟩ := store_end2 B1.out HG.out.1 HG.out.2.1 HG.out.2.2 Y11.out Y21.out (isZ_zero _) (isZ_zero _)
  obtain ⟨c0, c1, f0, f1⟩ := Y11.out.cells
  obtain ⟨d0, d1, k0, k1⟩ := Y21.out.cells
  obtain ⟨q0, q1, q2, q3⟩ := (Y21.out.other (Ne.symm HG.out.2.2) (.bool false) (.slice none 0 0)).cells
  have hlt := Y11.out.lt
  have hlt2 := Y21.out.lt
  have HZ7 := hid z7; have HY7 := hid y7; have HB7 := hid b7; have HW7 := hid hw7.symm
  have HNE := HG.out.2.2
  clear z7 y7 b7 hw7
  go_wp2
  rw [HW7.out]
  exact bodyPost_ret (v := .tuple #[.agg #[.bool false, .slice none 0 0], .agg #[.bool false, .slice none 0 0], .bool false]) (by simp [results, Try.results43, go_sem, m0, m1, m2, m3]) rfl ⟨_, _, rfl, HZ7.out, HY7.out, HB7.out⟩

end Go.Proofs.Ytcogldhjkjiodaa
