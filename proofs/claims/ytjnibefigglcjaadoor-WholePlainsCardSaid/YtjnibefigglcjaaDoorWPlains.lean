/- primroselaw02.WholePlains answers true for every two whole numbers that may be in memory: plain, sign, negative and comparison are the document's. No condition beyond the row's own. -/
import Derived.Test.YtjnibefigglcjaaDoorZ15
import Derived.Deep.RegionHeld3
set_option linter.unusedVariables false
set_option linter.unusedSimpArgs false
namespace Go.Proofs.YtjnibefigglcjaaDoor
open Go.RowKit

set_option maxRecDepth 100000 in
set_option maxHeartbeats 2000000 in
theorem ref_subZ {va vb : Value} {na nb : Bool} {la lb : List Nat} {w : World} (ha : SeesZ w va na la) (hb : SeesZ w vb nb lb) (hla : la.length ≤ 35184372087808) (hlb : lb.length ≤ 35184372087808) :
    Calls Tryd.prog 77 #[va, vb] w fun e w' => IsInt w (zval na la - zval nb lb) e w' := by
  have hzz : zval na la + zval (zneg (zval (!nb) lb)) (zlim (zval (!nb) lb)) = zval na la - zval nb lb := by rw [zval_plain, zval_not]; omega
  have HZZ := hid hzz
  have HLN : Hid ((zlim (zval (!nb) lb)).length ≤ 35184372087808) := hid (by
    obtain ⟨m, rfl, hm⟩ := hb
    have := (limbs_prefix hm.ok).2
    unfold zlim
    rw [zval_abs]; omega)
  clear hzz
  obtain ⟨ma, rfl, hma⟩ := ha
  obtain ⟨mb, rfl, hmb⟩ := hb
  have HMA := hid hma; have HMB := hid hmb
  obtain ⟨ao, ca, rfl, -, -, -, -, -⟩ := hma
  obtain ⟨bo, cb, rfl, -, -, -, -, -⟩ := hmb
  obtain ⟨y, gA, gB, gR, hy, b, e1, e2, e3, xA, xB, xR⟩ := three_boxes w (.bool na) (.slice ao la.length ca) (.bool nb) (.slice bo lb.length cb) (.bool false) (.slice none 0 0) 34
  have HY := hid hy.symm; have E1 := hid e1.symm; have E2 := hid e2.symm; have E3 := hid e3.symm
  have HXA := hid xA; have HXB := hid xB; have HXR := hid xR; have B0 := hid b; have HSA := hid (HMA.out.below b); have HSB := hid (HMB.out.below b)
  have HG : Hid (w.heap.size ≤ gR) := hid (by omega)
  clear hy e1 e2 e3 xA xB xR b HMA HMB
  have HA : Hid (SeesZ y (.agg #[.bool na, .slice ao la.length ca]) na la) := hid ⟨_, rfl, HSA.out⟩
  have HBB : Hid (SeesZ y (.agg #[.bool nb, .slice bo lb.length cb]) nb lb) := hid ⟨_, rfl, HSB.out⟩
  generalize zval na la - zval nb lb = z at *
  go_enter Tryd.func77, Tryd.ntmps77
  go_wp2_with fail
  try rw [HY.out]
  try rw [E3.out]
  try rw [E2.out]
  try rw [E1.out]
  clear HY E1 E2 E3
  obtain ⟨a0, a1, a2, a3⟩ := HXA.out.cells
  obtain ⟨b0, b1, b2, b3⟩ := HXB.out.cells
  obtain ⟨r0, r1, r2, r3⟩ := HXR.out.cells
  go_region_with (first
    | (go_at_call 32; refine (ref_negZ (by exact HBB.out) (by omega)).mono ?_; rintro e w1 ⟨v1, rfl, hz1, hb1⟩
       have HXA1 := hid (Box.below (by exact HXA.out) hb1); have HXR1 := hid (Box.below (by exact HXR.out) hb1); have HA1 := hid (SeesZ.below (by exact HA.out) hb1)
       have B1 := hid (B0.out.drew.trans (Below.mono hb1 B0.out.drew.size))
       have HZ1 := hid hz1
       clear hz1 hb1 a0 a1 a2 a3 b0 b1 b2 b3 r0 r1 r2 r3
       obtain ⟨a0, a1, a2, a3⟩ := HXA1.out.cells)
    | (go_at_call 98; refine (ref_addZ (by exact HA1.out) (by exact HZ1.out.sees) (by omega) (by exact HLN.out)).mono ?_; rw [HZZ.out]; rintro e w2 ⟨v2, rfl, hz2, hb2⟩
       have HXR2 := hid (Box.below (by exact HXR1.out) hb2)
       have B2 := hid (B1.out.trans (Below.mono hb2 B1.out.size))
       have HZ2 := hid hz2
       obtain ⟨ao2, cap2, rfl⟩ := hz2.form
       obtain ⟨r0, r1, r2, r3⟩ := HXR2.out.cells
       have hlt := HXR2.out.lt
       clear hb2 hz2))
  all_goals
    have HR3 := hid (HXR2.out)
    obtain ⟨g1, g2, g3⟩ := store_end B2.out HG.out HR3.out HZ2.out
    obtain ⟨c0, c1, f0, f1⟩ := HR3.out.cells
    have hlt := HR3.out.lt
    have HG1 := hid g1
    clear HR3 HZ2 B2 HG HXR2 g1
    generalize zneg (z) = bb at *
    generalize zlim (z) = ll at *
    go_wp2
    exact bodyPost_ret (v := .agg #[.bool bb, .slice ao2 ll.length cap2]) (by simp [results, Tryd.results77, go_sem, g2, g3]) rfl HG1.out

set_option maxRecDepth 100000 in
set_option maxHeartbeats 2000000 in
theorem ref_cmpZ {va vb : Value} {na nb : Bool} {la lb : List Nat} {w : World} (ha : SeesZ w va na la) (hb : SeesZ w vb nb lb) (hla : la.length ≤ 35184372087808) (hlb : lb.length ≤ 35184372087808) :
    Calls Tryd.prog 34 #[va, vb] w fun e w' => e = .returned (.int .i64 (sgnI (zval na la - zval nb lb))) ∧ Below w.heap.size w w' := by
  have HLN : Hid ((zlim (zval na la - zval nb lb)).length ≤ 35184372088832) := hid (by
    obtain ⟨m, rfl, hm⟩ := ha
    obtain ⟨m', rfl, hm'⟩ := hb
    have h1 := sum_len hla hlb hm.ok hm'.ok
    have h2 : (zval na la - zval nb lb).natAbs ≤ val la + val lb := by
      unfold zval; split <;> split <;> omega
    have h3 := limbs_length_le (Nat.lt_of_le_of_lt h2 (lt_pow_length _))
    unfold zlim
    omega)
  obtain ⟨ma, rfl, hma⟩ := ha
  obtain ⟨mb, rfl, hmb⟩ := hb
  have HMA := hid hma; have HMB := hid hmb
  obtain ⟨ao, ca, rfl, -, -, -, -, -⟩ := hma
  obtain ⟨bo, cb, rfl, -, -, -, -, -⟩ := hmb
  obtain ⟨y, gA, gB, hy, b, e1, e2, xA, xB⟩ := two_boxes w (.bool na) (.slice ao la.length ca) (.bool nb) (.slice bo lb.length cb) 34
  have HY := hid hy.symm
  have B0 := hid b
  have HA : Hid (SeesZ y (.agg #[.bool na, .slice ao la.length ca]) na la) := hid ⟨_, rfl, HMA.out.below b⟩
  have HBB : Hid (SeesZ y (.agg #[.bool nb, .slice bo lb.length cb]) nb lb) := hid ⟨_, rfl, HMB.out.below b⟩
  have HC := hid (ref_subZ HA.out HBB.out hla hlb)
  clear hy e1 e2 xA xB b HMA HMB
  generalize zval na la - zval nb lb = z at *
  go_enter Tryd.func34, Tryd.ntmps34
  go_wp2_with fail
  rw [HY.out]
  refine HC.out.mono ?_
  rintro e w1 ⟨v1, rfl, hz1, hb1⟩
  have B1 := hid (step_below B0.out hb1)
  have HZ1 := hid hz1
  clear HC HY hb1 hz1 HA HBB B0
  go_wp2_with fail
  refine (ref_sign HZ1.out.sees (by have := HLN.out; omega)).mono ?_
  rw [zval_plain]
  rintro e w2 ⟨rfl, hb2⟩
  have B2 := hid (step_below B1.out hb2)
  clear hb2 HZ1 B1
  go_wp2
  go_ret
  exact ⟨rfl, B2.out⟩

theorem sgnI_cases (z : Int) : (z < 0 ∧ sgnI z = -1) ∨ (z = 0 ∧ sgnI z = 0) ∨ (0 < z ∧ sgnI z = 1) := by
  unfold sgnI
  rcases Int.lt_trichotomy z 0 with h | h | h
  · exact Or.inl ⟨h, if_pos h⟩
  · exact Or.inr (Or.inl ⟨h, by rw [if_neg (by omega), if_pos h]⟩)
  · exact Or.inr (Or.inr ⟨h, by rw [if_neg (by omega), if_neg (by omega)]⟩)
theorem sgnI_diff (x y : Nat) : sgnI ((x : Int) - (y : Int)) = cmpI x y := by
  unfold cmpI
  rcases sgnI_cases ((x : Int) - (y : Int)) with ⟨h, e⟩ | ⟨h, e⟩ | ⟨h, e⟩ <;> rw [e]
  · rw [if_pos (by omega)]
  · rw [if_neg (by omega), if_neg (by omega)]
  · rw [if_neg (by omega), if_pos (by omega)]
theorem zval_cases (n : Bool) (l : List Nat) : (0 ≤ zval n l → zval n l = (val l : Int)) ∧ (zval n l < 0 → zval n l = -(val l : Int)) := by
  unfold zval; cases n <;> simp <;> omega
theorem cmp_sign (na nb : Bool) (la lb : List Nat) :
    sgnI (zval na la - zval nb lb) = if sgnI (zval na la) < sgnI (zval nb lb) then -1 else if sgnI (zval nb lb) < sgnI (zval na la) then 1 else if sgnI (zval na la) < 0 then cmpI (val lb) (val la) else cmpI (val la) (val lb) := by
  obtain ⟨pa, qa⟩ := zval_cases na la
  obtain ⟨pb, qb⟩ := zval_cases nb lb
  generalize zval na la = za at *
  generalize zval nb lb = zb at *
  rcases sgnI_cases za with ⟨h, e⟩ | ⟨h, e⟩ | ⟨h, e⟩ <;> rcases sgnI_cases zb with ⟨h', e'⟩ | ⟨h', e'⟩ | ⟨h', e'⟩ <;> rw [e, e']
  all_goals first
    | (rw [if_neg (by decide), if_neg (by decide), if_pos (by decide), qa h, qb h', show (-(val la : Int) - -(val lb : Int)) = (val lb : Int) - (val la : Int) by omega, sgnI_diff]; done)
    | (rw [if_neg (by decide), if_neg (by decide), if_neg (by decide), pa (by omega), pb (by omega), sgnI_diff]; done)
    | (rw [if_pos (by decide)]; rcases sgnI_cases (za - zb) with ⟨g, k⟩ | ⟨g, k⟩ | ⟨g, k⟩ <;> first | exact k | (exfalso; omega))
    | (rw [if_neg (by decide), if_pos (by decide)]; rcases sgnI_cases (za - zb) with ⟨g, k⟩ | ⟨g, k⟩ | ⟨g, k⟩ <;> first | exact k | (exfalso; omega))

set_option maxRecDepth 100000 in
set_option maxHeartbeats 2000000 in
theorem whole_cmp_a {va vb : Value} {na nb : Bool} {la lb : List Nat} {w : World} {s t : Int} (ha : SeesZ w va na la) (hb : SeesZ w vb nb lb) (hs : sgnI (zval na la) = s) (ht : sgnI (zval nb lb) = t) (h1 : s < t) :
    Calls Tryd.prog 33 #[va, vb] w fun e w' => e = .returned (.int .i64 (-1)) ∧ Below w.heap.size w w' := by
  have HS := hid hs; have HT := hid ht
  clear hs ht
  obtain ⟨ma, rfl, hma⟩ := ha
  obtain ⟨mb, rfl, hmb⟩ := hb
  have HMA := hid hma; have HMB := hid hmb
  obtain ⟨ao, ca, rfl, -, -, -, -, -⟩ := hma
  obtain ⟨bo, cb, rfl, -, -, -, -, -⟩ := hmb
  obtain ⟨y, gA, gB, hy, b, e1, e2, xA, xB⟩ := two_boxes w (.bool na) (.slice ao la.length ca) (.bool nb) (.slice bo lb.length cb) 34
  have HY := hid hy.symm; have E1 := hid e1.symm; have E2 := hid e2.symm
  have HXA := hid xA; have HXB := hid xB
  have HBel := hid b
  have HA : Hid (SeesZ y (.agg #[.bool na, .slice ao la.length ca]) na la) := hid ⟨_, rfl, HMA.out.below b⟩
  have HBB : Hid (SeesZ y (.agg #[.bool nb, .slice bo lb.length cb]) nb lb) := hid ⟨_, rfl, HMB.out.below b⟩
  clear hy e1 e2 xA xB b HMA HMB
  go_enter Tryd.func33, Tryd.ntmps33
  go_wp2_with fail
  try rw [HY.out]
  try rw [E2.out]
  try rw [E1.out]
  clear HY E1 E2
  obtain ⟨a0, a1, a2, a3⟩ := HXA.out.cells
  obtain ⟨b0, b1, b2, b3⟩ := HXB.out.cells
  go_region_with (first
    | (go_at_call 29
       refine (whole_sign (by first | exact HA.out | exact HBB.out)).mono ?_
       first | rw [HS.out] | rw [HT.out]
       rintro e wx ⟨rfl, hb⟩
       have HBn : Hid (Below w.heap.size w wx) := (by first | exact Below.trans HBel.out (Below.mono hb HBel.out.size) | exact Below.trans HBel.out.drew (Below.mono hb HBel.out.drew.size))
       clear HBel
       have HBel := HBn
       clear HBn a0 a1 a2 a3 b0 b1 b2 b3
       replace HA := hid (SeesZ.below (by exact HA.out) hb)
       replace HBB := hid (SeesZ.below (by exact HBB.out) hb)
       replace HXA := hid (Box.below (by exact HXA.out) hb)
       replace HXB := hid (Box.below (by exact HXB.out) hb)
       obtain ⟨a0, a1, a2, a3⟩ := HXA.out.cells
       obtain ⟨b0, b1, b2, b3⟩ := HXB.out.cells
       clear hb))
  all_goals
    go_wp2
    go_ret
    exact ⟨rfl, HBel.out⟩

set_option maxRecDepth 100000 in
set_option maxHeartbeats 2000000 in
theorem whole_cmp_b {va vb : Value} {na nb : Bool} {la lb : List Nat} {w : World} {s t : Int} (ha : SeesZ w va na la) (hb : SeesZ w vb nb lb) (hs : sgnI (zval na la) = s) (ht : sgnI (zval nb lb) = t) (h1 : ¬ s < t) (h2 : t < s) :
    Calls Tryd.prog 33 #[va, vb] w fun e w' => e = .returned (.int .i64 (1)) ∧ Below w.heap.size w w' := by
  have HS := hid hs; have HT := hid ht
  clear hs ht
  obtain ⟨ma, rfl, hma⟩ := ha
  obtain ⟨mb, rfl, hmb⟩ := hb
  have HMA := hid hma; have HMB := hid hmb
  obtain ⟨ao, ca, rfl, -, -, -, -, -⟩ := hma
  obtain ⟨bo, cb, rfl, -, -, -, -, -⟩ := hmb
  obtain ⟨y, gA, gB, hy, b, e1, e2, xA, xB⟩ := two_boxes w (.bool na) (.slice ao la.length ca) (.bool nb) (.slice bo lb.length cb) 34
  have HY := hid hy.symm; have E1 := hid e1.symm; have E2 := hid e2.symm
  have HXA := hid xA; have HXB := hid xB
  have HBel := hid b
  have HA : Hid (SeesZ y (.agg #[.bool na, .slice ao la.length ca]) na la) := hid ⟨_, rfl, HMA.out.below b⟩
  have HBB : Hid (SeesZ y (.agg #[.bool nb, .slice bo lb.length cb]) nb lb) := hid ⟨_, rfl, HMB.out.below b⟩
  clear hy e1 e2 xA xB b HMA HMB
  go_enter Tryd.func33, Tryd.ntmps33
  go_wp2_with fail
  try rw [HY.out]
  try rw [E2.out]
  try rw [E1.out]
  clear HY E1 E2
  obtain ⟨a0, a1, a2, a3⟩ := HXA.out.cells
  obtain ⟨b0, b1, b2, b3⟩ := HXB.out.cells
  go_region_with (first
    | (go_at_call 29
       refine (whole_sign (by first | exact HA.out | exact HBB.out)).mono ?_
       first | rw [HS.out] | rw [HT.out]
       rintro e wx ⟨rfl, hb⟩
       have HBn : Hid (Below w.heap.size w wx) := (by first | exact Below.trans HBel.out (Below.mono hb HBel.out.size) | exact Below.trans HBel.out.drew (Below.mono hb HBel.out.drew.size))
       clear HBel
       have HBel := HBn
       clear HBn a0 a1 a2 a3 b0 b1 b2 b3
       replace HA := hid (SeesZ.below (by exact HA.out) hb)
       replace HBB := hid (SeesZ.below (by exact HBB.out) hb)
       replace HXA := hid (Box.below (by exact HXA.out) hb)
       replace HXB := hid (Box.below (by exact HXB.out) hb)
       obtain ⟨a0, a1, a2, a3⟩ := HXA.out.cells
       obtain ⟨b0, b1, b2, b3⟩ := HXB.out.cells
       clear hb))
  all_goals
    go_wp2
    go_ret
    exact ⟨rfl, HBel.out⟩

set_option maxRecDepth 100000 in
set_option maxHeartbeats 2000000 in
theorem whole_cmp_c {va vb : Value} {na nb : Bool} {la lb : List Nat} {w : World} {s t : Int} (ha : SeesZ w va na la) (hb : SeesZ w vb nb lb) (hs : sgnI (zval na la) = s) (ht : sgnI (zval nb lb) = t) (h1 : ¬ s < t) (h2 : ¬ t < s) (h3 : s < 0) :
    Calls Tryd.prog 33 #[va, vb] w fun e w' => e = .returned (.int .i64 (cmpI (val lb) (val la))) ∧ Below w.heap.size w w' := by
  have HS := hid hs; have HT := hid ht
  clear hs ht
  obtain ⟨ma, rfl, hma⟩ := ha
  obtain ⟨mb, rfl, hmb⟩ := hb
  have HMA := hid hma; have HMB := hid hmb
  obtain ⟨ao, ca, rfl, -, -, -, -, -⟩ := hma
  obtain ⟨bo, cb, rfl, -, -, -, -, -⟩ := hmb
  obtain ⟨y, gA, gB, hy, b, e1, e2, xA, xB⟩ := two_boxes w (.bool na) (.slice ao la.length ca) (.bool nb) (.slice bo lb.length cb) 34
  have HY := hid hy.symm; have E1 := hid e1.symm; have E2 := hid e2.symm
  have HXA := hid xA; have HXB := hid xB
  have HBel := hid b
  have HA : Hid (SeesZ y (.agg #[.bool na, .slice ao la.length ca]) na la) := hid ⟨_, rfl, HMA.out.below b⟩
  have HBB : Hid (SeesZ y (.agg #[.bool nb, .slice bo lb.length cb]) nb lb) := hid ⟨_, rfl, HMB.out.below b⟩
  clear hy e1 e2 xA xB b HMA HMB
  go_enter Tryd.func33, Tryd.ntmps33
  go_wp2_with fail
  try rw [HY.out]
  try rw [E2.out]
  try rw [E1.out]
  clear HY E1 E2
  obtain ⟨a0, a1, a2, a3⟩ := HXA.out.cells
  obtain ⟨b0, b1, b2, b3⟩ := HXB.out.cells
  go_region_with (first
    | (go_at_call 29
       refine (whole_sign (by first | exact HA.out | exact HBB.out)).mono ?_
       first | rw [HS.out] | rw [HT.out]
       rintro e wx ⟨rfl, hb⟩
       have HBn : Hid (Below w.heap.size w wx) := (by first | exact Below.trans HBel.out (Below.mono hb HBel.out.size) | exact Below.trans HBel.out.drew (Below.mono hb HBel.out.drew.size))
       clear HBel
       have HBel := HBn
       clear HBn a0 a1 a2 a3 b0 b1 b2 b3
       replace HA := hid (SeesZ.below (by exact HA.out) hb)
       replace HBB := hid (SeesZ.below (by exact HBB.out) hb)
       replace HXA := hid (Box.below (by exact HXA.out) hb)
       replace HXB := hid (Box.below (by exact HXB.out) hb)
       obtain ⟨a0, a1, a2, a3⟩ := HXA.out.cells
       obtain ⟨b0, b1, b2, b3⟩ := HXB.out.cells
       clear hb))
  all_goals
    go_wp2_with fail
    obtain ⟨ma, hma, hsa⟩ := HBB.out
    obtain ⟨mb, hmb, hsb⟩ := HA.out
    simp at hma hmb
    subst hma; subst hmb
    refine (nat_cmp' hsa hsb).mono ?_
    rintro e wy ⟨rfl, hb⟩
    have HBn := hid (step_below HBel.out hb)
    clear hb hsa hsb
    go_wp2
    go_ret
    exact ⟨rfl, HBn.out⟩

set_option maxRecDepth 100000 in
set_option maxHeartbeats 2000000 in
theorem whole_cmp_d {va vb : Value} {na nb : Bool} {la lb : List Nat} {w : World} {s t : Int} (ha : SeesZ w va na la) (hb : SeesZ w vb nb lb) (hs : sgnI (zval na la) = s) (ht : sgnI (zval nb lb) = t) (h1 : ¬ s < t) (h2 : ¬ t < s) (h3 : ¬ s < 0) :
    Calls Tryd.prog 33 #[va, vb] w fun e w' => e = .returned (.int .i64 (cmpI (val la) (val lb))) ∧ Below w.heap.size w w' := by
  have HS := hid hs; have HT := hid ht
  clear hs ht
  obtain ⟨ma, rfl, hma⟩ := ha
  obtain ⟨mb, rfl, hmb⟩ := hb
  have HMA := hid hma; have HMB := hid hmb
  obtain ⟨ao, ca, rfl, -, -, -, -, -⟩ := hma
  obtain ⟨bo, cb, rfl, -, -, -, -, -⟩ := hmb
  obtain ⟨y, gA, gB, hy, b, e1, e2, xA, xB⟩ := two_boxes w (.bool na) (.slice ao la.length ca) (.bool nb) (.slice bo lb.length cb) 34
  have HY := hid hy.symm; have E1 := hid e1.symm; have E2 := hid e2.symm
  have HXA := hid xA; have HXB := hid xB
  have HBel := hid b
  have HA : Hid (SeesZ y (.agg #[.bool na, .slice ao la.length ca]) na la) := hid ⟨_, rfl, HMA.out.below b⟩
  have HBB : Hid (SeesZ y (.agg #[.bool nb, .slice bo lb.length cb]) nb lb) := hid ⟨_, rfl, HMB.out.below b⟩
  clear hy e1 e2 xA xB b HMA HMB
  go_enter Tryd.func33, Tryd.ntmps33
  go_wp2_with fail
  try rw [HY.out]
  try rw [E2.out]
  try rw [E1.out]
  clear HY E1 E2
  obtain ⟨a0, a1, a2, a3⟩ := HXA.out.cells
  obtain ⟨b0, b1, b2, b3⟩ := HXB.out.cells
  go_region_with (first
    | (go_at_call 29
       refine (whole_sign (by first | exact HA.out | exact HBB.out)).mono ?_
       first | rw [HS.out] | rw [HT.out]
       rintro e wx ⟨rfl, hb⟩
       have HBn : Hid (Below w.heap.size w wx) := (by first | exact Below.trans HBel.out (Below.mono hb HBel.out.size) | exact Below.trans HBel.out.drew (Below.mono hb HBel.out.drew.size))
       clear HBel
       have HBel := HBn
       clear HBn a0 a1 a2 a3 b0 b1 b2 b3
       replace HA := hid (SeesZ.below (by exact HA.out) hb)
       replace HBB := hid (SeesZ.below (by exact HBB.out) hb)
       replace HXA := hid (Box.below (by exact HXA.out) hb)
       replace HXB := hid (Box.below (by exact HXB.out) hb)
       obtain ⟨a0, a1, a2, a3⟩ := HXA.out.cells
       obtain ⟨b0, b1, b2, b3⟩ := HXB.out.cells
       clear hb))
  all_goals
    go_wp2_with fail
    obtain ⟨ma, hma, hsa⟩ := HA.out
    obtain ⟨mb, hmb, hsb⟩ := HBB.out
    simp at hma hmb
    subst hma; subst hmb
    refine (nat_cmp' hsa hsb).mono ?_
    rintro e wy ⟨rfl, hb⟩
    have HBn := hid (step_below HBel.out hb)
    clear hb hsa hsb
    go_wp2
    go_ret
    exact ⟨rfl, HBn.out⟩

theorem whole_cmp {va vb : Value} {na nb : Bool} {la lb : List Nat} {w : World} (ha : SeesZ w va na la) (hb : SeesZ w vb nb lb) :
    Calls Tryd.prog 33 #[va, vb] w fun e w' => e = .returned (.int .i64 (sgnI (zval na la - zval nb lb))) ∧ Below w.heap.size w w' := by
  have h := cmp_sign na nb la lb
  by_cases h1 : sgnI (zval na la) < sgnI (zval nb lb)
  · rw [h, if_pos h1]; exact whole_cmp_a ha hb rfl rfl h1
  · rw [if_neg h1] at h
    by_cases h2 : sgnI (zval nb lb) < sgnI (zval na la)
    · rw [h, if_pos h2]; exact whole_cmp_b ha hb rfl rfl h1 h2
    · rw [if_neg h2] at h
      by_cases h3 : sgnI (zval na la) < 0
      · rw [h, if_pos h3]; exact whole_cmp_c ha hb rfl rfl h1 h2 h3
      · rw [h, if_neg h3]; exact whole_cmp_d ha hb rfl rfl h1 h2 h3
end Go.Proofs.YtjnibefigglcjaaDoor

namespace Go.Proofs.YtjnibefigglcjaaDoor.wholePlains
open Go.ChangeShapes Go.WideShapes Go.ChangeAt Go.RowKit

set_option maxRecDepth 100000 in
set_option maxHeartbeats 8000000 in
theorem walk {va vb : Value} {na nb : Bool} {la lb : List Nat} {w : World} (ha : SeesZ w va na la) (hla : la.length ≤ 35184372087808) (hb : SeesZ w vb nb lb) (hlb : lb.length ≤ 35184372087808) :
    Calls Tryd.prog 7 #[va, vb] w fun e w' => e = .returned (.bool true) ∧ Below w.heap.size w w' := by
  obtain ⟨ma, rfl, hma⟩ := ha
  obtain ⟨mb, rfl, hmb⟩ := hb
  have HMA := hid hma; have HMB := hid hmb
  obtain ⟨ao, ca, rfl, -, -, -, -, -⟩ := hma
  obtain ⟨bo, cb, rfl, -, -, -, -, -⟩ := hmb
  obtain ⟨y, gA, gB, hy, b, e1, e2, xA, xB⟩ := two_boxes w (.bool na) (.slice ao la.length ca) (.bool nb) (.slice bo lb.length cb) 34
  have HY := hid hy.symm; have E1 := hid e1.symm; have E2 := hid e2.symm
  have XA := hid xA; have XB := hid xB
  have HBel := hid b
  have HA : Hid (SeesZ y (.agg #[.bool na, .slice ao la.length ca]) na la) := hid ⟨_, rfl, HMA.out.below b⟩
  have HB : Hid (SeesZ y (.agg #[.bool nb, .slice bo lb.length cb]) nb lb) := hid ⟨_, rfl, HMB.out.below b⟩
  clear hy e1 e2 xA xB b HMA HMB
  obtain ⟨s, hs⟩ : ∃ s, sgnI (zval na la) = s := ⟨_, rfl⟩
  obtain ⟨c, hc⟩ : ∃ c, sgnI (zval na la - zval nb lb) = c := ⟨_, rfl⟩
  have HSG := hid hs; have HCM := hid hc
  clear hs hc
  go_enter Tryd.func7, Tryd.ntmps7
  go_wp2
  try rw [HY.out]
  try rw [E2.out]
  try rw [E1.out]
  clear HY E1 E2
  obtain ⟨a0, a1, -, -⟩ := XA.out.cells
  obtain ⟨b0, b1, -, -⟩ := XB.out.cells
  have HD := hid ((Below.refl y.heap.size y).drew)
  first | go_region_held3 (fun w' => w'.cell? ⟨gA, 0, none⟩ = some (.bool na) ∧ w'.cell? ⟨gA, 1, none⟩ = some (.slice ao la.length ca) ∧ w'.cell? ⟨gB, 0, none⟩ = some (.bool nb) ∧ w'.cell? ⟨gB, 1, none⟩ = some (.slice bo lb.length cb) ∧ Hid (Below y.heap.size y w')) (exact ⟨by assumption, by assumption, by assumption, by assumption, by assumption⟩) (first
    | (go_at_call 25
       refine (awakeZ_any _).mono ?_
       rintro e wx ⟨rfl, hb⟩
       have hbn := hid (step_below (w := y) (Hid.out (by assumption)) hb)
       obtain ⟨c0, c1, -, -⟩ := (XA.out.below hbn.out).cells
       obtain ⟨d0, d1, -, -⟩ := (XB.out.below hbn.out).cells
       clear hb)
    | (go_at_call 27
       refine (whole_plain (by exact SeesZ.below HA.out (Hid.out (by assumption))) (by omega)).mono ?_
       rintro e wx ⟨v1, rfl, hz, hb⟩
       have hbn := hid (step_below (w := y) (Hid.out (by assumption)) hb)
       obtain ⟨c0, c1, -, -⟩ := (XA.out.below hbn.out).cells
       obtain ⟨d0, d1, -, -⟩ := (XB.out.below hbn.out).cells
       have HP1 := hid hz
       clear hz
       clear hb)
    | (go_at_call 28
       refine (ref_plainZ (by exact SeesZ.below HA.out (Hid.out (by assumption))) (by omega)).mono ?_
       rintro e wx ⟨v2, rfl, hz, hb⟩
       have hbn := hid (step_below (w := y) (Hid.out (by assumption)) hb)
       obtain ⟨c0, c1, -, -⟩ := (XA.out.below hbn.out).cells
       obtain ⟨d0, d1, -, -⟩ := (XB.out.below hbn.out).cells
       have HP2 := hid hz
       replace HP1 := hid (IsZ.below HP1.out hb)
       clear hz
       clear hb)
    | (go_at_call 31
       refine (whole_neg (by exact SeesZ.below HA.out (Hid.out (by assumption))) (by omega)).mono ?_
       rintro e wx ⟨v3, rfl, hz, hb⟩
       have hbn := hid (step_below (w := y) (Hid.out (by assumption)) hb)
       obtain ⟨c0, c1, -, -⟩ := (XA.out.below hbn.out).cells
       obtain ⟨d0, d1, -, -⟩ := (XB.out.below hbn.out).cells
       have HN1 := hid hz
       clear hz
       clear hb)
    | (go_at_call 32
       refine (ref_negZ (by exact SeesZ.below HA.out (Hid.out (by assumption))) (by omega)).mono ?_
       rintro e wx ⟨v4, rfl, hz, hb⟩
       have hbn := hid (step_below (w := y) (Hid.out (by assumption)) hb)
       obtain ⟨c0, c1, -, -⟩ := (XA.out.below hbn.out).cells
       obtain ⟨d0, d1, -, -⟩ := (XB.out.below hbn.out).cells
       have HN2 := hid hz
       replace HN1 := hid (IsZ.below HN1.out hb)
       clear hz
       clear hb)
    | (go_at_call 26
       refine (law_sameZ (by first | exact IsZ.sees HN1.out | exact IsZ.sees HP1.out) (by first | exact IsZ.sees HN2.out | exact IsZ.sees HP2.out)).mono ?_
       rintro e wx ⟨rfl, hb⟩
       have hbn := hid (step_below (w := y) (Hid.out (by assumption)) hb)
       obtain ⟨c0, c1, -, -⟩ := (XA.out.below hbn.out).cells
       obtain ⟨d0, d1, -, -⟩ := (XB.out.below hbn.out).cells
       clear hb)
    | (go_at_call 29
       refine (whole_sign (by exact SeesZ.below HA.out (Hid.out (by assumption)))).mono ?_
       rw [HSG.out]
       rintro e wx ⟨rfl, hb⟩
       have hbn := hid (step_below (w := y) (Hid.out (by assumption)) hb)
       obtain ⟨c0, c1, -, -⟩ := (XA.out.below hbn.out).cells
       obtain ⟨d0, d1, -, -⟩ := (XB.out.below hbn.out).cells
       clear hb)
    | (go_at_call 30
       refine (ref_sign (by exact SeesZ.below HA.out (Hid.out (by assumption))) (by omega)).mono ?_
       rw [HSG.out]
       rintro e wx ⟨rfl, hb⟩
       have hbn := hid (step_below (w := y) (Hid.out (by assumption)) hb)
       obtain ⟨c0, c1, -, -⟩ := (XA.out.below hbn.out).cells
       obtain ⟨d0, d1, -, -⟩ := (XB.out.below hbn.out).cells
       clear hb)
    | (go_at_call 33
       refine (whole_cmp (by exact SeesZ.below HA.out (Hid.out (by assumption))) (by exact SeesZ.below HB.out (Hid.out (by assumption)))).mono ?_
       rw [HCM.out]
       rintro e wx ⟨rfl, hb⟩
       have hbn := hid (step_below (w := y) (Hid.out (by assumption)) hb)
       obtain ⟨c0, c1, -, -⟩ := (XA.out.below hbn.out).cells
       obtain ⟨d0, d1, -, -⟩ := (XB.out.below hbn.out).cells
       clear hb)
    | (go_at_call 34
       refine (ref_cmpZ (by exact SeesZ.below HA.out (Hid.out (by assumption))) (by exact SeesZ.below HB.out (Hid.out (by assumption))) (by omega) (by omega)).mono ?_
       rw [HCM.out]
       rintro e wx ⟨rfl, hb⟩
       have hbn := hid (step_below (w := y) (Hid.out (by assumption)) hb)
       obtain ⟨c0, c1, -, -⟩ := (XA.out.below hbn.out).cells
       obtain ⟨d0, d1, -, -⟩ := (XB.out.below hbn.out).cells
       clear hb)) | fail
  rename_i hHd
  have HBL := hid (step_below HBel.out (Hid.out hHd.2.2.2.2))
  clear hHd
  go_wp2
  go_ret
  exact ⟨by simp, HBL.out⟩

/-! ### The row's step and the card -/
set_option maxRecDepth 100000 in
theorem contract (H : Type) (enc : TypeId × Value → H) (W : World) (base : Nat) (args : Array Value) (ds gs : List (DataW H)) (before : List MemPlace)
    (hval0 : ∀ (j : Nat) t v, Tryd.f7.params[j]? = some t → args[j]? = some v → Value.okWide Tryd.prog W .any base t v)
    (hW : DataW.Whole enc Tryd.prog Tryd.f7.params.toList Rows.wholePlainsSpec.vars false W args.toList ds gs before)
    (hsz0 : (DataW.weightsEach Tryd.prog (Tryd.f7.params.toList ++ Rows.wholePlainsSpec.plain.varTypes Tryd.prog) (ds ++ gs)).all (· ≤ reachBytes) = true) :
    Calls Tryd.prog 7 args W fun e W' => ∃ v, e = .returned v ∧ Rows.wholePlainsSpec.post enc Tryd.prog Tryd.f7 false true false false W args v W' := by
  have hW' := hW
  obtain ⟨p, q, hA0, hV, rfl, hfz, hnd⟩ := hW
  have hA : DataW.TrodAll enc Tryd.prog W 0 (fun _ => true) true Tryd.f7.params.toList args.toList ds p := hA0
  have hval : ∀ (j : Nat) t v, Tryd.f7.params[j]? = some t → args[j]? = some v → Value.okWide Tryd.prog W .any base t v := hval0
  have hsz : (DataW.weightsEach Tryd.prog (Tryd.f7.params.toList ++ []) (ds ++ gs)).all (· ≤ reachBytes) = true := hsz0
  rw [Tryd.params7] at hA hval hsz
  obtain ⟨v0, vs0, d0, ds0, p0, q0, hargs, rfl, rfl, h0, r0⟩ := trodAll_cons hA
  obtain ⟨v1, vs1, d1, ds1, p1, q1, rfl, rfl, rfl, h1, r1⟩ := trodAll_cons r0
  obtain ⟨rfl, rfl, rfl⟩ := trodAll_nil r1
  obtain rfl : args = #[v0, v1] := by cases args; simp_all
  obtain ⟨rfl, rfl⟩ := trodVars_none hV
  obtain ⟨g0, l0, s0, b0⟩ := open_z (hval 0 34 v0 rfl rfl) h0 (fun parts e => by subst e; exact sized_part hsz (j := 0) (t := 34) rfl rfl)
  obtain ⟨g1, l1, s1, b1⟩ := open_z (hval 1 34 v1 rfl rfl) h1 (fun parts e => by subst e; exact sized_part hsz (j := 1) (t := 34) rfl rfl)
  refine (walk s0 b0 s1 b1).mono fun e W' ⟨he, hb⟩ => ?_
  subst he
  exact ⟨_, rfl, _, _, _, _, _, _, hW', trodAll_cons_mk (shut_bool Tryd.underlying4 _) trodAll_mk0, trodAll_cons_mk (Below.trod laidOut (by kernel_rfl) (of_decide_eq_true (by kernel_rfl)) h0 hb (fun x hx => by first | cases hx; done | (have := hW'.lt x (by simp [hx]); simpa using this))) (trodAll_cons_mk (Below.trod laidOut (by kernel_rfl) (of_decide_eq_true (by kernel_rfl)) h1 hb (fun x hx => by first | cases hx; done | (have := hW'.lt x (by simp [hx]); simpa using this))) (trodAll_mk0)), rfl, hb.frame _, fun h => by cases h⟩

set_option maxRecDepth 100000 in
theorem lifted (os : Os) (started : os.Started) (H : Type) (enc : TypeId × Value → H) :
    ReturnsInHanded {} Tryd.checked os 7 .any (fun w args => (Rows.wholePlainsSpec.pre enc Tryd.prog Tryd.f7 [] false w args ∧ laidMetH Tryd.prog laidList w) ∧ sizedMet enc Tryd.prog Tryd.f7 (OpenSpec.ofChange Rows.wholePlainsSpec) false w args)
      (Rows.wholePlainsSpec.post enc Tryd.prog Tryd.f7 false true false false) := by
  refine returnsInHanded_of_change_and (C := Tryd.checked) (X := fun w _ => laidMetH Tryd.prog laidList w) (fun _ _ _ hh h => h.of_heap hh) own started (by kernel_rfl) Tryd.func7
    (ChangeSpec.witness_shaped (enc := enc) (C := Tryd.checked) (os := os) (X := fun w _ => laidMetH Tryd.prog laidList w) false (World.laidAll Tryd.prog os laidList) #[.agg #[.bool false, .slice none 0 0], .agg #[.bool false, .slice none 0 0]] 8 (World.laidAll_os _ _ _)
      (World.shaped_of_ZipB (by kernel_rfl) (by kernel_rfl)) (by kernel_rfl) (by kernel_rfl) (by kernel_rfl) (laid_met os _)) ?_
  intro W base args ds gs before hval0 hW _ hsz _ _
  exact contract H enc W base args ds gs before hval0 hW hsz

theorem said : Rows.WholePlainsSaid :=
  OpenClaim.holds_of_wide 7 Tryd.f7 rfl rfl rfl rfl rfl rfl rfl ⟨rfl, rfl, rfl, rfl, rfl⟩ rfl rfl rfl rfl rfl (by kernel_rfl) Tryd.func7 (by kernel_rfl)
    (of_decide_eq_true (by kernel_rfl)) (by unfold Func.isWrapper; first | (rw [if_pos (by decide +kernel)]; kernel_rfl) | (rw [if_neg (by decide +kernel)]; exact ⟨rfl, rfl⟩))
    (fun os started H enc _ => lifted os started H enc)

theorem plain (f : FuncId) (fn : Func) (hf : Tryd.pinned.checked.prog.funcNamed "primrose/primroselaw02.WholePlains" = some f) (hfn : Tryd.pinned.checked.prog.funcs[f]? = some fn) :
    false = Tryd.pinned.checked.prog.looks [] ∧ ∀ (j : Nat) t, fn.params[j]? = some t → Tryd.pinned.checked.prog.wantsStandIn t = false := by
  obtain rfl : f = 7 := Option.some.inj ((show Tryd.prog.funcNamed "primrose/primroselaw02.WholePlains" = some 7 by kernel_rfl).symm.trans hf) |>.symm
  obtain rfl : fn = Tryd.f7 := (Option.some.inj (Tryd.func7.symm.trans hfn)).symm
  refine ⟨by kernel_rfl, fun j t ht => ?_⟩
  rw [Tryd.params7] at ht
  have hm : t ∈ [34, 34] := by simpa using Array.mem_of_getElem? ht
  have hall : ([34, 34].all fun u => !Tryd.prog.wantsStandIn u) = true := by kernel_rfl
  exact (show Tryd.prog.wantsStandIn t = false by simpa using List.all_eq_true.1 hall t hm)

/-- THE CARD. -/
theorem card : Rows.WholePlainsCardSaid :=
  Claim7.holds_tied_plain_at .later [] _ _ _ _ said (fun _ h => by cases h) (by kernel_rfl) (fun _ h => by cases h) wholePlains_row_tie rfl ⟨rfl, rfl⟩ (by kernel_rfl) rfl plain (by kernel_rfl)
end Go.Proofs.YtjnibefigglcjaaDoor.wholePlains
