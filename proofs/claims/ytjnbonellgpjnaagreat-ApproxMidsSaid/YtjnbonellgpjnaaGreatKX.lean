/- The document's Sub, Cmp; whole.Cmp. -/
import Derived.Test.YtjnbonellgpjnaaGreatKL
set_option linter.unusedVariables false
set_option linter.unusedSimpArgs false
namespace Go.Proofs.YtjnbonellgpjnaaGreat
open Go.RowKit

theorem sgnI_cases (z : Int) : (z < 0 ∧ sgnI z = -1) ∨ (z = 0 ∧ sgnI z = 0) ∨ (0 < z ∧ sgnI z = 1) := by
  unfold sgnI
  rcases Int.lt_trichotomy z 0 with h | h | h
  · exact Or.inl ⟨h, if_pos h⟩
  · exact Or.inr (Or.inl ⟨h, by rw [if_neg (by omega), if_pos h]⟩)
  · exact Or.inr (Or.inr ⟨h, by rw [if_neg (by omega), if_neg (by omega)]⟩)
theorem sgnI_diff (x y : Nat) : sgnI ((x : Int) - (y : Int)) = cmpI x y := by
  unfold cmpI
  rcases sgnI_cases ((x : Int) - (y : Int)) with ⟨h, e⟩ | ⟨h, e⟩ | ⟨h, e⟩ <;> rw [e]
  · rw [if_pos (by omega)]
  · rw [if_neg (by omega), if_neg (by omega)]
  · rw [if_neg (by omega), if_pos (by omega)]
theorem zval_cases (n : Bool) (l : List Nat) : (0 ≤ zval n l → zval n l = (val l : Int)) ∧ (zval n l < 0 → zval n l = -(val l : Int)) := by
  unfold zval; cases n <;> simp <;> omega
theorem cmp_sign (na nb : Bool) (la lb : List Nat) :
    sgnI (zval na la - zval nb lb) = if sgnI (zval na la) < sgnI (zval nb lb) then -1 else if sgnI (zval nb lb) < sgnI (zval na la) then 1 else if sgnI (zval na la) < 0 then cmpI (val lb) (val la) else cmpI (val la) (val lb) := by
  obtain ⟨pa, qa⟩ := zval_cases na la
  obtain ⟨pb, qb⟩ := zval_cases nb lb
  generalize zval na la = za at *
  generalize zval nb lb = zb at *
  rcases sgnI_cases za with ⟨h, e⟩ | ⟨h, e⟩ | ⟨h, e⟩ <;> rcases sgnI_cases zb with ⟨h', e'⟩ | ⟨h', e'⟩ | ⟨h', e'⟩ <;> rw [e, e']
  all_goals first
    | (rw [if_neg (by decide), if_neg (by decide), if_pos (by decide), qa h, qb h', show (-(val la : Int) - -(val lb : Int)) = (val lb : Int) - (val la : Int) by omega, sgnI_diff]; done)
    | (rw [if_neg (by decide), if_neg (by decide), if_neg (by decide), pa (by omega), pb (by omega), sgnI_diff]; done)
    | (rw [if_pos (by decide)]; rcases sgnI_cases (za - zb) with ⟨g, k⟩ | ⟨g, k⟩ | ⟨g, k⟩ <;> first | exact k | (exfalso; omega))
    | (rw [if_neg (by decide), if_pos (by decide)]; rcases sgnI_cases (za - zb) with ⟨g, k⟩ | ⟨g, k⟩ | ⟨g, k⟩ <;> first | exact k | (exfalso; omega))

set_option maxRecDepth 100000 in
set_option maxHeartbeats 2000000 in
theorem whole_cmp_a {va vb : Value} {na nb : Bool} {la lb : List Nat} {w : World} {s t : Int} (ha : SeesZ w va na la) (hb : SeesZ w vb nb lb) (hs : sgnI (zval na la) = s) (ht : sgnI (zval nb lb) = t) (h1 : s < t) :
    Calls Tryz.prog 72 #[va, vb] w fun e w' => e = .returned (.int .i64 (-1)) ∧ Below w.heap.size w w' := by
  have HS := hid hs; have HT := hid ht
  clear hs ht
  obtain ⟨ma, rfl, hma⟩ := ha
  obtain ⟨mb, rfl, hmb⟩ := hb
  have HMA := hid hma; have HMB := hid hmb
  obtain ⟨ao, ca, rfl, -, -, -, -, -⟩ := hma
  obtain ⟨bo, cb, rfl, -, -, -, -, -⟩ := hmb
  obtain ⟨y, gA, gB, hy, b, e1, e2, xA, xB⟩ := two_boxes w (.bool na) (.slice ao la.length ca) (.bool nb) (.slice bo lb.length cb) 24
  have HY := hid hy.symm; have E1 := hid e1.symm; have E2 := hid e2.symm
  have HXA := hid xA; have HXB := hid xB
  have HBel := hid b
  have HA : Hid (SeesZ y (.agg #[.bool na, .slice ao la.length ca]) na la) := hid ⟨_, rfl, HMA.out.below b⟩
  have HBB : Hid (SeesZ y (.agg #[.bool nb, .slice bo lb.length cb]) nb lb) := hid ⟨_, rfl, HMB.out.below b⟩
  clear hy e1 e2 xA xB b HMA HMB
  go_enter Tryz.func72, Tryz.ntmps72
  go_wp2_with fail
  try rw [HY.out]
  try rw [E2.out]
  try rw [E1.out]
  clear HY E1 E2
  obtain ⟨a0, a1, a2, a3⟩ := HXA.out.cells
  obtain ⟨b0, b1, b2, b3⟩ := HXB.out.cells
  go_region_with (first
    | (go_at_call 60
       refine (whole_sign (by first | exact HA.out | exact HBB.out)).mono ?_
       first | rw [HS.out] | rw [HT.out]
       rintro e wx ⟨rfl, hb⟩
       have HBn : Hid (Below w.heap.size w wx) := (by first | exact Below.trans HBel.out (Below.mono hb HBel.out.size) | exact Below.trans HBel.out.drew (Below.mono hb HBel.out.drew.size))
       clear HBel
       have HBel := HBn
       clear HBn a0 a1 a2 a3 b0 b1 b2 b3
       replace HA := hid (SeesZ.below (by exact HA.out) hb)
       replace HBB := hid (SeesZ.below (by exact HBB.out) hb)
       replace HXA := hid (Box.below (by exact HXA.out) hb)
       replace HXB := hid (Box.below (by exact HXB.out) hb)
       obtain ⟨a0, a1, a2, a3⟩ := HXA.out.cells
       obtain ⟨b0, b1, b2, b3⟩ := HXB.out.cells
       clear hb))
  all_goals
    go_wp2
    go_ret
    exact ⟨rfl, HBel.out⟩

set_option maxRecDepth 100000 in
set_option maxHeartbeats 2000000 in
theorem whole_cmp_b {va vb : Value} {na nb : Bool} {la lb : List Nat} {w : World} {s t : Int} (ha : SeesZ w va na la) (hb : SeesZ w vb nb lb) (hs : sgnI (zval na la) = s) (ht : sgnI (zval nb lb) = t) (h1 : ¬ s < t) (h2 : t < s) :
    Calls Tryz.prog 72 #[va, vb] w fun e w' => e = .returned (.int .i64 (1)) ∧ Below w.heap.size w w' := by
  have HS := hid hs; have HT := hid ht
  clear hs ht
  obtain ⟨ma, rfl, hma⟩ := ha
  obtain ⟨mb, rfl, hmb⟩ := hb
  have HMA := hid hma; have HMB := hid hmb
  obtain ⟨ao, ca, rfl, -, -, -, -, -⟩ := hma
  obtain ⟨bo, cb, rfl, -, -, -, -, -⟩ := hmb
  obtain ⟨y, gA, gB, hy, b, e1, e2, xA, xB⟩ := two_boxes w (.bool na) (.slice ao la.length ca) (.bool nb) (.slice bo lb.length cb) 24
  have HY := hid hy.symm; have E1 := hid e1.symm; have E2 := hid e2.symm
  have HXA := hid xA; have HXB := hid xB
  have HBel := hid b
  have HA : Hid (SeesZ y (.agg #[.bool na, .slice ao la.length ca]) na la) := hid ⟨_, rfl, HMA.out.below b⟩
  have HBB : Hid (SeesZ y (.agg #[.bool nb, .slice bo lb.length cb]) nb lb) := hid ⟨_, rfl, HMB.out.below b⟩
  clear hy e1 e2 xA xB b HMA HMB
  go_enter Tryz.func72, Tryz.ntmps72
  go_wp2_with fail
  try rw [HY.out]
  try rw [E2.out]
  try rw [E1.out]
  clear HY E1 E2
  obtain ⟨a0, a1, a2, a3⟩ := HXA.out.cells
  obtain ⟨b0, b1, b2, b3⟩ := HXB.out.cells
  go_region_with (first
    | (go_at_call 60
       refine (whole_sign (by first | exact HA.out | exact HBB.out)).mono ?_
       first | rw [HS.out] | rw [HT.out]
       rintro e wx ⟨rfl, hb⟩
       have HBn : Hid (Below w.heap.size w wx) := (by first | exact Below.trans HBel.out (Below.mono hb HBel.out.size) | exact Below.trans HBel.out.drew (Below.mono hb HBel.out.drew.size))
       clear HBel
       have HBel := HBn
       clear HBn a0 a1 a2 a3 b0 b1 b2 b3
       replace HA := hid (SeesZ.below (by exact HA.out) hb)
       replace HBB := hid (SeesZ.below (by exact HBB.out) hb)
       replace HXA := hid (Box.below (by exact HXA.out) hb)
       replace HXB := hid (Box.below (by exact HXB.out) hb)
       obtain ⟨a0, a1, a2, a3⟩ := HXA.out.cells
       obtain ⟨b0, b1, b2, b3⟩ := HXB.out.cells
       clear hb))
  all_goals
    go_wp2
    go_ret
    exact ⟨rfl, HBel.out⟩

set_option maxRecDepth 100000 in
set_option maxHeartbeats 2000000 in
theorem whole_cmp_c {va vb : Value} {na nb : Bool} {la lb : List Nat} {w : World} {s t : Int} (ha : SeesZ w va na la) (hb : SeesZ w vb nb lb) (hs : sgnI (zval na la) = s) (ht : sgnI (zval nb lb) = t) (h1 : ¬ s < t) (h2 : ¬ t < s) (h3 : s < 0) :
    Calls Tryz.prog 72 #[va, vb] w fun e w' => e = .returned (.int .i64 (cmpI (val lb) (val la))) ∧ Below w.heap.size w w' := by
  have HS := hid hs; have HT := hid ht
  clear hs ht
  obtain ⟨ma, rfl, hma⟩ := ha
  obtain ⟨mb, rfl, hmb⟩ := hb
  have HMA := hid hma; have HMB := hid hmb
  obtain ⟨ao, ca, rfl, -, -, -, -, -⟩ := hma
  obtain ⟨bo, cb, rfl, -, -, -, -, -⟩ := hmb
  obtain ⟨y, gA, gB, hy, b, e1, e2, xA, xB⟩ := two_boxes w (.bool na) (.slice ao la.length ca) (.bool nb) (.slice bo lb.length cb) 24
  have HY := hid hy.symm; have E1 := hid e1.symm; have E2 := hid e2.symm
  have HXA := hid xA; have HXB := hid xB
  have HBel := hid b
  have HA : Hid (SeesZ y (.agg #[.bool na, .slice ao la.length ca]) na la) := hid ⟨_, rfl, HMA.out.below b⟩
  have HBB : Hid (SeesZ y (.agg #[.bool nb, .slice bo lb.length cb]) nb lb) := hid ⟨_, rfl, HMB.out.below b⟩
  clear hy e1 e2 xA xB b HMA HMB
  go_enter Tryz.func72, Tryz.ntmps72
  go_wp2_with fail
  try rw [HY.out]
  try rw [E2.out]
  try rw [E1.out]
  clear HY E1 E2
  obtain ⟨a0, a1, a2, a3⟩ := HXA.out.cells
  obtain ⟨b0, b1, b2, b3⟩ := HXB.out.cells
  go_region_with (first
    | (go_at_call 60
       refine (whole_sign (by first | exact HA.out | exact HBB.out)).mono ?_
       first | rw [HS.out] | rw [HT.out]
       rintro e wx ⟨rfl, hb⟩
       have HBn : Hid (Below w.heap.size w wx) := (by first | exact Below.trans HBel.out (Below.mono hb HBel.out.size) | exact Below.trans HBel.out.drew (Below.mono hb HBel.out.drew.size))
       clear HBel
       have HBel := HBn
       clear HBn a0 a1 a2 a3 b0 b1 b2 b3
       replace HA := hid (SeesZ.below (by exact HA.out) hb)
       replace HBB := hid (SeesZ.below (by exact HBB.out) hb)
       replace HXA := hid (Box.below (by exact HXA.out) hb)
       replace HXB := hid (Box.below (by exact HXB.out) hb)
       obtain ⟨a0, a1, a2, a3⟩ := HXA.out.cells
       obtain ⟨b0, b1, b2, b3⟩ := HXB.out.cells
       clear hb))
  all_goals
    go_wp2_with fail
    obtain ⟨ma, hma, hsa⟩ := HBB.out
    obtain ⟨mb, hmb, hsb⟩ := HA.out
    simp at hma hmb
    subst hma; subst hmb
    refine (nat_cmp' hsa hsb).mono ?_
    rintro e wy ⟨rfl, hb⟩
    have HBn := hid (step_below HBel.out hb)
    clear hb hsa hsb
    go_wp2
    go_ret
    exact ⟨rfl, HBn.out⟩

set_option maxRecDepth 100000 in
set_option maxHeartbeats 2000000 in
theorem whole_cmp_d {va vb : Value} {na nb : Bool} {la lb : List Nat} {w : World} {s t : Int} (ha : SeesZ w va na la) (hb : SeesZ w vb nb lb) (hs : sgnI (zval na la) = s) (ht : sgnI (zval nb lb) = t) (h1 : ¬ s < t) (h2 : ¬ t < s) (h3 : ¬ s < 0) :
    Calls Tryz.prog 72 #[va, vb] w fun e w' => e = .returned (.int .i64 (cmpI (val la) (val lb))) ∧ Below w.heap.size w w' := by
  have HS := hid hs; have HT := hid ht
  clear hs ht
  obtain ⟨ma, rfl, hma⟩ := ha
  obtain ⟨mb, rfl, hmb⟩ := hb
  have HMA := hid hma; have HMB := hid hmb
  obtain ⟨ao, ca, rfl, -, -, -, -, -⟩ := hma
  obtain ⟨bo, cb, rfl, -, -, -, -, -⟩ := hmb
  obtain ⟨y, gA, gB, hy, b, e1, e2, xA, xB⟩ := two_boxes w (.bool na) (.slice ao la.length ca) (.bool nb) (.slice bo lb.length cb) 24
  have HY := hid hy.symm; have E1 := hid e1.symm; have E2 := hid e2.symm
  have HXA := hid xA; have HXB := hid xB
  have HBel := hid b
  have HA : Hid (SeesZ y (.agg #[.bool na, .slice ao la.length ca]) na la) := hid ⟨_, rfl, HMA.out.below b⟩
  have HBB : Hid (SeesZ y (.agg #[.bool nb, .slice bo lb.length cb]) nb lb) := hid ⟨_, rfl, HMB.out.below b⟩
  clear hy e1 e2 xA xB b HMA HMB
  go_enter Tryz.func72, Tryz.ntmps72
  go_wp2_with fail
  try rw [HY.out]
  try rw [E2.out]
  try rw [E1.out]
  clear HY E1 E2
  obtain ⟨a0, a1, a2, a3⟩ := HXA.out.cells
  obtain ⟨b0, b1, b2, b3⟩ := HXB.out.cells
  go_region_with (first
    | (go_at_call 60
       refine (whole_sign (by first | exact HA.out | exact HBB.out)).mono ?_
       first | rw [HS.out] | rw [HT.out]
       rintro e wx ⟨rfl, hb⟩
       have HBn : Hid (Below w.heap.size w wx) := (by first | exact Below.trans HBel.out (Below.mono hb HBel.out.size) | exact Below.trans HBel.out.drew (Below.mono hb HBel.out.drew.size))
       clear HBel
       have HBel := HBn
       clear HBn a0 a1 a2 a3 b0 b1 b2 b3
       replace HA := hid (SeesZ.below (by exact HA.out) hb)
       replace HBB := hid (SeesZ.below (by exact HBB.out) hb)
       replace HXA := hid (Box.below (by exact HXA.out) hb)
       replace HXB := hid (Box.below (by exact HXB.out) hb)
       obtain ⟨a0, a1, a2, a3⟩ := HXA.out.cells
       obtain ⟨b0, b1, b2, b3⟩ := HXB.out.cells
       clear hb))
  all_goals
    go_wp2_with fail
    obtain ⟨ma, hma, hsa⟩ := HA.out
    obtain ⟨mb, hmb, hsb⟩ := HBB.out
    simp at hma hmb
    subst hma; subst hmb
    refine (nat_cmp' hsa hsb).mono ?_
    rintro e wy ⟨rfl, hb⟩
    have HBn := hid (step_below HBel.out hb)
    clear hb hsa hsb
    go_wp2
    go_ret
    exact ⟨rfl, HBn.out⟩

theorem whole_cmp {va vb : Value} {na nb : Bool} {la lb : List Nat} {w : World} (ha : SeesZ w va na la) (hb : SeesZ w vb nb lb) :
    Calls Tryz.prog 72 #[va, vb] w fun e w' => e = .returned (.int .i64 (sgnI (zval na la - zval nb lb))) ∧ Below w.heap.size w w' := by
  have h := cmp_sign na nb la lb
  by_cases h1 : sgnI (zval na la) < sgnI (zval nb lb)
  · rw [h, if_pos h1]; exact whole_cmp_a ha hb rfl rfl h1
  · rw [if_neg h1] at h
    by_cases h2 : sgnI (zval nb lb) < sgnI (zval na la)
    · rw [h, if_pos h2]; exact whole_cmp_b ha hb rfl rfl h1 h2
    · rw [if_neg h2] at h
      by_cases h3 : sgnI (zval na la) < 0
      · rw [h, if_pos h3]; exact whole_cmp_c ha hb rfl rfl h1 h2 h3
      · rw [h, if_neg h3]; exact whole_cmp_d ha hb rfl rfl h1 h2 h3
end Go.Proofs.YtjnbonellgpjnaaGreat
