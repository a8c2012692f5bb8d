/- The document's Add, Sub, Cmp; whole.Cmp. -/
import Derived.Test.YtjnibefigglcjaaDoorZ14
import Derived.Test.YtjnibefigglcjaaDoorRef3
set_option linter.unusedVariables false
set_option linter.unusedSimpArgs false
namespace Go.Proofs.YtjnibefigglcjaaDoor
open Go.RowKit

theorem sum_pow (x y N : Nat) (hx : x < 4294967296 ^ N) (hy : y < 4294967296 ^ N) : x + y < 4294967296 ^ (N + 1) := by
  rw [Nat.pow_succ]
  generalize 4294967296 ^ N = P at *
  omega
theorem sum_len {l m : List Nat} (hl : l.length ≤ 35184372087808) (hm : m.length ≤ 35184372087808) (h1 : Ok l) (h2 : Ok m) : (limbs (val l + val m)).length ≤ 35184372088000 := by
  obtain ⟨N, hN⟩ : ∃ N, N = 35184372087808 := ⟨_, rfl⟩
  rw [← hN] at hl hm
  have h := limbs_length_le (sum_pow (val l) (val m) N (Nat.lt_of_lt_of_le (val_lt h1) (Nat.pow_le_pow_right (by decide) hl)) (Nat.lt_of_lt_of_le (val_lt h2) (Nat.pow_le_pow_right (by decide) hm)))
  omega
theorem dif_len {l m : List Nat} (hl : l.length ≤ 35184372087808) (h1 : Ok l) : (limbs (val l - val m)).length ≤ 35184372088000 := by
  obtain ⟨N, hN⟩ : ∃ N, N = 35184372087808 := ⟨_, rfl⟩
  rw [← hN] at hl
  refine Nat.le_trans (m := N) ?_ (by omega)
  refine limbs_length_le (Nat.lt_of_le_of_lt (Nat.sub_le _ _) (Nat.lt_of_lt_of_le (val_lt h1) (Nat.pow_le_pow_right (by decide) hl)))
theorem zadd_same (n : Bool) (l m : List Nat) : zval n l + zval n m = if n then -((val l + val m : Nat) : Int) else ((val l + val m : Nat) : Int) := by
  cases n <;> simp [zval] <;> omega
theorem zadd_fst (n : Bool) (l m : List Nat) (h : val m ≤ val l) : zval n l + zval (!n) m = if n then -((val l - val m : Nat) : Int) else ((val l - val m : Nat) : Int) := by
  cases n <;> simp [zval] <;> omega
theorem zadd_snd (n : Bool) (l m : List Nat) (h : val l ≤ val m) : zval (!n) l + zval n m = if n then -((val m - val l : Nat) : Int) else ((val m - val l : Nat) : Int) := by
  cases n <;> simp [zval] <;> omega

set_option maxRecDepth 100000 in
set_option maxHeartbeats 2000000 in
theorem ref_add_same_true {va vb : Value} {la lb : List Nat} {w : World} (ha : SeesZ w va true la) (hb : SeesZ w vb true lb) (hla : la.length ≤ 35184372087808) (hlb : lb.length ≤ 35184372087808) :
    Calls Tryd.prog 98 #[va, vb] w fun e w' => IsInt w (zval true la + zval true lb) e w' := by
  obtain ⟨ma, rfl, hma⟩ := ha
  obtain ⟨mb, rfl, hmb⟩ := hb
  have HMA := hid hma; have HMB := hid hmb
  obtain ⟨ao, ca, rfl, -, -, -, -, -⟩ := hma
  obtain ⟨bo, cb, rfl, -, -, -, -, -⟩ := hmb
  obtain ⟨y, gA, gB, gR, hy, b, e1, e2, e3, xA, xB, xR⟩ := three_boxes w (.bool true) (.slice ao la.length ca) (.bool true) (.slice bo lb.length cb) (.bool false) (.slice none 0 0) 34
  have HY := hid hy.symm; have E1 := hid e1.symm; have E2 := hid e2.symm; have E3 := hid e3.symm
  have HXA := hid xA; have HXB := hid xB; have HXR := hid xR; have B0 := hid b; have HSA := hid (HMA.out.below b); have HSB := hid (HMB.out.below b)
  have HG : Hid (w.heap.size ≤ gR) := hid (by omega)
  clear hy e1 e2 e3 xA xB xR b HMA HMB
  have HZ := hid (zadd_same true la lb)
  have HL := hid (sum_len hla hlb HSA.out.ok HSB.out.ok)
  generalize zval true la + zval true lb = z at *
  go_enter Tryd.func98, Tryd.ntmps98
  go_wp2_with fail
  try rw [HY.out]
  try rw [E3.out]
  try rw [E2.out]
  try rw [E1.out]
  clear HY E1 E2 E3
  obtain ⟨a0, a1, a2, a3⟩ := HXA.out.cells
  obtain ⟨b0, b1, b2, b3⟩ := HXB.out.cells
  obtain ⟨r0, r1, r2, r3⟩ := HXR.out.cells
  go_region_with (first
    | (go_at_call 80; refine (ref_addV (by exact HSA.out) (by exact HSB.out) (by omega) (by omega)).mono ?_; rintro e w1 ⟨v1, rfl, hs1, hb1⟩
       have HXA1 := hid (Box.below (by exact HXA.out) hb1); have HXR1 := hid (Box.below (by exact HXR.out) hb1)
       have B1 := hid (B0.out.drew.trans (Below.mono hb1 B0.out.drew.size))
       have HS1 := hid hs1
       clear hs1 hb1 a0 a1 a2 a3 b0 b1 b2 b3 r0 r1 r2 r3
       obtain ⟨a0, a1, a2, a3⟩ := HXA1.out.cells)
    | (go_at_call 75; refine (ref_make true (by exact HS1.out) (by have := HL.out; omega) z (by rw [val_limbs]; exact HZ.out)).mono ?_; rintro e w2 ⟨v2, rfl, hz2, hb2⟩
       have HXR2 := hid (Box.below (by exact HXR1.out) hb2)
       have B2 := hid (B1.out.trans (Below.mono hb2 B1.out.size))
       have HZ2 := hid hz2
       obtain ⟨ao2, cap2, rfl⟩ := hz2.form
       obtain ⟨r0, r1, r2, r3⟩ := HXR2.out.cells
       have hlt := HXR2.out.lt
       clear hb2 hz2))
  all_goals
    have HR3 := hid (HXR2.out)
    obtain ⟨g1, g2, g3⟩ := store_end B2.out HG.out HR3.out HZ2.out
    obtain ⟨c0, c1, f0, f1⟩ := HR3.out.cells
    have hlt := HR3.out.lt
    have HG1 := hid g1
    clear HR3 HZ2 B2 HG HXR2 g1
    generalize zneg (z) = bb at *
    generalize zlim (z) = ll at *
    go_wp2
    exact bodyPost_ret (v := .agg #[.bool bb, .slice ao2 ll.length cap2]) (by simp [results, Tryd.results98, go_sem, g2, g3]) rfl HG1.out

set_option maxRecDepth 100000 in
set_option maxHeartbeats 2000000 in
theorem ref_add_same_false {va vb : Value} {la lb : List Nat} {w : World} (ha : SeesZ w va false la) (hb : SeesZ w vb false lb) (hla : la.length ≤ 35184372087808) (hlb : lb.length ≤ 35184372087808) :
    Calls Tryd.prog 98 #[va, vb] w fun e w' => IsInt w (zval false la + zval false lb) e w' := by
  obtain ⟨ma, rfl, hma⟩ := ha
  obtain ⟨mb, rfl, hmb⟩ := hb
  have HMA := hid hma; have HMB := hid hmb
  obtain ⟨ao, ca, rfl, -, -, -, -, -⟩ := hma
  obtain ⟨bo, cb, rfl, -, -, -, -, -⟩ := hmb
  obtain ⟨y, gA, gB, gR, hy, b, e1, e2, e3, xA, xB, xR⟩ := three_boxes w (.bool false) (.slice ao la.length ca) (.bool false) (.slice bo lb.length cb) (.bool false) (.slice none 0 0) 34
  have HY := hid hy.symm; have E1 := hid e1.symm; have E2 := hid e2.symm; have E3 := hid e3.symm
  have HXA := hid xA; have HXB := hid xB; have HXR := hid xR; have B0 := hid b; have HSA := hid (HMA.out.below b); have HSB := hid (HMB.out.below b)
  have HG : Hid (w.heap.size ≤ gR) := hid (by omega)
  clear hy e1 e2 e3 xA xB xR b HMA HMB
  have HZ := hid (zadd_same false la lb)
  have HL := hid (sum_len hla hlb HSA.out.ok HSB.out.ok)
  generalize zval false la + zval false lb = z at *
  go_enter Tryd.func98, Tryd.ntmps98
  go_wp2_with fail
  try rw [HY.out]
  try rw [E3.out]
  try rw [E2.out]
  try rw [E1.out]
  clear HY E1 E2 E3
  obtain ⟨a0, a1, a2, a3⟩ := HXA.out.cells
  obtain ⟨b0, b1, b2, b3⟩ := HXB.out.cells
  obtain ⟨r0, r1, r2, r3⟩ := HXR.out.cells
  go_region_with (first
    | (go_at_call 80; refine (ref_addV (by exact HSA.out) (by exact HSB.out) (by omega) (by omega)).mono ?_; rintro e w1 ⟨v1, rfl, hs1, hb1⟩
       have HXA1 := hid (Box.below (by exact HXA.out) hb1); have HXR1 := hid (Box.below (by exact HXR.out) hb1)
       have B1 := hid (B0.out.drew.trans (Below.mono hb1 B0.out.drew.size))
       have HS1 := hid hs1
       clear hs1 hb1 a0 a1 a2 a3 b0 b1 b2 b3 r0 r1 r2 r3
       obtain ⟨a0, a1, a2, a3⟩ := HXA1.out.cells)
    | (go_at_call 75; refine (ref_make false (by exact HS1.out) (by have := HL.out; omega) z (by rw [val_limbs]; exact HZ.out)).mono ?_; rintro e w2 ⟨v2, rfl, hz2, hb2⟩
       have HXR2 := hid (Box.below (by exact HXR1.out) hb2)
       have B2 := hid (B1.out.trans (Below.mono hb2 B1.out.size))
       have HZ2 := hid hz2
       obtain ⟨ao2, cap2, rfl⟩ := hz2.form
       obtain ⟨r0, r1, r2, r3⟩ := HXR2.out.cells
       have hlt := HXR2.out.lt
       clear hb2 hz2))
  all_goals
    have HR3 := hid (HXR2.out)
    obtain ⟨g1, g2, g3⟩ := store_end B2.out HG.out HR3.out HZ2.out
    obtain ⟨c0, c1, f0, f1⟩ := HR3.out.cells
    have hlt := HR3.out.lt
    have HG1 := hid g1
    clear HR3 HZ2 B2 HG HXR2 g1
    generalize zneg (z) = bb at *
    generalize zlim (z) = ll at *
    go_wp2
    exact bodyPost_ret (v := .agg #[.bool bb, .slice ao2 ll.length cap2]) (by simp [results, Tryd.results98, go_sem, g2, g3]) rfl HG1.out

set_option maxRecDepth 100000 in
set_option maxHeartbeats 2000000 in
theorem ref_add_fst_true {va vb : Value} {la lb : List Nat} {w : World} (ha : SeesZ w va true la) (hb : SeesZ w vb false lb) (hla : la.length ≤ 35184372087808) (hlb : lb.length ≤ 35184372087808) (hv : val lb ≤ val la) :
    Calls Tryd.prog 98 #[va, vb] w fun e w' => IsInt w (zval true la + zval false lb) e w' := by
  obtain ⟨ma, rfl, hma⟩ := ha
  obtain ⟨mb, rfl, hmb⟩ := hb
  have HMA := hid hma; have HMB := hid hmb
  obtain ⟨ao, ca, rfl, -, -, -, -, -⟩ := hma
  obtain ⟨bo, cb, rfl, -, -, -, -, -⟩ := hmb
  obtain ⟨y, gA, gB, gR, hy, b, e1, e2, e3, xA, xB, xR⟩ := three_boxes w (.bool true) (.slice ao la.length ca) (.bool false) (.slice bo lb.length cb) (.bool false) (.slice none 0 0) 34
  have HY := hid hy.symm; have E1 := hid e1.symm; have E2 := hid e2.symm; have E3 := hid e3.symm
  have HXA := hid xA; have HXB := hid xB; have HXR := hid xR; have B0 := hid b; have HSA := hid (HMA.out.below b); have HSB := hid (HMB.out.below b)
  have HG : Hid (w.heap.size ≤ gR) := hid (by omega)
  clear hy e1 e2 e3 xA xB xR b HMA HMB
  have HZ := hid (zadd_fst true la lb hv)
  have HL := hid (dif_len (m := lb) hla HSA.out.ok)
  have HV := hid hv
  simp only [Bool.not_true, Bool.not_false] at HZ
  generalize zval true la + zval false lb = z at *
  clear hv
  go_enter Tryd.func98, Tryd.ntmps98
  go_wp2_with fail
  try rw [HY.out]
  try rw [E3.out]
  try rw [E2.out]
  try rw [E1.out]
  clear HY E1 E2 E3
  refine (ref_sub_ok _ _ _ _ la lb _ HSA.out HSB.out (by omega) HV.out).mono ?_
  rintro e w1 ⟨v1, rfl, hs1, hb1⟩
  have HXA1 := hid (HXA.out.below hb1); have HXB1 := hid (HXB.out.below hb1); have HXR1 := hid (HXR.out.below hb1)
  have B1 := hid (step_below B0.out hb1)
  have HS1 := hid hs1
  clear hs1 hb1
  obtain ⟨a0, a1, a2, a3⟩ := HXA1.out.cells
  obtain ⟨b0, b1, b2, b3⟩ := HXB1.out.cells
  go_wp2_with fail
  refine (ref_make true HS1.out (by have := HL.out; omega) z (by rw [val_limbs]; exact HZ.out)).mono ?_
  rintro e w2 ⟨v2, rfl, hz2, hb2⟩
  have HXR2 := hid (HXR1.out.below hb2)
  have B2 := hid (step_below B1.out hb2)
  have HZ2 := hid hz2
  obtain ⟨ao2, cap2, rfl⟩ := hz2.form
  clear hb2 hz2 a0 a1 a2 a3 b0 b1 b2 b3 HS1 HZ
  have HR3 := hid (HXR2.out)
  obtain ⟨g1, g2, g3⟩ := store_end B2.out HG.out HR3.out HZ2.out
  obtain ⟨c0, c1, f0, f1⟩ := HR3.out.cells
  have hlt := HR3.out.lt
  have HG1 := hid g1
  clear HR3 HZ2 B2 HG HXR2 g1
  generalize zneg (z) = bb at *
  generalize zlim (z) = ll at *
  go_wp2
  exact bodyPost_ret (v := .agg #[.bool bb, .slice ao2 ll.length cap2]) (by simp [results, Tryd.results98, go_sem, g2, g3]) rfl HG1.out

set_option maxRecDepth 100000 in
set_option maxHeartbeats 2000000 in
theorem ref_add_snd_true {va vb : Value} {la lb : List Nat} {w : World} (ha : SeesZ w va false la) (hb : SeesZ w vb true lb) (hla : la.length ≤ 35184372087808) (hlb : lb.length ≤ 35184372087808) (hv : val la < val lb) :
    Calls Tryd.prog 98 #[va, vb] w fun e w' => IsInt w (zval false la + zval true lb) e w' := by
  obtain ⟨ma, rfl, hma⟩ := ha
  obtain ⟨mb, rfl, hmb⟩ := hb
  have HMA := hid hma; have HMB := hid hmb
  obtain ⟨ao, ca, rfl, -, -, -, -, -⟩ := hma
  obtain ⟨bo, cb, rfl, -, -, -, -, -⟩ := hmb
  obtain ⟨y, gA, gB, gR, hy, b, e1, e2, e3, xA, xB, xR⟩ := three_boxes w (.bool false) (.slice ao la.length ca) (.bool true) (.slice bo lb.length cb) (.bool false) (.slice none 0 0) 34
  have HY := hid hy.symm; have E1 := hid e1.symm; have E2 := hid e2.symm; have E3 := hid e3.symm
  have HXA := hid xA; have HXB := hid xB; have HXR := hid xR; have B0 := hid b; have HSA := hid (HMA.out.below b); have HSB := hid (HMB.out.below b)
  have HG : Hid (w.heap.size ≤ gR) := hid (by omega)
  clear hy e1 e2 e3 xA xB xR b HMA HMB
  have HZ := hid (zadd_snd true la lb (by omega))
  have HL := hid (dif_len (m := la) hlb HSB.out.ok)
  have HV := hid hv
  simp only [Bool.not_true, Bool.not_false] at HZ
  generalize zval false la + zval true lb = z at *
  clear hv
  go_enter Tryd.func98, Tryd.ntmps98
  go_wp2_with fail
  try rw [HY.out]
  try rw [E3.out]
  try rw [E2.out]
  try rw [E1.out]
  clear HY E1 E2 E3
  refine (ref_sub_no _ _ _ _ la lb _ HSA.out HSB.out HV.out).mono ?_
  rintro e w0 ⟨rfl, rfl⟩
  obtain ⟨a0, a1, a2, a3⟩ := HXA.out.cells
  obtain ⟨b0, b1, b2, b3⟩ := HXB.out.cells
  obtain ⟨r0, r1, r2, r3⟩ := HXR.out.cells
  go_wp2_with fail
  clear a0 a1 a2 a3 b0 b1 b2 b3 r0 r1 r2 r3
  refine (ref_sub_ok _ _ _ _ lb la _ HSB.out HSA.out (by omega) (by have := HV.out; omega)).mono ?_
  rintro e w1 ⟨v1, rfl, hs1, hb1⟩
  have HXA1 := hid (HXA.out.below hb1); have HXB1 := hid (HXB.out.below hb1); have HXR1 := hid (HXR.out.below hb1)
  have B1 := hid (step_below B0.out hb1)
  have HS1 := hid hs1
  clear hs1 hb1
  obtain ⟨a0, a1, a2, a3⟩ := HXA1.out.cells
  obtain ⟨b0, b1, b2, b3⟩ := HXB1.out.cells
  go_wp2_with fail
  refine (ref_make true HS1.out (by have := HL.out; omega) z (by rw [val_limbs]; exact HZ.out)).mono ?_
  rintro e w2 ⟨v2, rfl, hz2, hb2⟩
  have HXR2 := hid (HXR1.out.below hb2)
  have B2 := hid (step_below B1.out hb2)
  have HZ2 := hid hz2
  obtain ⟨ao2, cap2, rfl⟩ := hz2.form
  clear hb2 hz2 a0 a1 a2 a3 b0 b1 b2 b3 HS1 HZ
  have HR3 := hid (HXR2.out)
  obtain ⟨g1, g2, g3⟩ := store_end B2.out HG.out HR3.out HZ2.out
  obtain ⟨c0, c1, f0, f1⟩ := HR3.out.cells
  have hlt := HR3.out.lt
  have HG1 := hid g1
  clear HR3 HZ2 B2 HG HXR2 g1
  generalize zneg (z) = bb at *
  generalize zlim (z) = ll at *
  go_wp2
  exact bodyPost_ret (v := .agg #[.bool bb, .slice ao2 ll.length cap2]) (by simp [results, Tryd.results98, go_sem, g2, g3]) rfl HG1.out

set_option maxRecDepth 100000 in
set_option maxHeartbeats 2000000 in
theorem ref_add_fst_false {va vb : Value} {la lb : List Nat} {w : World} (ha : SeesZ w va false la) (hb : SeesZ w vb true lb) (hla : la.length ≤ 35184372087808) (hlb : lb.length ≤ 35184372087808) (hv : val lb ≤ val la) :
    Calls Tryd.prog 98 #[va, vb] w fun e w' => IsInt w (zval false la + zval true lb) e w' := by
  obtain ⟨ma, rfl, hma⟩ := ha
  obtain ⟨mb, rfl, hmb⟩ := hb
  have HMA := hid hma; have HMB := hid hmb
  obtain ⟨ao, ca, rfl, -, -, -, -, -⟩ := hma
  obtain ⟨bo, cb, rfl, -, -, -, -, -⟩ := hmb
  obtain ⟨y, gA, gB, gR, hy, b, e1, e2, e3, xA, xB, xR⟩ := three_boxes w (.bool false) (.slice ao la.length ca) (.bool true) (.slice bo lb.length cb) (.bool false) (.slice none 0 0) 34
  have HY := hid hy.symm; have E1 := hid e1.symm; have E2 := hid e2.symm; have E3 := hid e3.symm
  have HXA := hid xA; have HXB := hid xB; have HXR := hid xR; have B0 := hid b; have HSA := hid (HMA.out.below b); have HSB := hid (HMB.out.below b)
  have HG : Hid (w.heap.size ≤ gR) := hid (by omega)
  clear hy e1 e2 e3 xA xB xR b HMA HMB
  have HZ := hid (zadd_fst false la lb hv)
  have HL := hid (dif_len (m := lb) hla HSA.out.ok)
  have HV := hid hv
  simp only [Bool.not_true, Bool.not_false] at HZ
  generalize zval false la + zval true lb = z at *
  clear hv
  go_enter Tryd.func98, Tryd.ntmps98
  go_wp2_with fail
  try rw [HY.out]
  try rw [E3.out]
  try rw [E2.out]
  try rw [E1.out]
  clear HY E1 E2 E3
  refine (ref_sub_ok _ _ _ _ la lb _ HSA.out HSB.out (by omega) HV.out).mono ?_
  rintro e w1 ⟨v1, rfl, hs1, hb1⟩
  have HXA1 := hid (HXA.out.below hb1); have HXB1 := hid (HXB.out.below hb1); have HXR1 := hid (HXR.out.below hb1)
  have B1 := hid (step_below B0.out hb1)
  have HS1 := hid hs1
  clear hs1 hb1
  obtain ⟨a0, a1, a2, a3⟩ := HXA1.out.cells
  obtain ⟨b0, b1, b2, b3⟩ := HXB1.out.cells
  go_wp2_with fail
  refine (ref_make false HS1.out (by have := HL.out; omega) z (by rw [val_limbs]; exact HZ.out)).mono ?_
  rintro e w2 ⟨v2, rfl, hz2, hb2⟩
  have HXR2 := hid (HXR1.out.below hb2)
  have B2 := hid (step_below B1.out hb2)
  have HZ2 := hid hz2
  obtain ⟨ao2, cap2, rfl⟩ := hz2.form
  clear hb2 hz2 a0 a1 a2 a3 b0 b1 b2 b3 HS1 HZ
  have HR3 := hid (HXR2.out)
  obtain ⟨g1, g2, g3⟩ := store_end B2.out HG.out HR3.out HZ2.out
  obtain ⟨c0, c1, f0, f1⟩ := HR3.out.cells
  have hlt := HR3.out.lt
  have HG1 := hid g1
  clear HR3 HZ2 B2 HG HXR2 g1
  generalize zneg (z) = bb at *
  generalize zlim (z) = ll at *
  go_wp2
  exact bodyPost_ret (v := .agg #[.bool bb, .slice ao2 ll.length cap2]) (by simp [results, Tryd.results98, go_sem, g2, g3]) rfl HG1.out

set_option maxRecDepth 100000 in
set_option maxHeartbeats 2000000 in
theorem ref_add_snd_false {va vb : Value} {la lb : List Nat} {w : World} (ha : SeesZ w va true la) (hb : SeesZ w vb false lb) (hla : la.length ≤ 35184372087808) (hlb : lb.length ≤ 35184372087808) (hv : val la < val lb) :
    Calls Tryd.prog 98 #[va, vb] w fun e w' => IsInt w (zval true la + zval false lb) e w' := by
  obtain ⟨ma, rfl, hma⟩ := ha
  obtain ⟨mb, rfl, hmb⟩ := hb
  have HMA := hid hma; have HMB := hid hmb
  obtain ⟨ao, ca, rfl, -, -, -, -, -⟩ := hma
  obtain ⟨bo, cb, rfl, -, -, -, -, -⟩ := hmb
  obtain ⟨y, gA, gB, gR, hy, b, e1, e2, e3, xA, xB, xR⟩ := three_boxes w (.bool true) (.slice ao la.length ca) (.bool false) (.slice bo lb.length cb) (.bool false) (.slice none 0 0) 34
  have HY := hid hy.symm; have E1 := hid e1.symm; have E2 := hid e2.symm; have E3 := hid e3.symm
  have HXA := hid xA; have HXB := hid xB; have HXR := hid xR; have B0 := hid b; have HSA := hid (HMA.out.below b); have HSB := hid (HMB.out.below b)
  have HG : Hid (w.heap.size ≤ gR) := hid (by omega)
  clear hy e1 e2 e3 xA xB xR b HMA HMB
  have HZ := hid (zadd_snd false la lb (by omega))
  have HL := hid (dif_len (m := la) hlb HSB.out.ok)
  have HV := hid hv
  simp only [Bool.not_true, Bool.not_false] at HZ
  generalize zval true la + zval false lb = z at *
  clear hv
  go_enter Tryd.func98, Tryd.ntmps98
  go_wp2_with fail
  try rw [HY.out]
  try rw [E3.out]
  try rw [E2.out]
  try rw [E1.out]
  clear HY E1 E2 E3
  refine (ref_sub_no _ _ _ _ la lb _ HSA.out HSB.out HV.out).mono ?_
  rintro e w0 ⟨rfl, rfl⟩
  obtain ⟨a0, a1, a2, a3⟩ := HXA.out.cells
  obtain ⟨b0, b1, b2, b3⟩ := HXB.out.cells
  obtain ⟨r0, r1, r2, r3⟩ := HXR.out.cells
  go_wp2_with fail
  clear a0 a1 a2 a3 b0 b1 b2 b3 r0 r1 r2 r3
  refine (ref_sub_ok _ _ _ _ lb la _ HSB.out HSA.out (by omega) (by have := HV.out; omega)).mono ?_
  rintro e w1 ⟨v1, rfl, hs1, hb1⟩
  have HXA1 := hid (HXA.out.below hb1); have HXB1 := hid (HXB.out.below hb1); have HXR1 := hid (HXR.out.below hb1)
  have B1 := hid (step_below B0.out hb1)
  have HS1 := hid hs1
  clear hs1 hb1
  obtain ⟨a0, a1, a2, a3⟩ := HXA1.out.cells
  obtain ⟨b0, b1, b2, b3⟩ := HXB1.out.cells
  go_wp2_with fail
  refine (ref_make false HS1.out (by have := HL.out; omega) z (by rw [val_limbs]; exact HZ.out)).mono ?_
  rintro e w2 ⟨v2, rfl, hz2, hb2⟩
  have HXR2 := hid (HXR1.out.below hb2)
  have B2 := hid (step_below B1.out hb2)
  have HZ2 := hid hz2
  obtain ⟨ao2, cap2, rfl⟩ := hz2.form
  clear hb2 hz2 a0 a1 a2 a3 b0 b1 b2 b3 HS1 HZ
  have HR3 := hid (HXR2.out)
  obtain ⟨g1, g2, g3⟩ := store_end B2.out HG.out HR3.out HZ2.out
  obtain ⟨c0, c1, f0, f1⟩ := HR3.out.cells
  have hlt := HR3.out.lt
  have HG1 := hid g1
  clear HR3 HZ2 B2 HG HXR2 g1
  generalize zneg (z) = bb at *
  generalize zlim (z) = ll at *
  go_wp2
  exact bodyPost_ret (v := .agg #[.bool bb, .slice ao2 ll.length cap2]) (by simp [results, Tryd.results98, go_sem, g2, g3]) rfl HG1.out

theorem ref_addZ {va vb : Value} {na nb : Bool} {la lb : List Nat} {w : World} (ha : SeesZ w va na la) (hb : SeesZ w vb nb lb) (hla : la.length ≤ 35184372087808) (hlb : lb.length ≤ 35184372087808) :
    Calls Tryd.prog 98 #[va, vb] w fun e w' => IsInt w (zval na la + zval nb lb) e w' := by
  rcases Nat.lt_or_ge (val la) (val lb) with h | h <;> cases na <;> cases nb
  · exact ref_add_same_false ha hb hla hlb
  · exact ref_add_snd_true ha hb hla hlb h
  · exact ref_add_snd_false ha hb hla hlb h
  · exact ref_add_same_true ha hb hla hlb
  · exact ref_add_same_false ha hb hla hlb
  · exact ref_add_fst_false ha hb hla hlb h
  · exact ref_add_fst_true ha hb hla hlb h
  · exact ref_add_same_true ha hb hla hlb
end Go.Proofs.YtjnibefigglcjaaDoor
