/- The document's over, Plain. -/
import Derived.Test.YtcogldhjkjiodaaKK
import Derived.Test.YtcogldhjkjiodaaKJ
set_option linter.unusedVariables false
set_option linter.unusedSimpArgs false
namespace Go.Proofs.Ytcogldhjkjiodaa
open Go.RowKit

theorem ref_makeQ (neg : Bool) (x : Nat) {m : Value} {w : World} (h : Sees w m (limbs x)) (hl : (limbs x).length ≤ 100001) (z : Int) (hz : z = if neg then -(x : Int) else (x : Int)) :
    Calls Try.prog 31 #[.bool neg, m] w fun e w' => IsInt w z e w' :=
  ref_make neg h (by omega) z (by rw [val_limbs]; exact hz)
theorem qnum_z (d : Nat) : qnum 0 d = 0 := by unfold qnum; split <;> simp
theorem qden_z {d : Nat} (h : 0 < d) : qden 0 d = 1 := by
  unfold qden; rw [if_neg (by omega)]; simp; exact Nat.div_self h
theorem zval_div (n : Bool) (l : List Nat) {G : Nat} (h : G ∣ val l) : zval n l / (G : Int) = if n then -((val l / G : Nat) : Int) else ((val l / G : Nat) : Int) := by
  have hd : (G : Int) ∣ (val l : Int) := Int.natCast_dvd_natCast.2 h
  cases n
  · rw [zval_false]; simp
  · rw [zval_true]; simp only [if_true]
    rw [Int.neg_ediv_of_dvd hd]; simp
theorem sgnI_zero_iff (z : Int) : (sgnI z = 0) ↔ z = 0 := by
  unfold sgnI
  constructor
  · intro h
    split at h
    · omega
    · split at h
      · assumption
      · omega
  · intro h; subst h; decide


set_option maxRecDepth 100000 in
set_option maxHeartbeats 2000000 in
theorem ref_over {a b : Value} {n : Bool} {l m : List Nat} {w : World} (ha : SeesZ w a n l) (hb : Sees w b m) (hl : l.length ≤ 100000) (hm : m.length ≤ 100000) (hp : 0 < val m) :
    Calls Try.prog 40 #[a, b] w fun e w' => IsRat w (qnum (zval n l) (val m)) (qden (zval n l) (val m)) e w' := by
  have hpm := hb.ok
  have hpl : Ok l := ha.ok
  obtain ⟨va, rfl, ha⟩ := ha
  obtain ⟨w0, hw0⟩ : ∃ x, x = (w.alloc (.cells #[.bool n, va] 24)).alloc (.cells #[.bool false, .slice none 0 0, .slice none 0 0] 26) := ⟨_, rfl⟩
  have hb0 : Below w.heap.size w w0 := by rw [hw0]; exact ((Below.refl _ w).alloc (Nat.le_refl _) _).alloc (by simp) _
  have hx0 : Blk w0 w.heap.size #[.bool n, va] := by rw [hw0]; exact (Blk.new w _ _).alloc _
  have hy0 : Blk w0 (w.heap.size + 1) #[.bool false, .slice none 0 0, .slice none 0 0] := by
    rw [hw0]
    have := Blk.new (w.alloc (.cells #[.bool n, va] 24)) #[.bool false, .slice none 0 0, .slice none 0 0] 26
    rwa [Deep.nblk_alloc] at this
  have HA := hid (ha.below hb0); have HB := hid (hb.below hb0)
  obtain ⟨aa, ca, rfl, -, -, -, -, -⟩ := ha
  obtain ⟨ab, cb, rfl, -, -, -, -, -⟩ := hb
  have HB0 := hid hb0; have HX0 := hid hy0; have HY0 := hid hx0; have HW := hid hw0.symm
  obtain ⟨r, hr⟩ : ∃ g, g = w.heap.size := ⟨_, rfl⟩
  obtain ⟨g, hg⟩ : ∃ r, r = w.heap.size + 1 := ⟨_, rfl⟩
  rw [← hg] at HX0
  rw [← hr] at HY0
  have HR : Hid (w.heap.size ≤ g) := hid (by omega)
  have HG := hid hg.symm; have HRR := hid hr.symm
  clear hb0 hx0 hy0 hw0 hg hr
  have HSG := hid (ref_sign (w := w0) (v := .agg #[.bool n, .slice aa l.length ca]) ⟨_, rfl, HA.out⟩ (by omega))
  have hsz := sgnI_zero_iff (zval n l)
  obtain ⟨s, hs⟩ : ∃ s, sgnI (zval n l) = s := ⟨_, rfl⟩
  rw [hs] at HSG hsz
  clear hs
  by_cases h0 : s = 0
  · rw [hsz.1 h0, qnum_z, qden_z hp]
    have hd : (s == (0 : Int)) = true := by simp [h0]
    clear h0 hsz
    go_enter Try.func40, Try.ntmps40
    obtain ⟨c0, c1, f0, f1⟩ := HY0.out.open2
    go_wp2_with fail
    rw [HW.out, HG.out, HRR.out]
    refine HSG.out.mono ?_
    rintro e w1 ⟨rfl, hb⟩
    have HB1 := hid (HB0.out.trans (hb.mono HB0.out.size)); have HX1 := hid (HX0.out.below hb); have HY1 := hid (HY0.out.below hb)
    have HA1 := hid (HA.out.below hb); have HBB1 := hid (HB.out.below hb)
    clear hb HB0 HX0 HY0 HA HB c0 c1 f0 f1 HW HSG
    clear HA1 HBB1 HY1
    go_wp2_with fail
    refine (ref_zero _).mono ?_
    rintro e w2 ⟨v2, rfl, hq, hb⟩
    have HB2 := hid (HB1.out.trans (hb.mono HB1.out.size)); have HX2 := hid (HX1.out.below hb)
    obtain ⟨ao, cap, bo, dap, rfl⟩ := hq.form
    obtain ⟨w7, hw7, hq7, hb7, k0, k1, k2⟩ := store3 HB2.out HR.out HX2.out hq
    have HQ := hid hq7; have HB7 := hid hb7; have HW7 := hid hw7
    obtain ⟨c0, c1, c2, f0, f1, f2⟩ := HX2.out.open3
    have hlt := HX2.out.lt
    clear hw7 hq7 hb7 hq hb HB1 HX1 HB2
    generalize zneg 0 = nb at *
    generalize zlim 0 = lb at *
    generalize limbs 1 = ld at *
    go_wp2
    rw [HW7.out]
    exact bodyPost_ret (v := .agg #[.bool nb, .slice ao lb.length cap, .slice bo ld.length dap]) (by simp [results, Try.results40, go_sem, k0, k1, k2]) rfl ⟨_, rfl, HQ.out, HB7.out⟩
  have hd : (s == (0 : Int)) = false := by simp [h0]
  have hb1 := bits_one (val m)
  obtain ⟨bv, hbv⟩ : ∃ b, bitsN (val m) = b := ⟨_, rfl⟩
  have HBV := hid hbv
  rw [hbv] at hb1
  clear h0 hsz hbv
  by_cases h1 : val m = 1
  · have hd1 : ((bv : Int) == (1 : Int)) = true := by simp [hb1.2 h1]
    rw [h1, qnum_one, qden_one]
    have HV := hid h1
    clear h1 hb1
    obtain ⟨z, hz⟩ : ∃ z, zval n l = z := ⟨_, rfl⟩
    have HZv := hid hz
    rw [hz]
    clear hz
    go_enter Try.func40, Try.ntmps40
    obtain ⟨c0, c1, f0, f1⟩ := HY0.out.open2
    go_wp2_with fail
    rw [HW.out, HG.out, HRR.out]
    refine HSG.out.mono ?_
    rintro e w1 ⟨rfl, hb⟩
    have HB1 := hid (HB0.out.trans (hb.mono HB0.out.size)); have HX1 := hid (HX0.out.below hb); have HY1 := hid (HY0.out.below hb)
    have HA1 := hid (HA.out.below hb); have HBB1 := hid (HB.out.below hb)
    clear hb HB0 HX0 HY0 HA HB c0 c1 f0 f1 HW HSG
    go_wp2_with fail
    refine (ref_bits _ _ _ HBB1.out (by omega)).mono ?_
    rw [HBV.out]
    rintro e w2 ⟨rfl, hb⟩
    have HB2 := hid (HB1.out.trans (hb.mono HB1.out.size)); have HX2 := hid (HX1.out.below hb); have HY2 := hid (HY1.out.below hb)
    have HA2 := hid (HA1.out.below hb); have HBB2 := hid (HBB1.out.below hb)
    clear hb HB1 HX1 HY1 HA1 HBB1
    obtain ⟨c0, c1, f0, f1⟩ := HY2.out.open2
    go_wp2_with fail
    refine (ref_plainZ ⟨_, rfl, HA2.out⟩ (by omega)).mono ?_
    rw [HZv.out]
    rintro e w3 ⟨v3, rfl, hz, hb⟩
    have HB3 := hid (HB2.out.trans (hb.mono HB2.out.size)); have HX3 := hid (HX2.out.below hb)
    have HZ3 := hid hz
    obtain ⟨ao, cap, rfl⟩ := hz.form
    clear hb hz HB2 HX2 HY2 HA2 HBB2 c0 c1 f0 f1
    go_wp2_with fail
    refine (ref_of 1 (by omega) (by omega) _).mono ?_
    rintro e w4 ⟨v4, rfl, hs, hb⟩
    change Sees w4 v4 (limbs 1) at hs
    have HB4 := hid (HB3.out.trans (hb.mono HB3.out.size)); have HX4 := hid (HX3.out.below hb)
    have HZ4 := hid (HZ3.out.below hb)
    have HS4 := hid hs
    obtain ⟨bo, dap, rfl, -, -, -, -, -⟩ := hs
    clear hb HB3 HX3 HZ3
    obtain ⟨w7, hw7, hq7, hb7, k0, k1, k2⟩ := store3 HB4.out (HR.out) HX4.out (isQ_of HZ4.out (d := 1) HS4.out)
    have HQ := hid hq7; have HB7 := hid hb7; have HW7 := hid hw7
    obtain ⟨c0, c1, c2, f0, f1, f2⟩ := HX4.out.open3
    have hlt := HX4.out.lt
    clear hw7 hq7 hb7 HB4 HZ4 HS4
    generalize zneg (z) = nb at *
    generalize zlim (z) = lb at *
    generalize limbs (1) = ld at *
    go_wp2
    rw [HW7.out]
    exact bodyPost_ret (v := .agg #[.bool nb, .slice ao lb.length cap, .slice bo ld.length dap]) (by simp [results, Try.results40, go_sem, k0, k1, k2]) rfl ⟨_, rfl, HQ.out, HB7.out⟩
  · have hd1 : ((bv : Int) == (1 : Int)) = false := beq_eq_false_iff_ne.2 (fun e => h1 (hb1.1 e))
    rw [qnum_pos (by omega), qden_pos (by omega)]
    have hgp : 0 < Nat.gcd (val l) (val m) := Nat.gcd_pos_of_pos_right _ hp
    have hgl : (limbs (Nat.gcd (val l) (val m))).length ≤ 100000 := by
      have := limbs_length_le (Nat.lt_of_le_of_lt (Nat.gcd_le_right (val l) hp) (val_lt hpm))
      omega
    have hql : (limbs (val l / Nat.gcd (val l) (val m))).length ≤ 100001 := by
      have := limbs_length_le (Nat.lt_of_le_of_lt (Nat.div_le_self (val l) (Nat.gcd (val l) (val m))) (val_lt hpl))
      omega
    have hz := zval_div n l (Nat.gcd_dvd_left (val l) (val m))
    rw [zval_abs]
    have HGP := hid hgp; have HGL := hid hgl; have HQL := hid hql
    clear h1 hb1 hgp hgl hql
    obtain ⟨G, hG⟩ : ∃ G, Nat.gcd (val l) (val m) = G := ⟨_, rfl⟩
    have HGV := hid hG
    rw [hG] at HGP HGL HQL hz ⊢
    clear hG
    obtain ⟨z, hz'⟩ : ∃ z, zval n l / (G : Int) = z := ⟨_, rfl⟩
    rw [hz'] at hz ⊢
    obtain ⟨D, hD⟩ : ∃ D, val m / G = D := ⟨_, rfl⟩
    have HDv := hid hD
    rw [hD]
    obtain ⟨Q, hQ⟩ : ∃ Q, val l / G = Q := ⟨_, rfl⟩
    have HQv := hid hQ
    rw [hQ] at HQL hz
    have HZe := hid hz
    clear hz' hD hQ hz
    go_enter Try.func40, Try.ntmps40
    obtain ⟨c0, c1, f0, f1⟩ := HY0.out.open2
    go_wp2_with fail
    rw [HW.out, HG.out, HRR.out]
    refine HSG.out.mono ?_
    rintro e w1 ⟨rfl, hb⟩
    have HB1 := hid (HB0.out.trans (hb.mono HB0.out.size)); have HX1 := hid (HX0.out.below hb); have HY1 := hid (HY0.out.below hb)
    have HA1 := hid (HA.out.below hb); have HBB1 := hid (HB.out.below hb)
    clear hb HB0 HX0 HY0 HA HB c0 c1 f0 f1 HW HSG
    go_wp2_with fail
    refine (ref_bits _ _ _ HBB1.out (by omega)).mono ?_
    rw [HBV.out]
    rintro e w2 ⟨rfl, hb⟩
    have HB2 := hid (HB1.out.trans (hb.mono HB1.out.size)); have HX2 := hid (HX1.out.below hb); have HY2 := hid (HY1.out.below hb)
    have HA2 := hid (HA1.out.below hb); have HBB2 := hid (HBB1.out.below hb)
    clear hb HB1 HX1 HY1 HA1 HBB1
    obtain ⟨c0, c1, f0, f1⟩ := HY2.out.open2
    go_wp2_with fail
    refine (ref_gcd HA2.out HBB2.out hl hm).mono ?_
    rw [HGV.out]
    rintro e w3 ⟨v3, rfl, hs, hb⟩
    have HB3 := hid (HB2.out.trans (hb.mono HB2.out.size)); have HX3 := hid (HX2.out.below hb); have HY3 := hid (HY2.out.below hb)
    have HA3 := hid (HA2.out.below hb); have HBB3 := hid (HBB2.out.below hb)
    have HS3 := hid hs
    obtain ⟨go, gap, rfl, -, -, -, -, -⟩ := hs
    clear hb HB2 HX2 HY2 HA2 HBB2 c0 c1 f0 f1
    obtain ⟨c0, c1, f0, f1⟩ := HY3.out.open2
    go_wp2_with fail
    refine (ref_div_pos HA3.out HS3.out (by omega) HGL.out (by rw [val_limbs]; exact HGP.out)).mono ?_
    rw [val_limbs, HQv.out]
    rintro e w4 ⟨q4, r4, rfl, hq, hr, hb⟩
    have HB4 := hid (HB3.out.trans (hb.mono HB3.out.size)); have HX4 := hid (HX3.out.below hb); have HY4 := hid (HY3.out.below hb)
    have HBB4 := hid (HBB3.out.below hb); have HS4 := hid (HS3.out.below hb)
    have HQ4 := hid hq
    obtain ⟨qo, qap, rfl, -, -, -, -, -⟩ := hq
    obtain ⟨ro, rap, rfl, -, -, -, -, -⟩ := hr
    clear hb HB3 HX3 HY3 HA3 HBB3 HS3 c0 c1 f0 f1
    obtain ⟨c0, c1, f0, f1⟩ := HY4.out.open2
    go_wp2_with fail
    refine (ref_div_pos HBB4.out HS4.out (by omega) HGL.out (by rw [val_limbs]; exact HGP.out)).mono ?_
    rw [val_limbs, HDv.out]
    rintro e w5 ⟨q5, r5, rfl, hq, hr, hb⟩
    have HB5 := hid (HB4.out.trans (hb.mono HB4.out.size)); have HX5 := hid (HX4.out.below hb); have HY5 := hid (HY4.out.below hb)
    have HQ5 := hid (HQ4.out.below hb); have HD5 := hid hq
    obtain ⟨bo, dap, rfl, -, -, -, -, -⟩ := hq
    obtain ⟨ro2, rap2, rfl, -, -, -, -, -⟩ := hr
    clear hb HB4 HX4 HY4 HBB4 HS4 HQ4 c0 c1 f0 f1
    obtain ⟨c0, c1, f0, f1⟩ := HY5.out.open2
    go_wp2_with fail
    refine (ref_makeQ n Q HQ5.out HQL.out z HZe.out).mono ?_
    rintro e w6 ⟨v6, rfl, hz, hb⟩
    have HB6 := hid (HB5.out.trans (hb.mono HB5.out.size)); have HX6 := hid (HX5.out.below hb)
    have HS6 := hid (HD5.out.below hb)
    have HZ6 := hid hz
    obtain ⟨ao, cap, rfl⟩ := hz.form
    clear hb hz HB5 HX5 HY5 HD5 HQ5 c0 c1 f0 f1
    obtain ⟨w7, hw7, hq7, hb7, k0, k1, k2⟩ := store3 HB6.out (HR.out) HX6.out (isQ_of HZ6.out (d := D) HS6.out)
    have HQ := hid hq7; have HB7 := hid hb7; have HW7 := hid hw7
    obtain ⟨c0, c1, c2, f0, f1, f2⟩ := HX6.out.open3
    have hlt := HX6.out.lt
    clear hw7 hq7 hb7 HB6 HZ6 HS6
    generalize zneg (z) = nb at *
    generalize zlim (z) = lb at *
    generalize limbs (D) = ld at *
    go_wp2
    rw [HW7.out]
    exact bodyPost_ret (v := .agg #[.bool nb, .slice ao lb.length cap, .slice bo ld.length dap]) (by simp [results, Try.results40, go_sem, k0, k1, k2]) rfl ⟨_, rfl, HQ.out, HB7.out⟩


set_option maxRecDepth 100000 in
set_option maxHeartbeats 2000000 in
theorem ref_plainQ {a : Value} {n : Bool} {l d : List Nat} {w : World} (ha : SeesQ w a n l d) (hl : l.length ≤ 100000) (hm : d.length ≤ 100000) :
    Calls Try.prog 16 #[a] w fun e w' => IsRat w (qnum (zval n l) (val d)) (qden (zval n l) (val d)) e w' := by
  obtain ⟨va, vd, rfl, ha, hb⟩ := ha
  obtain ⟨w0, hw0⟩ : ∃ x, x = (w.alloc (.cells #[.bool n, va, vd] 26)).alloc (.cells #[.bool false, .slice none 0 0, .slice none 0 0] 26) := ⟨_, rfl⟩
  have hb0 : Below w.heap.size w w0 := by rw [hw0]; exact ((Below.refl _ w).alloc (Nat.le_refl _) _).alloc (by simp) _
  have hx0 : Blk w0 w.heap.size #[.bool n, va, vd] := by rw [hw0]; exact (Blk.new w _ _).alloc _
  have hy0 : Blk w0 (w.heap.size + 1) #[.bool false, .slice none 0 0, .slice none 0 0] := by
    rw [hw0]
    have := Blk.new (w.alloc (.cells #[.bool n, va, vd] 26)) #[.bool false, .slice none 0 0, .slice none 0 0] 26
    rwa [Deep.nblk_alloc] at this
  have HA := hid (ha.below hb0); have HB := hid (hb.below hb0)
  obtain ⟨aa, ca, rfl, -, -, -, -, -⟩ := ha
  obtain ⟨ab, cb, rfl, -, -, -, -, -⟩ := hb
  have HB0 := hid hb0; have HX0 := hid hy0; have HY0 := hid hx0; have HW := hid hw0.symm
  obtain ⟨r, hr⟩ : ∃ g, g = w.heap.size := ⟨_, rfl⟩
  obtain ⟨g, hg⟩ : ∃ r, r = w.heap.size + 1 := ⟨_, rfl⟩
  rw [← hg] at HX0
  rw [← hr] at HY0
  have HR : Hid (w.heap.size ≤ g) := hid (by omega)
  have HG := hid hg.symm; have HRR := hid hr.symm
  clear hb0 hx0 hy0 hw0 hg hr
  obtain ⟨c0, c1, c2, f0, f1, f2⟩ := HY0.out.open3
  have hb1 := bits_zero (val d)
  have HBI := hid (ref_bits _ _ w0 HB.out (by omega))
  obtain ⟨bv, hbv⟩ : ∃ b, bitsN (val d) = b := ⟨_, rfl⟩
  rw [hbv] at hb1 HBI
  clear hbv
  by_cases h0 : val d = 0
  · have hd1 : ((bv : Int) == (0 : Int)) = true := by simp [hb1.2 h0]
    rw [h0, qnum_zero, qden_zero]
    clear h0 hb1
    go_enter Try.func16, Try.ntmps16
    go_wp2_with fail
    rw [HW.out, HG.out, HRR.out]
    refine HBI.out.mono ?_
    rintro e w1 ⟨rfl, hb⟩
    have HB1 := hid (HB0.out.trans (hb.mono HB0.out.size)); have HX1 := hid (HX0.out.below hb)
    clear hb c0 c1 c2 f0 f1 f2 HB0 HX0 HY0 HW HBI
    go_wp2_with fail
    refine (ref_zero _).mono ?_
    rintro e w2 ⟨v2, rfl, hq, hb⟩
    have HB2 := hid (HB1.out.trans (hb.mono HB1.out.size)); have HX2 := hid (HX1.out.below hb)
    obtain ⟨ao, cap, bo, dap, rfl⟩ := hq.form
    obtain ⟨w7, hw7, hq7, hb7, k0, k1, k2⟩ := store3 HB2.out HR.out HX2.out hq
    have HQ := hid hq7; have HB7 := hid hb7; have HW7 := hid hw7
    obtain ⟨c0, c1, c2, f0, f1, f2⟩ := HX2.out.open3
    have hlt := HX2.out.lt
    clear hw7 hq7 hb7 hq hb HB1 HX1 HB2
    generalize zneg 0 = nb at *
    generalize zlim 0 = lb at *
    generalize limbs 1 = ld at *
    go_wp2
    rw [HW7.out]
    exact bodyPost_ret (v := .agg #[.bool nb, .slice ao lb.length cap, .slice bo ld.length dap]) (by simp [results, Try.results16, go_sem, k0, k1, k2]) rfl ⟨_, rfl, HQ.out, HB7.out⟩
  · have hd1 : ((bv : Int) == (0 : Int)) = false := beq_eq_false_iff_ne.2 (fun e => h0 (hb1.1 e))
    have HC := hid (fun w (ha : Sees w (.slice aa l.length ca) l) (hb : Sees w (.slice ab d.length cb) d) => ref_over (w := w) (n := n) ⟨_, rfl, ha⟩ hb hl hm (by omega))
    clear h0 hb1
    generalize qnum (zval n l) (val d) = z at *
    generalize qden (zval n l) (val d) = D at *
    go_enter Try.func16, Try.ntmps16
    go_wp2_with fail
    rw [HW.out, HG.out, HRR.out]
    refine HBI.out.mono ?_
    rintro e w1 ⟨rfl, hb⟩
    have HB1 := hid (HB0.out.trans (hb.mono HB0.out.size)); have HX1 := hid (HX0.out.below hb); have HY1 := hid (HY0.out.below hb)
    have HA1 := hid (HA.out.below hb); have HBB1 := hid (HB.out.below hb)
    clear hb c0 c1 c2 f0 f1 f2 HB0 HX0 HY0 HW HBI HA HB
    obtain ⟨c0, c1, c2, f0, f1, f2⟩ := HY1.out.open3
    go_wp2_with fail
    refine (HC.out _ HA1.out HBB1.out).mono ?_
    rintro e w2 ⟨v2, rfl, hq, hb⟩
    clear c0 c1 c2 f0 f1 f2
    have HB2 := hid (HB1.out.trans (hb.mono HB1.out.size)); have HX2 := hid (HX1.out.below hb)
    obtain ⟨ao, cap, bo, dap, rfl⟩ := hq.form
    obtain ⟨w7, hw7, hq7, hb7, k0, k1, k2⟩ := store3 HB2.out HR.out HX2.out hq
    have HQ := hid hq7; have HB7 := hid hb7; have HW7 := hid hw7
    obtain ⟨c0, c1, c2, f0, f1, f2⟩ := HX2.out.open3
    have hlt := HX2.out.lt
    clear hw7 hq7 hb7 hq hb HB1 HX1 HB2 HC HY1
    generalize zneg z = nb at *
    generalize zlim z = lb at *
    generalize limbs D = ld at *
    go_wp2
    rw [HW7.out]
    exact bodyPost_ret (v := .agg #[.bool nb, .slice ao lb.length cap, .slice bo ld.length dap]) (by simp [results, Try.results16, go_sem, k0, k1, k2]) rfl ⟨_, rfl, HQ.out, HB7.out⟩

end Go.Proofs.Ytcogldhjkjiodaa
