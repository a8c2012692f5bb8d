/- The document's over, Plain. The document's Parse of one text, Text of one fraction. What each statement of layer 4 asks first: 'awake' answers true. -/
import Derived.Test.YtjnbonellgpjnaaGreatKK
import Derived.Test.YtjnbonellgpjnaaGreatKJ
import Derived.Test.YtjnbonellgpjnaaGreatKG
import Derived.Test.YtjnbonellgpjnaaGreatKO
set_option linter.unusedVariables false
set_option linter.unusedSimpArgs false
namespace Go.Proofs.YtjnbonellgpjnaaGreat
open Go.RowKit

theorem ref_makeQ (neg : Bool) (x : Nat) {m : Value} {w : World} (h : Sees w m (limbs x)) (hl : (limbs x).length ≤ 100001) (z : Int) (hz : z = if neg then -(x : Int) else (x : Int)) :
    Calls Tryz.prog 76 #[.bool neg, m] w fun e w' => IsInt w z e w' :=
  ref_make neg h (by omega) z (by rw [val_limbs]; exact hz)
theorem qnum_z (d : Nat) : qnum 0 d = 0 := by unfold qnum; split <;> simp
theorem qden_z {d : Nat} (h : 0 < d) : qden 0 d = 1 := by
  unfold qden; rw [if_neg (by omega)]; simp; exact Nat.div_self h
theorem zval_div (n : Bool) (l : List Nat) {G : Nat} (h : G ∣ val l) : zval n l / (G : Int) = if n then -((val l / G : Nat) : Int) else ((val l / G : Nat) : Int) := by
  have hd : (G : Int) ∣ (val l : Int) := Int.natCast_dvd_natCast.2 h
  cases n
  · rw [zval_false]; simp
  · rw [zval_true]; simp only [if_true]
    rw [Int.neg_ediv_of_dvd hd]; simp
theorem sgnI_zero_iff (z : Int) : (sgnI z = 0) ↔ z = 0 := by
  unfold sgnI
  constructor
  · intro h
    split at h
    · omega
    · split at h
      · assumption
      · omega
  · intro h; subst h; decide


set_option maxRecDepth 100000 in
set_option maxHeartbeats 2000000 in
theorem ref_over {a b : Value} {n : Bool} {l m : List Nat} {w : World} (ha : SeesZ w a n l) (hb : Sees w b m) (hl : l.length ≤ 100000) (hm : m.length ≤ 100000) (hp : 0 < val m) :
    Calls Tryz.prog 49 #[a, b] w fun e w' => IsRat w (qnum (zval n l) (val m)) (qden (zval n l) (val m)) e w' := by
  have hpm := hb.ok
  have hpl : Ok l := ha.ok
  obtain ⟨va, rfl, ha⟩ := ha
  obtain ⟨w0, hw0⟩ : ∃ x, x = (w.alloc (.cells #[.bool n, va] 24)).alloc (.cells #[.bool false, .slice none 0 0, .slice none 0 0] 26) := ⟨_, rfl⟩
  have hb0 : Below w.heap.size w w0 := by rw [hw0]; exact ((Below.refl _ w).alloc (Nat.le_refl _) _).alloc (by simp) _
  have hx0 : Blk w0 w.heap.size #[.bool n, va] := by rw [hw0]; exact (Blk.new w _ _).alloc _
  have hy0 : Blk w0 (w.heap.size + 1) #[.bool false, .slice none 0 0, .slice none 0 0] := by
    rw [hw0]
    have := Blk.new (w.alloc (.cells #[.bool n, va] 24)) #[.bool false, .slice none 0 0, .slice none 0 0] 26
    rwa [Deep.nblk_alloc] at this
  have HA := hid (ha.below hb0); have HB := hid (hb.below hb0)
  obtain ⟨aa, ca, rfl, -, -, -, -, -⟩ := ha
  obtain ⟨ab, cb, rfl, -, -, -, -, -⟩ := hb
  have HB0 := hid hb0; have HX0 := hid hy0; have HY0 := hid hx0; have HW := hid hw0.symm
  obtain ⟨r, hr⟩ : ∃ g, g = w.heap.size := ⟨_, rfl⟩
  obtain ⟨g, hg⟩ : ∃ r, r = w.heap.size + 1 := ⟨_, rfl⟩
  rw [← hg] at HX0
  rw [← hr] at HY0
  have HR : Hid (w.heap.size ≤ g) := hid (by omega)
  have HG := hid hg.symm; have HRR := hid hr.symm
  clear hb0 hx0 hy0 hw0 hg hr
  have HSG := hid (ref_sign (w := w0) (v := .agg #[.bool n, .slice aa l.length ca]) ⟨_, rfl, HA.out⟩ (by omega))
  have hsz := sgnI_zero_iff (zval n l)
  obtain ⟨s, hs⟩ : ∃ s, sgnI (zval n l) = s := ⟨_, rfl⟩
  rw [hs] at HSG hsz
  clear hs
  by_cases h0 : s = 0
  · rw [hsz.1 h0, qnum_z, qden_z hp]
    have hd : (s == (0 : Int)) = true := by simp [h0]
    clear h0 hsz
    go_enter Tryz.func49, Tryz.ntmps49
    obtain ⟨c0, c1, f0, f1⟩ := HY0.out.open2
    go_wp2_with fail
    rw [HW.out, HG.out, HRR.out]
    refine HSG.out.mono ?_
    rintro e w1 ⟨rfl, hb⟩
    have HB1 := hid (HB0.out.trans (hb.mono HB0.out.size)); have HX1 := hid (HX0.out.below hb); have HY1 := hid (HY0.out.below hb)
    have HA1 := hid (HA.out.below hb); have HBB1 := hid (HB.out.below hb)
    clear hb HB0 HX0 HY0 HA HB c0 c1 f0 f1 HW HSG
    clear HA1 HBB1 HY1
    go_wp2_with fail
    refine (ref_zero _).mono ?_
    rintro e w2 ⟨v2, rfl, hq, hb⟩
    have HB2 := hid (HB1.out.trans (hb.mono HB1.out.size)); have HX2 := hid (HX1.out.below hb)
    obtain ⟨ao, cap, bo, dap, rfl⟩ := hq.form
    obtain ⟨w7, hw7, hq7, hb7, k0, k1, k2⟩ := store3 HB2.out HR.out HX2.out hq
    have HQ := hid hq7; have HB7 := hid hb7; have HW7 := hid hw7
    obtain ⟨c0, c1, c2, f0, f1, f2⟩ := HX2.out.open3
    have hlt := HX2.out.lt
    clear hw7 hq7 hb7 hq hb HB1 HX1 HB2
    generalize zneg 0 = nb at *
    generalize zlim 0 = lb at *
    generalize limbs 1 = ld at *
    go_wp2
    rw [HW7.out]
    exact bodyPost_ret (v := .agg #[.bool nb, .slice ao lb.length cap, .slice bo ld.length dap]) (by simp [results, Tryz.results49, go_sem, k0, k1, k2]) rfl ⟨_, rfl, HQ.out, HB7.out⟩
  have hd : (s == (0 : Int)) = false := by simp [h0]
  have hb1 := bits_one (val m)
  obtain ⟨bv, hbv⟩ : ∃ b, bitsN (val m) = b := ⟨_, rfl⟩
  have HBV := hid hbv
  rw [hbv] at hb1
  clear h0 hsz hbv
  by_cases h1 : val m = 1
  · have hd1 : ((bv : Int) == (1 : Int)) = true := by simp [hb1.2 h1]
    rw [h1, qnum_one, qden_one]
    have HV := hid h1
    clear h1 hb1
    obtain ⟨z, hz⟩ : ∃ z, zval n l = z := ⟨_, rfl⟩
    have HZv := hid hz
    rw [hz]
    clear hz
    go_enter Tryz.func49, Tryz.ntmps49
    obtain ⟨c0, c1, f0, f1⟩ := HY0.out.open2
    go_wp2_with fail
    rw [HW.out, HG.out, HRR.out]
    refine HSG.out.mono ?_
    rintro e w1 ⟨rfl, hb⟩
    have HB1 := hid (HB0.out.trans (hb.mono HB0.out.size)); have HX1 := hid (HX0.out.below hb); have HY1 := hid (HY0.out.below hb)
    have HA1 := hid (HA.out.below hb); have HBB1 := hid (HB.out.below hb)
    clear hb HB0 HX0 HY0 HA HB c0 c1 f0 f1 HW HSG
    go_wp2_with fail
    refine (ref_bits _ _ _ HBB1.out (by omega)).mono ?_
    rw [HBV.out]
    rintro e w2 ⟨rfl, hb⟩
    have HB2 := hid (HB1.out.trans (hb.mono HB1.out.size)); have HX2 := hid (HX1.out.below hb); have HY2 := hid (HY1.out.below hb)
    have HA2 := hid (HA1.out.below hb); have HBB2 := hid (HBB1.out.below hb)
    clear hb HB1 HX1 HY1 HA1 HBB1
    obtain ⟨c0, c1, f0, f1⟩ := HY2.out.open2
    go_wp2_with fail
    refine (ref_plainZ ⟨_, rfl, HA2.out⟩ (by omega)).mono ?_
    rw [HZv.out]
    rintro e w3 ⟨v3, rfl, hz, hb⟩
    have HB3 := hid (HB2.out.trans (hb.mono HB2.out.size)); have HX3 := hid (HX2.out.below hb)
    have HZ3 := hid hz
    obtain ⟨ao, cap, rfl⟩ := hz.form
    clear hb hz HB2 HX2 HY2 HA2 HBB2 c0 c1 f0 f1
    go_wp2_with fail
    refine (ref_of 1 (by omega) (by omega) _).mono ?_
    rintro e w4 ⟨v4, rfl, hs, hb⟩
    change Sees w4 v4 (limbs 1) at hs
    have HB4 := hid (HB3.out.trans (hb.mono HB3.out.size)); have HX4 := hid (HX3.out.below hb)
    have HZ4 := hid (HZ3.out.below hb)
    have HS4 := hid hs
    obtain ⟨bo, dap, rfl, -, -, -, -, -⟩ := hs
    clear hb HB3 HX3 HZ3
    obtain ⟨w7, hw7, hq7, hb7, k0, k1, k2⟩ := store3 HB4.out (HR.out) HX4.out (isQ_of HZ4.out (d := 1) HS4.out)
    have HQ := hid hq7; have HB7 := hid hb7; have HW7 := hid hw7
    obtain ⟨c0, c1, c2, f0, f1, f2⟩ := HX4.out.open3
    have hlt := HX4.out.lt
    clear hw7 hq7 hb7 HB4 HZ4 HS4
    generalize zneg (z) = nb at *
    generalize zlim (z) = lb at *
    generalize limbs (1) = ld at *
    go_wp2
    rw [HW7.out]
    exact bodyPost_ret (v := .agg #[.bool nb, .slice ao lb.length cap, .slice bo ld.length dap]) (by simp [results, Tryz.results49, go_sem, k0, k1, k2]) rfl ⟨_, rfl, HQ.out, HB7.out⟩
  · have hd1 : ((bv : Int) == (1 : Int)) = false := beq_eq_false_iff_ne.2 (fun e => h1 (hb1.1 e))
    rw [qnum_pos (by omega), qden_pos (by omega)]
    have hgp : 0 < Nat.gcd (val l) (val m) := Nat.gcd_pos_of_pos_right _ hp
    have hgl : (limbs (Nat.gcd (val l) (val m))).length ≤ 100000 := by
      have := limbs_length_le (Nat.lt_of_le_of_lt (Nat.gcd_le_right (val l) hp) (val_lt hpm))
      omega
    have hql : (limbs (val l / Nat.gcd (val l) (val m))).length ≤ 100001 := by
      have := limbs_length_le (Nat.lt_of_le_of_lt (Nat.div_le_self (val l) (Nat.gcd (val l) (val m))) (val_lt hpl))
      omega
    have hz := zval_div n l (Nat.gcd_dvd_left (val l) (val m))
    rw [zval_abs]
    have HGP := hid hgp; have HGL := hid hgl; have HQL := hid hql
    clear h1 hb1 hgp hgl hql
    obtain ⟨G, hG⟩ : ∃ G, Nat.gcd (val l) (val m) = G := ⟨_, rfl⟩
    have HGV := hid hG
    rw [hG] at HGP HGL HQL hz ⊢
    clear hG
    obtain ⟨z, hz'⟩ : ∃ z, zval n l / (G : Int) = z := ⟨_, rfl⟩
    rw [hz'] at hz ⊢
    obtain ⟨D, hD⟩ : ∃ D, val m / G = D := ⟨_, rfl⟩
    have HDv := hid hD
    rw [hD]
    obtain ⟨Q, hQ⟩ : ∃ Q, val l / G = Q := ⟨_, rfl⟩
    have HQv := hid hQ
    rw [hQ] at HQL hz
    have HZe := hid hz
    clear hz' hD hQ hz
    go_enter Tryz.func49, Tryz.ntmps49
    obtain ⟨c0, c1, f0, f1⟩ := HY0.out.open2
    go_wp2_with fail
    rw [HW.out, HG.out, HRR.out]
    refine HSG.out.mono ?_
    rintro e w1 ⟨rfl, hb⟩
    have HB1 := hid (HB0.out.trans (hb.mono HB0.out.size)); have HX1 := hid (HX0.out.below hb); have HY1 := hid (HY0.out.below hb)
    have HA1 := hid (HA.out.below hb); have HBB1 := hid (HB.out.below hb)
    clear hb HB0 HX0 HY0 HA HB c0 c1 f0 f1 HW HSG
    go_wp2_with fail
    refine (ref_bits _ _ _ HBB1.out (by omega)).mono ?_
    rw [HBV.out]
    rintro e w2 ⟨rfl, hb⟩
    have HB2 := hid (HB1.out.trans (hb.mono HB1.out.size)); have HX2 := hid (HX1.out.below hb); have HY2 := hid (HY1.out.below hb)
    have HA2 := hid (HA1.out.below hb); have HBB2 := hid (HBB1.out.below hb)
    clear hb HB1 HX1 HY1 HA1 HBB1
    obtain ⟨c0, c1, f0, f1⟩ := HY2.out.open2
    go_wp2_with fail
    refine (ref_gcd HA2.out HBB2.out hl hm).mono ?_
    rw [HGV.out]
    rintro e w3 ⟨v3, rfl, hs, hb⟩
    have HB3 := hid (HB2.out.trans (hb.mono HB2.out.size)); have HX3 := hid (HX2.out.below hb); have HY3 := hid (HY2.out.below hb)
    have HA3 := hid (HA2.out.below hb); have HBB3 := hid (HBB2.out.below hb)
    have HS3 := hid hs
    obtain ⟨go, gap, rfl, -, -, -, -, -⟩ := hs
    clear hb HB2 HX2 HY2 HA2 HBB2 c0 c1 f0 f1
    obtain ⟨c0, c1, f0, f1⟩ := HY3.out.open2
    go_wp2_with fail
    refine (ref_div_pos HA3.out HS3.out (by omega) HGL.out (by rw [val_limbs]; exact HGP.out)).mono ?_
    rw [val_limbs, HQv.out]
    rintro e w4 ⟨q4, r4, rfl, hq, hr, hb⟩
    have HB4 := hid (HB3.out.trans (hb.mono HB3.out.size)); have HX4 := hid (HX3.out.below hb); have HY4 := hid (HY3.out.below hb)
    have HBB4 := hid (HBB3.out.below hb); have HS4 := hid (HS3.out.below hb)
    have HQ4 := hid hq
    obtain ⟨qo, qap, rfl, -, -, -, -, -⟩ := hq
    obtain ⟨ro, rap, rfl, -, -, -, -, -⟩ := hr
    clear hb HB3 HX3 HY3 HA3 HBB3 HS3 c0 c1 f0 f1
    obtain ⟨c0, c1, f0, f1⟩ := HY4.out.open2
    go_wp2_with fail
    refine (ref_div_pos HBB4.out HS4.out (by omega) HGL.out (by rw [val_limbs]; exact HGP.out)).mono ?_
    rw [val_limbs, HDv.out]
    rintro e w5 ⟨q5, r5, rfl, hq, hr, hb⟩
    have HB5 := hid (HB4.out.trans (hb.mono HB4.out.size)); have HX5 := hid (HX4.out.below hb); have HY5 := hid (HY4.out.below hb)
    have HQ5 := hid (HQ4.out.below hb); have HD5 := hid hq
    obtain ⟨bo, dap, rfl, -, -, -, -, -⟩ := hq
    obtain ⟨ro2, rap2, rfl, -, -, -, -, -⟩ := hr
    clear hb HB4 HX4 HY4 HBB4 HS4 HQ4 c0 c1 f0 f1
    obtain ⟨c0, c1, f0, f1⟩ := HY5.out.open2
    go_wp2_with fail
    refine (ref_makeQ n Q HQ5.out HQL.out z HZe.out).mono ?_
    rintro e w6 ⟨v6, rfl, hz, hb⟩
    have HB6 := hid (HB5.out.trans (hb.mono HB5.out.size)); have HX6 := hid (HX5.out.below hb)
    have HS6 := hid (HD5.out.below hb)
    have HZ6 := hid hz
    obtain ⟨ao, cap, rfl⟩ := hz.form
    clear hb hz HB5 HX5 HY5 HD5 HQ5 c0 c1 f0 f1
    obtain ⟨w7, hw7, hq7, hb7, k0, k1, k2⟩ := store3 HB6.out (HR.out) HX6.out (isQ_of HZ6.out (d := D) HS6.out)
    have HQ := hid hq7; have HB7 := hid hb7; have HW7 := hid hw7
    obtain ⟨c0, c1, c2, f0, f1, f2⟩ := HX6.out.open3
    have hlt := HX6.out.lt
    clear hw7 hq7 hb7 HB6 HZ6 HS6
    generalize zneg (z) = nb at *
    generalize zlim (z) = lb at *
    generalize limbs (D) = ld at *
    go_wp2
    rw [HW7.out]
    exact bodyPost_ret (v := .agg #[.bool nb, .slice ao lb.length cap, .slice bo ld.length dap]) (by simp [results, Tryz.results49, go_sem, k0, k1, k2]) rfl ⟨_, rfl, HQ.out, HB7.out⟩


set_option maxRecDepth 100000 in
set_option maxHeartbeats 2000000 in
theorem ref_plainQ {a : Value} {n : Bool} {l d : List Nat} {w : World} (ha : SeesQ w a n l d) (hl : l.length ≤ 100000) (hm : d.length ≤ 100000) :
    Calls Tryz.prog 21 #[a] w fun e w' => IsRat w (qnum (zval n l) (val d)) (qden (zval n l) (val d)) e w' := by
  obtain ⟨va, vd, rfl, ha, hb⟩ := ha
  obtain ⟨w0, hw0⟩ : ∃ x, x = (w.alloc (.cells #[.bool n, va, vd] 26)).alloc (.cells #[.bool false, .slice none 0 0, .slice none 0 0] 26) := ⟨_, rfl⟩
  have hb0 : Below w.heap.size w w0 := by rw [hw0]; exact ((Below.refl _ w).alloc (Nat.le_refl _) _).alloc (by simp) _
  have hx0 : Blk w0 w.heap.size #[.bool n, va, vd] := by rw [hw0]; exact (Blk.new w _ _).alloc _
  have hy0 : Blk w0 (w.heap.size + 1) #[.bool false, .slice none 0 0, .slice none 0 0] := by
    rw [hw0]
    have := Blk.new (w.alloc (.cells #[.bool n, va, vd] 26)) #[.bool false, .slice none 0 0, .slice none 0 0] 26
    rwa [Deep.nblk_alloc] at this
  have HA := hid (ha.below hb0); have HB := hid (hb.below hb0)
  obtain ⟨aa, ca, rfl, -, -, -, -, -⟩ := ha
  obtain ⟨ab, cb, rfl, -, -, -, -, -⟩ := hb
  have HB0 := hid hb0; have HX0 := hid hy0; have HY0 := hid hx0; have HW := hid hw0.symm
  obtain ⟨r, hr⟩ : ∃ g, g = w.heap.size := ⟨_, rfl⟩
  obtain ⟨g, hg⟩ : ∃ r, r = w.heap.size + 1 := ⟨_, rfl⟩
  rw [← hg] at HX0
  rw [← hr] at HY0
  have HR : Hid (w.heap.size ≤ g) := hid (by omega)
  have HG := hid hg.symm; have HRR := hid hr.symm
  clear hb0 hx0 hy0 hw0 hg hr
  obtain ⟨c0, c1, c2, f0, f1, f2⟩ := HY0.out.open3
  have hb1 := bits_zero (val d)
  have HBI := hid (ref_bits _ _ w0 HB.out (by omega))
  obtain ⟨bv, hbv⟩ : ∃ b, bitsN (val d) = b := ⟨_, rfl⟩
  rw [hbv] at hb1 HBI
  clear hbv
  by_cases h0 : val d = 0
  · have hd1 : ((bv : Int) == (0 : Int)) = true := by simp [hb1.2 h0]
    rw [h0, qnum_zero, qden_zero]
    clear h0 hb1
    go_enter Tryz.func21, Tryz.ntmps21
    go_wp2_with fail
    rw [HW.out, HG.out, HRR.out]
    refine HBI.out.mono ?_
    rintro e w1 ⟨rfl, hb⟩
    have HB1 := hid (HB0.out.trans (hb.mono HB0.out.size)); have HX1 := hid (HX0.out.below hb)
    clear hb c0 c1 c2 f0 f1 f2 HB0 HX0 HY0 HW HBI
    go_wp2_with fail
    refine (ref_zero _).mono ?_
    rintro e w2 ⟨v2, rfl, hq, hb⟩
    have HB2 := hid (HB1.out.trans (hb.mono HB1.out.size)); have HX2 := hid (HX1.out.below hb)
    obtain ⟨ao, cap, bo, dap, rfl⟩ := hq.form
    obtain ⟨w7, hw7, hq7, hb7, k0, k1, k2⟩ := store3 HB2.out HR.out HX2.out hq
    have HQ := hid hq7; have HB7 := hid hb7; have HW7 := hid hw7
    obtain ⟨c0, c1, c2, f0, f1, f2⟩ := HX2.out.open3
    have hlt := HX2.out.lt
    clear hw7 hq7 hb7 hq hb HB1 HX1 HB2
    generalize zneg 0 = nb at *
    generalize zlim 0 = lb at *
    generalize limbs 1 = ld at *
    go_wp2
    rw [HW7.out]
    exact bodyPost_ret (v := .agg #[.bool nb, .slice ao lb.length cap, .slice bo ld.length dap]) (by simp [results, Tryz.results21, go_sem, k0, k1, k2]) rfl ⟨_, rfl, HQ.out, HB7.out⟩
  · have hd1 : ((bv : Int) == (0 : Int)) = false := beq_eq_false_iff_ne.2 (fun e => h0 (hb1.1 e))
    have HC := hid (fun w (ha : Sees w (.slice aa l.length ca) l) (hb : Sees w (.slice ab d.length cb) d) => ref_over (w := w) (n := n) ⟨_, rfl, ha⟩ hb hl hm (by omega))
    clear h0 hb1
    generalize qnum (zval n l) (val d) = z at *
    generalize qden (zval n l) (val d) = D at *
    go_enter Tryz.func21, Tryz.ntmps21
    go_wp2_with fail
    rw [HW.out, HG.out, HRR.out]
    refine HBI.out.mono ?_
    rintro e w1 ⟨rfl, hb⟩
    have HB1 := hid (HB0.out.trans (hb.mono HB0.out.size)); have HX1 := hid (HX0.out.below hb); have HY1 := hid (HY0.out.below hb)
    have HA1 := hid (HA.out.below hb); have HBB1 := hid (HB.out.below hb)
    clear hb c0 c1 c2 f0 f1 f2 HB0 HX0 HY0 HW HBI HA HB
    obtain ⟨c0, c1, c2, f0, f1, f2⟩ := HY1.out.open3
    go_wp2_with fail
    refine (HC.out _ HA1.out HBB1.out).mono ?_
    rintro e w2 ⟨v2, rfl, hq, hb⟩
    clear c0 c1 c2 f0 f1 f2
    have HB2 := hid (HB1.out.trans (hb.mono HB1.out.size)); have HX2 := hid (HX1.out.below hb)
    obtain ⟨ao, cap, bo, dap, rfl⟩ := hq.form
    obtain ⟨w7, hw7, hq7, hb7, k0, k1, k2⟩ := store3 HB2.out HR.out HX2.out hq
    have HQ := hid hq7; have HB7 := hid hb7; have HW7 := hid hw7
    obtain ⟨c0, c1, c2, f0, f1, f2⟩ := HX2.out.open3
    have hlt := HX2.out.lt
    clear hw7 hq7 hb7 hq hb HB1 HX1 HB2 HC HY1
    generalize zneg z = nb at *
    generalize zlim z = lb at *
    generalize limbs D = ld at *
    go_wp2
    rw [HW7.out]
    exact bodyPost_ret (v := .agg #[.bool nb, .slice ao lb.length cap, .slice bo ld.length dap]) (by simp [results, Tryz.results21, go_sem, k0, k1, k2]) rfl ⟨_, rfl, HQ.out, HB7.out⟩

end Go.Proofs.YtjnbonellgpjnaaGreat

set_option linter.unusedVariables false
set_option linter.unusedSimpArgs false
namespace Go.Proofs.YtjnbonellgpjnaaGreat
open Go.RowKit

theorem err_one : errZ ⟨#[49]⟩ = 0 ∧ valZ ⟨#[49]⟩ = 1 := by
  have e : textZ 1 = ⟨#[49]⟩ := by decide
  rw [← e]
  exact parse_text 1 (by decide)
theorem err_three : errT ⟨#[51]⟩ = 0 ∧ lstT ⟨#[51]⟩ = limbs 3 := by
  have e : textOf 3 = ⟨#[51]⟩ := by decide
  rw [← e]
  have := errT_ok (textOf_numeral 3) (by decide)
  rw [textOf_num] at this
  exact this

set_option maxRecDepth 100000 in
set_option maxHeartbeats 1000000 in
theorem ref_parse_third (w : World) : Calls Tryz.prog 22 #[.string ⟨#[49, 47, 51]⟩] w fun e w' => ∃ v, e = .returned (.tuple #[v, .int .i64 0]) ∧ IsQ w' v 1 3 ∧ Below w.heap.size w w' := by
  obtain ⟨w0, hw0⟩ : ∃ x, x = w.alloc (.cells #[.bool false, .slice none 0 0, .slice none 0 0] 26) := ⟨_, rfl⟩
  have hb0 : Below w.heap.size w w0 := by rw [hw0]; exact (Below.refl _ w).alloc (Nat.le_refl _) _
  have hx0 : Blk w0 w.heap.size #[.bool false, .slice none 0 0, .slice none 0 0] := by rw [hw0]; exact Blk.new ..
  have HB0 := hid hb0
  have HX0 := hid hx0
  have HW := hid hw0.symm
  obtain ⟨g, hg⟩ : ∃ g, g = w.heap.size := ⟨_, rfl⟩
  rw [← hg] at HX0
  have HG := hid hg.symm
  clear hb0 hx0 hw0 hg
  go_enter Tryz.func22, Tryz.ntmps22
  go_wp2_with fail
  rw [HW.out, HG.out]
  go_loop [4] (fun v => v = .int .i64 0 ∨ v = .int .i64 1) (fun v => 1 - (intOf v).toNat)
  case atStart => exact Or.inl rfl
  case round =>
    rcases hrel with rfl | rfl
    · go_wp2_with fail
      exact ⟨Or.inr rfl, by decide⟩
    · go_wp2_with fail
      rw [show (({ data := #[49, 47, 51] } : ByteArray).extract 0 1) = ⟨#[49]⟩ by decide]
      refine (ref_parseZ ⟨#[49]⟩ _ (by decide)).mono ?_
      rintro e w1 ⟨v1, rfl, hz, hb⟩
      rw [err_one.2] at hz
      have he0 : ((errZ ⟨#[49]⟩ : Nat) : Int) = 0 := by rw [err_one.1]; rfl
      have HB1 := hid (HB0.out.trans (hb.mono HB0.out.size)); have HX1 := hid (HX0.out.below hb)
      have HZ1 := hid hz
      obtain ⟨ao, ac, rfl⟩ := hz.form
      obtain ⟨wd, hwd⟩ : ∃ y, y = w1.alloc (.cells #[.bool (zneg 1), .slice ao (zlim 1).length ac] 24) := ⟨_, rfl⟩
      have hbd : Below w1.heap.size w1 wd := by rw [hwd]; exact (Below.refl _ w1).alloc (Nat.le_refl _) _
      have hxd : Blk wd w1.heap.size #[.bool (zneg 1), .slice ao (zlim 1).length ac] := by rw [hwd]; exact Blk.new ..
      have HBd := hid (HB1.out.trans (hbd.mono HB1.out.size)); have HXd := hid (HX1.out.below hbd); have HZd := hid (HZ1.out.below hbd)
      have HWd := hid hwd.symm
      have HYd := hid hxd
      obtain ⟨q, hq⟩ : ∃ q, q = w1.heap.size := ⟨_, rfl⟩
      rw [← hq] at HYd
      have HQ := hid hq.symm
      clear hb hz hwd hbd hxd HB0 HX0 HB1 HX1 HZ1 HW hq
      generalize zneg 1 = nb at *
      generalize zlim 1 = lb at *
      go_wp2_with fail
      rw [HWd.out, HQ.out]
      rw [show (({ data := #[49, 47, 51] } : ByteArray).extract 2 3) = ⟨#[51]⟩ by decide]
      refine (ref_parse_any ⟨#[51]⟩ _ (by decide)).mono ?_
      rintro e w2 ⟨v2, rfl, hs, hb⟩
      rw [err_three.2] at hs
      have he3 : ((errT ⟨#[51]⟩ : Nat) : Int) = 0 := by rw [err_three.1]; rfl
      have HB2 := hid (HBd.out.trans (hb.mono HBd.out.size)); have HX2 := hid (HXd.out.below hb); have HZ2 := hid (HZd.out.below hb)
      have HY2 := hid (HYd.out.below hb)
      have HS2 := hid hs
      have hlen : (((limbs 3).length : Nat) : Int) = 1 := by decide
      obtain ⟨bo, bc, rfl, -, -, -, -, -⟩ := hs
      clear hb HBd HXd HZd HYd HWd he0
      obtain ⟨c0, c1, f0, f1⟩ := HY2.out.open2
      go_wp2_with fail
      refine (ref_over (HZ2.out.sees) HS2.out (by decide) (by decide) (by decide)).mono ?_
      rw [zval_plain, val_limbs, show qnum 1 3 = 1 by decide, show qden 1 3 = 3 by decide]
      rintro e w3 ⟨v3, rfl, hq, hb⟩
      have HB3 := hid (HB2.out.trans (hb.mono HB2.out.size)); have HX3 := hid (HX2.out.below hb)
      obtain ⟨po, pc, qo, qc, rfl⟩ := hq.form
      obtain ⟨w7, hw7, hq7, hb7, k0, k1, k2⟩ := store3 HB3.out (by rw [HG.out]; exact Nat.le_refl _) HX3.out hq
      have HQ7 := hid hq7; have HB7 := hid hb7; have HW7 := hid hw7
      clear c0 c1 f0 f1
      obtain ⟨c0, c1, c2, f0, f1, f2⟩ := HX3.out.open3
      have hlt := HX3.out.lt
      clear hw7 hq7 hb7 hq hb HB2 HX2 HZ2 HY2 HS2 HB3 he3 hlen
      generalize zneg 1 = nb2 at *
      generalize zlim 1 = lb2 at *
      generalize limbs 3 = ld at *
      go_wp2
      rw [HW7.out]
      exact bodyPost_ret (v := .tuple #[.agg #[.bool nb2, .slice po lb2.length pc, .slice qo ld.length qc], .int .i64 0]) (by simp [results, Tryz.results22, go_sem, k0, k1, k2]) rfl ⟨_, rfl, HQ7.out, HB7.out⟩

/-- Two lists of one limb, 2 and 1. -/
theorem ref_same_no (a b : Value) (w : World) (ha : Sees w a (limbs 2)) (hb : Sees w b (limbs 1)) :
    Calls Tryz.prog 55 #[a, b] w fun e w' => e = .returned (.bool false) ∧ Below w.heap.size w w' := by
  rw [show limbs 2 = [2] by decide] at ha
  rw [show limbs 1 = [1] by decide] at hb
  have hA := ha
  have hB := hb
  obtain ⟨A, ca, rfl, _, _, _, _, _⟩ := ha
  obtain ⟨B, cb, rfl, _, _, _, _, _⟩ := hb
  have HA := hid hA; have HB := hid hB
  clear hA hB
  go_enter Tryz.func55, Tryz.ntmps55
  go_wp2
  go_loopw [5] (fun v wr => ∃ m : Nat, v = .int .i64 0 ∧ wr = w.drewN m) (fun v _ => 1 - (intOf v).toNat)
  case atStart => exact ⟨0, rfl, rfl⟩
  case round =>
    obtain ⟨m, rfl, rfl⟩ := hrel
    obtain ⟨b1, o1, rfl, hc1'⟩ := HA.out.at (by decide)
    obtain ⟨b2, o2, rfl, hc2'⟩ := HB.out.at (by decide)
    have hc1 : w.cell? ⟨b1, o1, none⟩ = some (.int .u32 2) := hc1' 0 (by decide)
    have hc2 : w.cell? ⟨b2, o2, none⟩ = some (.int .u32 1) := hc2' 0 (by decide)
    clear hc1' hc2'
    go_wp2
    go_quiet (fail)
    go_wp2
    go_ret
    exact ⟨rfl, below_drewN (below_drewN (Below.refl _ _) _) _⟩

set_option maxRecDepth 100000 in
set_option maxHeartbeats 2000000 in
theorem ref_text_half {v : Value} {w : World} (h : IsQ w v 1 2) : Calls Tryz.prog 24 #[v] w fun e w' => e = .returned (.string ⟨#[49, 47, 50]⟩) ∧ Below w.heap.size w w' := by
  have hQ := h
  obtain ⟨ao, ac, bo, bc, rfl⟩ := h.form
  obtain ⟨w0, hw0⟩ : ∃ x, x = w.alloc (.cells #[.bool (zneg 1), .slice ao (zlim 1).length ac, .slice bo (limbs 2).length bc] 26) := ⟨_, rfl⟩
  have hb0 : Below w.heap.size w w0 := by rw [hw0]; exact (Below.refl _ w).alloc (Nat.le_refl _) _
  have hx0 : Blk w0 w.heap.size #[.bool (zneg 1), .slice ao (zlim 1).length ac, .slice bo (limbs 2).length bc] := by rw [hw0]; exact Blk.new ..
  have HC := hid (ref_plainQ (w := w0) (hQ.below hb0) (by decide) (by decide))
  rw [zval_plain, val_limbs, show qnum 1 2 = 1 by decide, show qden 1 2 = 2 by decide] at HC
  have HB0 := hid hb0
  have HX0 := hid hx0
  have HW := hid hw0.symm
  obtain ⟨g, hg⟩ : ∃ g, g = w.heap.size := ⟨_, rfl⟩
  rw [← hg] at HX0
  have HG := hid hg.symm
  clear hb0 hx0 hw0 hg h hQ
  obtain ⟨c0, c1, c2, f0, f1, f2⟩ := HX0.out.open3
  go_enter Tryz.func24, Tryz.ntmps24
  go_wp2_with fail
  rw [HW.out, HG.out]
  refine HC.out.mono ?_
  rintro e w1 ⟨v1, rfl, hq, hb⟩
  have HB1 := hid (HB0.out.trans (hb.mono HB0.out.size)); have HX1 := hid (HX0.out.below hb)
  obtain ⟨co, cc, eo, ec, rfl⟩ := hq.form
  obtain ⟨w2, hw2, hq2, hb2, k0, k1, k2⟩ := store3 HB1.out (by rw [HG.out]; exact Nat.le_refl _) HX1.out hq
  have hy2 : Blk w2 g #[.bool (zneg 1), .slice co (zlim 1).length cc, .slice eo (limbs 2).length ec] := by rw [← hw2]; exact st3_blk HX1.out _ _ _
  have HY2 := hid hy2; have HB2 := hid hb2; have HW2 := hid hw2
  obtain ⟨m2, u2, e2, hm2, hu2⟩ := hq2
  simp only [Value.agg.injEq, Array.mk.injEq, List.cons.injEq, and_true, true_and] at e2
  obtain ⟨e3, e4⟩ := e2
  subst e3; subst e4
  have HM2 := hid hm2; have HU2 := hid hu2
  clear c0 c1 c2 f0 f1 f2 hw2 hb2 hq hb hy2 hm2 hu2 HB0 HX0 HC HW k0 k1 k2
  obtain ⟨c0, c1, c2, f0, f1, f2⟩ := HX1.out.open3
  have hlt := HX1.out.lt
  have hlt2 := HY2.out.lt
  have HT := hid (ref_textZ (w := w2) (n := zneg 1) (l := zlim 1) ⟨_, rfl, HM2.out⟩ (by decide))
  rw [zval_plain, show textZ 1 = ⟨#[49]⟩ by decide] at HT
  obtain ⟨d0, d1, d2, j0, j1, j2⟩ := HY2.out.open3
  clear HB1
  generalize zneg 1 = nb at *
  generalize zlim 1 = lb at *
  go_wp2_with fail
  rw [HW2.out]
  refine HT.out.mono ?_
  rintro e w3 ⟨rfl, hb⟩
  have HB3 := hid (HB2.out.trans (hb.mono HB2.out.size)); have HY3 := hid (HY2.out.below hb); have HU3 := hid (HU2.out.below hb)
  clear hb c0 c1 c2 f0 f1 f2 d0 d1 d2 j0 j1 j2 hlt hlt2 HM2 HU2 HX1 HY2 HB2 HT HW2
  obtain ⟨c0, c1, c2, f0, f1, f2⟩ := HY3.out.open3
  go_wp2_with fail
  go_region_with (first
    | (go_at_call 51; refine (ref_of 1 (by omega) (by omega) _).mono ?_; rintro e w4 ⟨v4, rfl, hs, hb⟩
       change Sees w4 v4 (limbs 1) at hs
       have HY4 := hid (Blk.below (by exact HY3.out) hb); have HU4 := hid (Sees.below (by exact HU3.out) hb)
       have HB4 := hid (HB3.out.drew.trans (Below.mono hb HB3.out.drew.size)); have HS4 := hid hs
       obtain ⟨fo, fc, rfl, -, -, -, -, -⟩ := hs
       clear hb c0 c1 c2 f0 f1 f2
       obtain ⟨c0, c1, c2, f0, f1, f2⟩ := HY4.out.open3)
    | (go_at_call 55; refine (ref_same_no _ _ _ (by exact HU4.out) (by exact HS4.out)).mono ?_; rintro e w5 ⟨rfl, hb⟩
       have HY5 := hid (Blk.below (by exact HY4.out) hb); have HU5 := hid (Sees.below (by exact HU4.out) hb)
       have HB5 := hid (HB4.out.trans (Below.mono hb HB4.out.size))
       clear hb c0 c1 c2 f0 f1 f2
       obtain ⟨c0, c1, c2, f0, f1, f2⟩ := HY5.out.open3))
  all_goals
    go_wp2_with fail
    refine (ref_text _ _ _ (by exact HU5.out) (by decide)).mono ?_
    rw [val_limbs, show (⟨(dec 2).toArray⟩ : ByteArray) = ⟨#[50]⟩ by decide]
    rintro e w6 ⟨rfl, hb⟩
    have HB6 := hid (HB5.out.trans (Below.mono hb HB5.out.size))
    clear hb
    go_wp2_with fail
    go_ret
    exact ⟨rfl, HB6.out⟩
end Go.Proofs.YtjnbonellgpjnaaGreat

set_option linter.unusedVariables false
set_option linter.unusedSimpArgs false
namespace Go.Proofs.YtjnbonellgpjnaaGreat
open Go.RowKit

theorem to_third : toF (zneg 1) (val (zlim 1)) (val (limbs 3)) = 4599676419421066581 := by
  rw [show zneg 1 = false by decide, show val (zlim 1) = 1 by decide, show val (limbs 3) = 3 by decide]
  have hl : lt2 1 3 (topN 1 3) := by unfold lt2; decide +kernel
  have ht : topF 1 3 = -2 := by rw [topF_of_lt hl]; decide +kernel
  have hp : placeF 1 3 = -54 := by unfold placeF; rw [ht]; decide
  have hi : intF 1 3 = 6004799503160661 := by unfold intF; rw [hp]; decide +kernel
  unfold toF
  rw [if_neg (by decide)]
  unfold nearF
  rw [if_neg (by decide +kernel), if_neg (by decide +kernel), hi, hp]
  decide +kernel
theorem to_hundred : toF (zneg 100) (val (zlim 100)) (val (limbs 1)) = 4636737291354636288 := by
  rw [show zneg 100 = false by decide, show val (zlim 100) = 100 by decide, show val (limbs 1) = 1 by decide]
  have hl : ¬ lt2 100 1 (topN 100 1) := by unfold lt2; decide +kernel
  have ht : topF 100 1 = 6 := by rw [topF_of_not hl]; decide +kernel
  have hp : placeF 100 1 = -46 := by unfold placeF; rw [ht]; decide
  have hi : intF 100 1 = 7036874417766400 := by unfold intF; rw [hp]; decide +kernel
  unfold toF
  rw [if_neg (by decide)]
  unfold nearF
  rw [if_neg (by decide +kernel), if_neg (by decide +kernel), hi, hp]
  decide +kernel
theorem half_num : fnumer 4602678819172646912 = 1 := by decide +kernel
theorem half_den : fdenom 4602678819172646912 = 2 := by decide +kernel
theorem mul_great : Ieee.double.mul 9214871658872686752 4636737291354636288 = some 9218868437227405312 := by decide +kernel
theorem mul_three : Ieee.double.mul 4599676419421066581 4613937818241073152 = some 4607182418800017408 := by decide +kernel
theorem order_sample : ordF 13830554455654793216 0 = -1 := by decide +kernel

/-- A block of three cells, made. -/
theorem box3_new {a w : World} (hB : Below a.heap.size a w) (x y z : Value) : ∃ w' g, w' = w.alloc (.cells #[x, y, z] 26) ∧ g = w.heap.size ∧ Below w.heap.size w w' ∧ Below a.heap.size a w' ∧ Blk w' g #[x, y, z] := by
  have hb : Below w.heap.size w (w.alloc (.cells #[x, y, z] 26)) := (Below.refl _ w).alloc (Nat.le_refl _) _
  exact ⟨_, _, rfl, rfl, hb, hB.trans (hb.mono hB.size), Blk.new ..⟩

set_option maxRecDepth 100000 in
set_option maxHeartbeats 4000000 in
theorem awakeF (w : World) : Calls Tryz.prog 9 #[] w fun e w' => e = .returned (.bool true) ∧ Below w.heap.size w w' := by
  have r1 : (FloatKind.f64.format.order 4607182418800017408 4607182418800017408 == some .eq) = true := by decide +kernel
  go_enter Tryz.func9, Tryz.ntmps9
  go_wp2_with fail
  refine (ref_parse_third _).mono ?_
  rintro e w1 ⟨v1, rfl, hq, hb1⟩
  have HQ1 := hid hq
  obtain ⟨a1, b1, a2, b2, rfl⟩ := hq.form
  obtain ⟨w2, g1, hw2, hg1, hb2, hB2, hx2⟩ := box3_new hb1 (.bool (zneg 1)) (.slice a1 (zlim 1).length b1) (.slice a2 (limbs 3).length b2)
  have HQ2 := hid (HQ1.out.below hb2); have HB2 := hid hB2; have HX2 := hid hx2; have HW2 := hid hw2.symm; have HG1 := hid hg1.symm
  clear hq hb1 hw2 hg1 hb2 hB2 hx2 HQ1
  go_wp2_with fail
  rw [HW2.out, HG1.out]
  refine (ap_from (b := 4602678819172646912) (by decide) (by decide) _).mono ?_
  rintro e w3 ⟨v3, rfl, hq, hb⟩
  rw [half_num, half_den] at hq
  have HQ3 := hid hq
  have HB3 := hid (HB2.out.trans (hb.mono HB2.out.size)); have HX3 := hid (HX2.out.below hb); have HP3 := hid (HQ2.out.below hb)
  obtain ⟨a3, b3, a4, b4, rfl⟩ := hq.form
  obtain ⟨w4, g2, hw4, hg2, hb4, hB4, hy4⟩ := box3_new HB3.out (.bool (zneg 1)) (.slice a3 (zlim 1).length b3) (.slice a4 (limbs 2).length b4)
  have HQ4 := hid (HQ3.out.below hb4); have HB4 := hid hB4; have HY4 := hid hy4; have HX4 := hid (HX3.out.below hb4); have HP4 := hid (HP3.out.below hb4)
  have HW4 := hid hw4.symm; have HG2 := hid hg2.symm
  clear hq hb hw4 hg2 hb4 hB4 hy4 HQ2 HB2 HX2 HW2 HQ3 HB3 HX3 HP3
  go_wp2_with fail
  rw [HW4.out, HG2.out]
  refine (ref_ofQ 100 (by decide) (by decide) _).mono ?_
  rintro e w5 ⟨v5, rfl, hq, hb⟩
  have HQ5 := hid hq
  have HB5 := hid (HB4.out.trans (hb.mono HB4.out.size)); have HX5 := hid (HX4.out.below hb); have HP5 := hid (HP4.out.below hb); have HY5 := hid (HY4.out.below hb); have HR5 := hid (HQ4.out.below hb)
  obtain ⟨a5, b5, a6, b6, rfl⟩ := hq.form
  have HT5 := hid (ap_to (w := w5) HQ5.out (by decide) (by decide))
  rw [to_hundred] at HT5
  clear hq hb HQ4 HB4 HX4 HP4 HY4 HW4
  go_wp2_with fail
  refine HT5.out.mono ?_
  rintro e w6 ⟨rfl, hb⟩
  have HB6 := hid (HB5.out.trans (hb.mono HB5.out.size)); have HX6 := hid (HX5.out.below hb); have HP6 := hid (HP5.out.below hb); have HY6 := hid (HY5.out.below hb); have HR6 := hid (HR5.out.below hb)
  have hm6 := run_mul 30 w6 mul_great
  clear hb HB5 HX5 HP5 HY5 HR5 HQ5 HT5
  go_wp2_with fail
  refine (ap_from_bad (b := 9218868437227405312) (by decide) (by decide) _).mono ?_
  rintro e w7 ⟨rfl, hb⟩
  have HB7 := hid (HB6.out.trans (hb.mono HB6.out.size)); have HX7 := hid (HX6.out.below hb); have HP7 := hid (HP6.out.below hb); have HY7 := hid (HY6.out.below hb); have HR7 := hid (HR6.out.below hb)
  obtain ⟨w8, g3, hw8, hg3, hb8, hB8, hz8⟩ := box3_new HB7.out (.bool false) (.slice none 0 0) (.slice none 0 0)
  have HB8 := hid hB8; have HX8 := hid (HX7.out.below hb8); have HP8 := hid (HP7.out.below hb8); have HY8 := hid (HY7.out.below hb8); have HR8 := hid (HR7.out.below hb8)
  have HW8 := hid hw8.symm; have HG3 := hid hg3.symm
  obtain ⟨c0, c1, c2, f0, f1, f2⟩ := HX7.out.open3
  have hlt := HX7.out.lt
  have HT8 := hid (ap_to (w := w8) HP8.out (by decide) (by decide))
  rw [to_third] at HT8
  clear hb hw8 hg3 hb8 hB8 hz8 HB6 HX6 HP6 HY6 HR6 HB7 HX7 HP7 HY7 HR7 hm6
  go_wp2_with fail
  rw [HW8.out, HG3.out]
  refine HT8.out.mono ?_
  rintro e w9 ⟨rfl, hb⟩
  have HB9 := hid (HB8.out.trans (hb.mono HB8.out.size)); have HY9 := hid (HY8.out.below hb); have HR9 := hid (HR8.out.below hb)
  have hm9 := run_mul 30 w9 mul_three
  clear hb c0 c1 c2 f0 f1 f2 hlt HB8 HX8 HP8 HY8 HR8 HT8 HW8
  obtain ⟨c0, c1, c2, f0, f1, f2⟩ := HY9.out.open3
  go_wp2_with fail
  refine (ref_text_half HR9.out).mono ?_
  rintro e w10 ⟨rfl, hb⟩
  have HB10 := hid (HB9.out.trans (hb.mono HB9.out.size))
  have HO := hid (ap_order (a := 13830554455654793216) (b := 0) (by decide) (by decide) w10)
  rw [order_sample] at HO
  clear hb c0 c1 c2 f0 f1 f2 HB9 HY9 HR9 hm9
  go_wp2_with fail
  refine HO.out.mono ?_
  rintro e w' ⟨rfl, rfl⟩
  go_wp2_with fail
  go_ret
  exact ⟨rfl, HB10.out⟩
end Go.Proofs.YtjnbonellgpjnaaGreat
