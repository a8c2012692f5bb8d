/- The document's Mul by its contract. whole.Mul, whole.Gcd, the document's Mul and Gcd of layer 2. whole.Mul, the document's Mul of layer 2. -/
import Derived.Test.YtjnbonellgpjnaaGreatKA
import Derived.Test.YtjnbonellgpjnaaGreatKD
import Derived.Test.YtjnbonellgpjnaaGreatKG
import Derived.Test.YtjnbonellgpjnaaGreatKF
import Derived.Test.YtjnbonellgpjnaaGreatKI
import Derived.Test.YtjnbonellgpjnaaGreatKJ
import Derived.Deep.RegionHeld3
set_option linter.unusedVariables false
set_option linter.unusedSimpArgs false
namespace Go.Proofs.YtjnbonellgpjnaaGreat
open Go.RowKit

set_option maxRecDepth 100000 in
set_option maxHeartbeats 4000000 in
theorem ref_mul (a b : Option Addr) (ca cb : Nat) (l m : List Nat) (w : World) (ha : Sees w (.slice a l.length ca) l) (hb : Sees w (.slice b m.length cb) m) (hl : l.length ≤ 17592186044000) (hm : m.length ≤ 17592186044000) :
    Calls Tryz.prog 80 #[.slice a l.length ca, .slice b m.length cb] w fun e w' => IsNum w (val l * val m) e w' := by
  have HA := hid ha; have HB := hid hb
  clear ha hb
  go_enter Tryz.func80, Tryz.ntmps80
  have hmk := run_make_row' (P := Tryz.prog) 22 98 (.int .u32 0) 4 Tryz.underlying22 info_u32 rfl .i64 .i64 (l.length + m.length) (by omega) (by omega)
  have ec : ((l.length + m.length : Nat) : Int) = (l.length : Int) + m.length := by omega
  rw [ec] at hmk
  clear ec
  obtain ⟨w1, hw1⟩ : ∃ w1, w1 = w.alloc (.cells (madeCells #[Value.int .u32 0] (l.length + m.length)) 98) := ⟨_, rfl⟩
  have hbel : Below w.heap.size w w1 := by rw [hw1]; exact (Below.refl _ w).alloc (Nat.le_refl _) _
  have hrow0 : Row w1 w.heap.size (List.replicate (l.length + m.length) 0) := by rw [hw1]; exact Row.made w _
  have HW := hid hw1.symm; have HBEL := hid hbel; have HROW0 := hid hrow0
  have HA1 := hid (HA.out.below hbel); have HB1 := hid (HB.out.below hbel)
  have HAL := hid (fun (h : 0 < l.length) (x : Addr) (e : a = some x) => (e ▸ HA.out : Sees w (.slice (some x) l.length ca) l).lt h)
  have HBL := hid (fun (h : 0 < m.length) (x : Addr) (e : b = some x) => (e ▸ HB.out : Sees w (.slice (some x) m.length cb) m).lt h)
  clear hw1 hbel hrow0 HA HB
  go_wp2
  go_loopw [6] (fun v wr => ∃ (i : Nat) (t : List Nat), i ≤ l.length ∧ v = .int .i64 i ∧ Hid (MulTo l m (l.length + m.length) i t) ∧ Hid (Row wr w.heap.size t) ∧ Hid (w1.grownBy wr (some w.heap.size))) (fun v _ => l.length - (intOf v).toNat)
  case atStart => exact ⟨0, _, Nat.zero_le _, rfl, MulTo.start _ _ _, by rw [HW.out]; exact HROW0, by rw [HW.out]; exact World.grownBy.refl _ _⟩
  case round =>
    obtain ⟨i, t, hi, rfl, hmt, hrow, hg⟩ := hrel
    rename World => wo
    by_cases hlt : i < l.length
    · obtain ⟨b1, o1, rfl, hc'⟩ := HA1.out.at (by omega)
      have hne : b1 < w.heap.size := HAL.out (by omega) _ rfl
      have hca1 := hc' i hlt
      have hfk := HA1.out.ok.getD i
      have HOK := hid hmt.out.ok
      have htl := hmt.out.len
      have hstep := fun t' c => @MulTo.step l m t t' (l.length + m.length) i c (l.getD i 0) hmt.out (by omega) rfl
      have HSTEP := hid hstep
      generalize l.getD i 0 = f at *
      have HCA1 := hid hca1
      have H0 : Hid (AddMul t i 0 (valF (fun j => m.getD j 0) 0 * f) t 0) := by
        have h0 : valF (fun j => m.getD j 0) 0 * f = 0 := Nat.zero_mul f
        show AddMul t i 0 (valF (fun j => m.getD j 0) 0 * f) t 0
        rw [h0]; exact AddMul.start HOK.out i
      clear hc' hstep hca1 hmt HAL
      go_wp2
      go_loopw [7, 8] (fun v7 v8 wr => ∃ (k c : Nat) (t' : List Nat), k ≤ m.length ∧ v8 = .int .i64 k ∧ v7 = .int .u64 c ∧ c < 4294967296 ∧ Hid (AddMul t i k (valF (fun j => m.getD j 0) k * f) t' c) ∧ Hid (Row wr w.heap.size t') ∧ Hid (w1.grownBy wr (some w.heap.size))) (fun _ v _ => m.length - (intOf v).toNat)
      case atStart => exact ⟨0, 0, t, Nat.zero_le _, rfl, rfl, by omega, H0, hrow, hg⟩
      case round =>
        obtain ⟨k, c, t', hk, rfl, rfl, hc1, ham, hrow', hg'⟩ := hrel
        have htl' := Eq.trans ham.out.part.len htl
        by_cases hkm : k < m.length
        · obtain ⟨b2, o2, rfl, hcb'⟩ := HB1.out.at (by omega)
          have hne2 : b2 < w.heap.size := HBL.out (by omega) _ rfl
          have hcb := hg'.out.cell (hcb' k hkm) (by simp; omega)
          have hca2 := hg'.out.cell HCA1.out (by simp; omega)
          have hca := hrow'.out.cell (i := i + k) (by omega)
          have hfr := hrow'.out.frozen (i + k)
          have hox := ham.out.part.ok.getD (i + k)
          have hob := HB1.out.ok.getD k
          have hsame := ham.out.part.out (i + k) (.inr (by omega))
          have hstep := ham.out.step (by omega) (m.getD k 0 * f)
          rw [← hsame] at hstep
          have hval : valF (fun j => m.getD j 0) k * f + 4294967296 ^ k * (m.getD k 0 * f) = valF (fun j => m.getD j 0) (k + 1) * f := by
            simp only [valF]; rw [Nat.add_mul, Nat.mul_assoc]
          rw [hval] at hstep
          have HST := hid hstep
          clear hstep hsame hcb' hval
          generalize t'.getD (i + k) 0 = u at *
          generalize m.getD k 0 = v at *
          have hfit := mul_fits v f u c hob hfk hox hc1
          obtain ⟨z, hz⟩ : ∃ z, z = v * f := ⟨_, rfl⟩
          have ez : IntKind.u64.wrap ((f : Int) * (v : Int)) = (z : Int) := by rw [hz, Nat.mul_comm v f, ← Int.natCast_mul]; exact wrap_u64 _ (by rw [Nat.mul_comm f v]; omega)
          rw [← hz] at hfit HST
          clear hz
          obtain ⟨T, hT⟩ : ∃ T, T = c + z + u := ⟨_, rfl⟩
          have e1 : IntKind.u64.wrap ((c : Int) + (z : Int)) = (c : Int) + z := by have := wrap_u64 (c + z) (by omega); simpa using this
          have e2 : IntKind.u64.wrap ((c : Int) + (z : Int) + (u : Int)) = (T : Int) := by have := wrap_u64 T (by omega); rw [hT] at this ⊢; simpa using this
          obtain ⟨x, d, hx, hd, hxd, em, ed⟩ : ∃ x d : Nat, x < 4294967296 ∧ d < 4294967296 ∧ Hid (u + z + c = x + 4294967296 * d) ∧ (T : Int) % 4294967296 = (x : Int) ∧ (T : Int) / 4294967296 = (d : Int) :=
            ⟨T % 4294967296, T / 4294967296, by omega, by omega, by show _ = _; omega, by omega, by omega⟩
          have HStep := hid (HST.out x d hx hd hxd.out)
          have HRow := hid (hrow'.out.set (i + k) x)
          have HG := hid (grownBy_set (i := i + k) (v := .int .u32 (x : Nat)) hg'.out)
          have HT := hid hT; have HFIT := hid hfit
          clear hT hfit HST hxd
          go_wp2
          go_quiet (fail)
          go_wp2
          go_roundw
          case rel => exact ⟨k + 1, d, t'.set (i + k) x, by omega, by go_num, by first | rfl | rw [ed], hd, HStep, by first | exact HRow | exact HRow.out.drewN _ | exact HRow.out.drew, by first | exact HG | exact grownBy_drewN HG.out _ | exact grownBy_drew HG.out⟩
          case measure => simp [intOf]; omega
        · obtain rfl : k = m.length := by omega
          have hv : valF (fun j => m.getD j 0) m.length = val m := (val_valF m m.length (Nat.le_refl _)).symm
          rw [hv] at ham
          clear hv
          have hca := hrow'.out.cell (i := i + m.length) (by omega)
          have hfr := hrow'.out.frozen (i + m.length)
          have HStep := hid (HSTEP.out _ _ ham.out)
          have HRow := hid (hrow'.out.set (i + m.length) c)
          have HG := hid (grownBy_set (i := i + m.length) (v := .int .u32 (c : Nat)) hg'.out)
          go_wp2
          go_roundw
          case rel => exact ⟨i + 1, t'.set (i + m.length) c, by omega, by go_num, HStep, HRow, HG⟩
          case measure => simp [intOf]; omega
    · obtain rfl : i = l.length := by omega
      have htl := hmt.out.len
      have hv := hmt.out.total
      have hs3 : Sees wo (.slice (some ⟨w.heap.size, 0, none⟩) (l.length + m.length) (l.length + m.length)) t := by
        have := hrow.out.sees hmt.out.ok 0 (l.length + m.length) (l.length + m.length) (by omega) (Nat.le_refl _) (by omega)
        rwa [List.drop_zero, List.take_of_length_le (by omega)] at this
      have HS3 := hid hs3; have HV := hid hv
      have HLK : Hid (t.length ≤ 35184372088000) := by show _ ≤ _; omega
      have hlk2 := Nat.le_trans (limbs_prefix hs3.ok).2 HLK.out
      have HB5 : Hid (Below w.heap.size w wo) := HBEL.out.grown hg.out (HBEL.out.size) (fun k e => by simp at e; omega)
      clear hs3 hv htl hmt hg hrow
      go_wp2_with fail
      refine (ref_plain _ _ _ HS3.out (by have := HLK.out; omega)).mono ?_
      intro e w4 hp
      obtain ⟨v4, rfl, hs4, hb4⟩ := hp.sees (by omega)
      have HS4 := hid hs4; have HB4 := hid (HB5.out.trans (hb4.mono HB5.out.size))
      clear hp hs4 hb4
      go_wp2
      go_ret
      exact ⟨_, rfl, by have := HS4.out; rw [HV.out] at this; exact this, HB4.out⟩

theorem ref_mul' {a b : Value} {l m : List Nat} {w : World} (ha : Sees w a l) (hb : Sees w b m) (hl : l.length ≤ 17592186044000) (hm : m.length ≤ 17592186044000) :
    Calls Tryz.prog 80 #[a, b] w fun e w' => ∃ v, e = .returned v ∧ Sees w' v (limbs (val l * val m)) ∧ Below w.heap.size w w' := by
  have hA := ha; have hB := hb
  obtain ⟨A, ca, rfl, -, -, -, -, -⟩ := ha
  obtain ⟨B, cb, rfl, -, -, -, -, -⟩ := hb
  exact ref_mul _ _ _ _ _ _ _ hA hB hl hm
end Go.Proofs.YtjnbonellgpjnaaGreat

set_option linter.unusedVariables false
set_option linter.unusedSimpArgs false
namespace Go.Proofs.YtjnbonellgpjnaaGreat
open Go.RowKit

theorem zmul (n k : Bool) (l m : List Nat) : zval n l * zval k m = if (n != k) then -((val l * val m : Nat) : Int) else ((val l * val m : Nat) : Int) := by
  cases n <;> cases k <;> simp [zval, Int.natCast_mul, Int.neg_mul, Int.mul_neg]
theorem zgcd (n k : Bool) (l m : List Nat) : ((Nat.gcd (zval n l).natAbs (zval k m).natAbs : Nat) : Int) = ((Nat.gcd (val l) (val m) : Nat) : Int) := by
  rw [zval_abs, zval_abs]

theorem gcd_len {l m : List Nat} (hl : l.length ≤ 100000) (hm : m.length ≤ 100000) (h1 : Ok l) (h2 : Ok m) : (limbs (Nat.gcd (val l) (val m))).length ≤ 35184372088832 := by
  rcases Nat.eq_zero_or_pos (val l) with h0 | h0
  · rw [h0, Nat.gcd_zero_left]; have := (limbs_prefix h2).2; omega
  · have h3 := limbs_length_mono (Nat.gcd_le_left (val m) h0)
    have := (limbs_prefix h1).2; omega

end Go.Proofs.YtjnbonellgpjnaaGreat

set_option linter.unusedVariables false
set_option linter.unusedSimpArgs false
namespace Go.Proofs.YtjnbonellgpjnaaGreat
open Go.RowKit

set_option maxRecDepth 100000 in
set_option maxHeartbeats 4000000 in
theorem whole_mul {va vb : Value} {n k : Bool} {la lb : List Nat} {w : World} (ha : SeesZ w va n la) (hb : SeesZ w vb k lb) (hla : la.length ≤ 17592186044000) (hlb : lb.length ≤ 17592186044000) :
    Calls Tryz.prog 103 #[va, vb] w fun e w' => IsInt w (zval n la * zval k lb) e w' := by
  obtain ⟨ma, rfl, hma⟩ := ha
  obtain ⟨mb, rfl, hmb⟩ := hb
  have HMA := hid hma; have HMB := hid hmb
  obtain ⟨ao, ca, rfl, -, -, -, -, -⟩ := hma
  obtain ⟨bo, cb, rfl, -, -, -, -, -⟩ := hmb
  obtain ⟨y, gA, gB, gR, hy, b, e1, e2, e3, xA, xB, xR⟩ := three_boxes w (.bool n) (.slice ao la.length ca) (.bool k) (.slice bo lb.length cb) (.bool false) (.slice none 0 0) 24
  have HY := hid hy.symm; have E1 := hid e1.symm; have E2 := hid e2.symm; have E3 := hid e3.symm
  have HXA := hid xA; have HXB := hid xB; have HXR := hid xR; have B0 := hid b; have HSA := hid (HMA.out.below b); have HSB := hid (HMB.out.below b)
  have HG : Hid (w.heap.size ≤ gR) := hid (by omega)
  have HNE : Hid (gA ≠ gR ∧ gB ≠ gR) := hid (by constructor <;> omega)
  clear hy e1 e2 e3 xA xB xR b HMA HMB
  have HZ := hid (zmul n k la lb)
  generalize zval n la * zval k lb = z at *
  go_enter Tryz.func103, Tryz.ntmps103
  cases n
  · cases k
    · go_wp2_with fail
      try rw [HY.out]
      try rw [E3.out]
      try rw [E2.out]
      try rw [E1.out]
      clear HY E1 E2 E3
      obtain ⟨a0, a1, a2, a3⟩ := HXA.out.cells
      obtain ⟨b0, b1, b2, b3⟩ := HXB.out.cells
      obtain ⟨q0, q1, q2, q3⟩ := HXR.out.cells
      have HD := hid ((Below.refl y.heap.size y).drew)
      go_region_held3 (fun w' => w'.cell? ⟨gA, 0, none⟩ = some (.bool false) ∧ w'.cell? ⟨gA, 1, none⟩ = some (.slice ao la.length ca) ∧ w'.cell? ⟨gB, 0, none⟩ = some (.bool false) ∧ w'.cell? ⟨gB, 1, none⟩ = some (.slice bo lb.length cb) ) (exact ⟨by assumption, by assumption, by assumption, by assumption⟩) (first
        | (go_at_call 124
           refine (nat_mul' (by exact HSA.out.below (Hid.out (by assumption))) (by exact HSB.out.below (Hid.out (by assumption))) (by omega) (by omega)).mono ?_
           rintro e w1 ⟨v1, rfl, hs1, hb1⟩
           have hbn := hid (step_below (w := y) (Hid.out (by assumption)) hb1)
           obtain ⟨xa0, xa1, -, -⟩ := (HXA.out.below hbn.out).cells
           obtain ⟨xb0, xb1, -, -⟩ := (HXB.out.below hbn.out).cells
           obtain ⟨xr0, xr1, xr2, xr3⟩ := (HXR.out.below hbn.out).cells
           have HS1 := hid hs1
           clear hs1 hb1)
        | (go_at_call 123
           refine (whole_signed _ _ (by exact HS1.out) z (by exact HZ.out)).mono ?_
           rintro e w2 ⟨v2, rfl, hz2, hb2⟩
           have hbn2 := hid (step_below (w := y) (Hid.out (by assumption)) hb2)
           obtain ⟨ya0, ya1, -, -⟩ := (HXA.out.below hbn2.out).cells
           obtain ⟨yb0, yb1, -, -⟩ := (HXB.out.below hbn2.out).cells
           have HXR2 := hid (HXR.out.below hbn2.out)
           have B2 := hid (B0.out.trans (hbn2.out.mono B0.out.size))
           have HZ2 := hid hz2
           obtain ⟨ao2, cap2, rfl⟩ := hz2.form
           obtain ⟨r0, r1, r2, r3⟩ := HXR2.out.cells
           obtain ⟨za0, za1, -, -⟩ := ((HXA.out.below hbn2.out).other HNE.out.1 (.bool (zneg z)) (.slice ao2 (zlim z).length cap2)).cells
           obtain ⟨zb0, zb1, -, -⟩ := ((HXB.out.below hbn2.out).other HNE.out.2 (.bool (zneg z)) (.slice ao2 (zlim z).length cap2)).cells
           have hlt := HXR2.out.lt
           clear hb2 hz2))
      have HR3 := hid (HXR2.out)
      obtain ⟨g1, g2, g3⟩ := store_end B2.out HG.out HR3.out HZ2.out
      obtain ⟨c0, c1, f0, f1⟩ := HR3.out.cells
      have hlt := HR3.out.lt
      have HG1 := hid g1
      clear HR3 HZ2 B2 HG HXR2 g1
      generalize zneg (z) = bb at *
      generalize zlim (z) = ll at *
      go_wp2
      exact bodyPost_ret (v := .agg #[.bool bb, .slice ao2 ll.length cap2]) (by simp [results, Tryz.results103, go_sem, g2, g3]) rfl HG1.out
    · go_wp2_with fail
      try rw [HY.out]
      try rw [E3.out]
      try rw [E2.out]
      try rw [E1.out]
      clear HY E1 E2 E3
      obtain ⟨a0, a1, a2, a3⟩ := HXA.out.cells
      obtain ⟨b0, b1, b2, b3⟩ := HXB.out.cells
      obtain ⟨q0, q1, q2, q3⟩ := HXR.out.cells
      have HD := hid ((Below.refl y.heap.size y).drew)
      go_region_held3 (fun w' => w'.cell? ⟨gA, 0, none⟩ = some (.bool false) ∧ w'.cell? ⟨gA, 1, none⟩ = some (.slice ao la.length ca) ∧ w'.cell? ⟨gB, 0, none⟩ = some (.bool true) ∧ w'.cell? ⟨gB, 1, none⟩ = some (.slice bo lb.length cb) ) (exact ⟨by assumption, by assumption, by assumption, by assumption⟩) (first
        | (go_at_call 124
           refine (nat_mul' (by exact HSA.out.below (Hid.out (by assumption))) (by exact HSB.out.below (Hid.out (by assumption))) (by omega) (by omega)).mono ?_
           rintro e w1 ⟨v1, rfl, hs1, hb1⟩
           have hbn := hid (step_below (w := y) (Hid.out (by assumption)) hb1)
           obtain ⟨xa0, xa1, -, -⟩ := (HXA.out.below hbn.out).cells
           obtain ⟨xb0, xb1, -, -⟩ := (HXB.out.below hbn.out).cells
           obtain ⟨xr0, xr1, xr2, xr3⟩ := (HXR.out.below hbn.out).cells
           have HS1 := hid hs1
           clear hs1 hb1)
        | (go_at_call 123
           refine (whole_signed _ _ (by exact HS1.out) z (by exact HZ.out)).mono ?_
           rintro e w2 ⟨v2, rfl, hz2, hb2⟩
           have hbn2 := hid (step_below (w := y) (Hid.out (by assumption)) hb2)
           obtain ⟨ya0, ya1, -, -⟩ := (HXA.out.below hbn2.out).cells
           obtain ⟨yb0, yb1, -, -⟩ := (HXB.out.below hbn2.out).cells
           have HXR2 := hid (HXR.out.below hbn2.out)
           have B2 := hid (B0.out.trans (hbn2.out.mono B0.out.size))
           have HZ2 := hid hz2
           obtain ⟨ao2, cap2, rfl⟩ := hz2.form
           obtain ⟨r0, r1, r2, r3⟩ := HXR2.out.cells
           obtain ⟨za0, za1, -, -⟩ := ((HXA.out.below hbn2.out).other HNE.out.1 (.bool (zneg z)) (.slice ao2 (zlim z).length cap2)).cells
           obtain ⟨zb0, zb1, -, -⟩ := ((HXB.out.below hbn2.out).other HNE.out.2 (.bool (zneg z)) (.slice ao2 (zlim z).length cap2)).cells
           have hlt := HXR2.out.lt
           clear hb2 hz2))
      have HR3 := hid (HXR2.out)
      obtain ⟨g1, g2, g3⟩ := store_end B2.out HG.out HR3.out HZ2.out
      obtain ⟨c0, c1, f0, f1⟩ := HR3.out.cells
      have hlt := HR3.out.lt
      have HG1 := hid g1
      clear HR3 HZ2 B2 HG HXR2 g1
      generalize zneg (z) = bb at *
      generalize zlim (z) = ll at *
      go_wp2
      exact bodyPost_ret (v := .agg #[.bool bb, .slice ao2 ll.length cap2]) (by simp [results, Tryz.results103, go_sem, g2, g3]) rfl HG1.out
  · cases k
    · go_wp2_with fail
      try rw [HY.out]
      try rw [E3.out]
      try rw [E2.out]
      try rw [E1.out]
      clear HY E1 E2 E3
      obtain ⟨a0, a1, a2, a3⟩ := HXA.out.cells
      obtain ⟨b0, b1, b2, b3⟩ := HXB.out.cells
      obtain ⟨q0, q1, q2, q3⟩ := HXR.out.cells
      have HD := hid ((Below.refl y.heap.size y).drew)
      go_region_held3 (fun w' => w'.cell? ⟨gA, 0, none⟩ = some (.bool true) ∧ w'.cell? ⟨gA, 1, none⟩ = some (.slice ao la.length ca) ∧ w'.cell? ⟨gB, 0, none⟩ = some (.bool false) ∧ w'.cell? ⟨gB, 1, none⟩ = some (.slice bo lb.length cb) ) (exact ⟨by assumption, by assumption, by assumption, by assumption⟩) (first
        | (go_at_call 124
           refine (nat_mul' (by exact HSA.out.below (Hid.out (by assumption))) (by exact HSB.out.below (Hid.out (by assumption))) (by omega) (by omega)).mono ?_
           rintro e w1 ⟨v1, rfl, hs1, hb1⟩
           have hbn := hid (step_below (w := y) (Hid.out (by assumption)) hb1)
           obtain ⟨xa0, xa1, -, -⟩ := (HXA.out.below hbn.out).cells
           obtain ⟨xb0, xb1, -, -⟩ := (HXB.out.below hbn.out).cells
           obtain ⟨xr0, xr1, xr2, xr3⟩ := (HXR.out.below hbn.out).cells
           have HS1 := hid hs1
           clear hs1 hb1)
        | (go_at_call 123
           refine (whole_signed _ _ (by exact HS1.out) z (by exact HZ.out)).mono ?_
           rintro e w2 ⟨v2, rfl, hz2, hb2⟩
           have hbn2 := hid (step_below (w := y) (Hid.out (by assumption)) hb2)
           obtain ⟨ya0, ya1, -, -⟩ := (HXA.out.below hbn2.out).cells
           obtain ⟨yb0, yb1, -, -⟩ := (HXB.out.below hbn2.out).cells
           have HXR2 := hid (HXR.out.below hbn2.out)
           have B2 := hid (B0.out.trans (hbn2.out.mono B0.out.size))
           have HZ2 := hid hz2
           obtain ⟨ao2, cap2, rfl⟩ := hz2.form
           obtain ⟨r0, r1, r2, r3⟩ := HXR2.out.cells
           obtain ⟨za0, za1, -, -⟩ := ((HXA.out.below hbn2.out).other HNE.out.1 (.bool (zneg z)) (.slice ao2 (zlim z).length cap2)).cells
           obtain ⟨zb0, zb1, -, -⟩ := ((HXB.out.below hbn2.out).other HNE.out.2 (.bool (zneg z)) (.slice ao2 (zlim z).length cap2)).cells
           have hlt := HXR2.out.lt
           clear hb2 hz2))
      have HR3 := hid (HXR2.out)
      obtain ⟨g1, g2, g3⟩ := store_end B2.out HG.out HR3.out HZ2.out
      obtain ⟨c0, c1, f0, f1⟩ := HR3.out.cells
      have hlt := HR3.out.lt
      have HG1 := hid g1
      clear HR3 HZ2 B2 HG HXR2 g1
      generalize zneg (z) = bb at *
      generalize zlim (z) = ll at *
      go_wp2
      exact bodyPost_ret (v := .agg #[.bool bb, .slice ao2 ll.length cap2]) (by simp [results, Tryz.results103, go_sem, g2, g3]) rfl HG1.out
    · go_wp2_with fail
      try rw [HY.out]
      try rw [E3.out]
      try rw [E2.out]
      try rw [E1.out]
      clear HY E1 E2 E3
      obtain ⟨a0, a1, a2, a3⟩ := HXA.out.cells
      obtain ⟨b0, b1, b2, b3⟩ := HXB.out.cells
      obtain ⟨q0, q1, q2, q3⟩ := HXR.out.cells
      have HD := hid ((Below.refl y.heap.size y).drew)
      go_region_held3 (fun w' => w'.cell? ⟨gA, 0, none⟩ = some (.bool true) ∧ w'.cell? ⟨gA, 1, none⟩ = some (.slice ao la.length ca) ∧ w'.cell? ⟨gB, 0, none⟩ = some (.bool true) ∧ w'.cell? ⟨gB, 1, none⟩ = some (.slice bo lb.length cb) ) (exact ⟨by assumption, by assumption, by assumption, by assumption⟩) (first
        | (go_at_call 124
           refine (nat_mul' (by exact HSA.out.below (Hid.out (by assumption))) (by exact HSB.out.below (Hid.out (by assumption))) (by omega) (by omega)).mono ?_
           rintro e w1 ⟨v1, rfl, hs1, hb1⟩
           have hbn := hid (step_below (w := y) (Hid.out (by assumption)) hb1)
           obtain ⟨xa0, xa1, -, -⟩ := (HXA.out.below hbn.out).cells
           obtain ⟨xb0, xb1, -, -⟩ := (HXB.out.below hbn.out).cells
           obtain ⟨xr0, xr1, xr2, xr3⟩ := (HXR.out.below hbn.out).cells
           have HS1 := hid hs1
           clear hs1 hb1)
        | (go_at_call 123
           refine (whole_signed _ _ (by exact HS1.out) z (by exact HZ.out)).mono ?_
           rintro e w2 ⟨v2, rfl, hz2, hb2⟩
           have hbn2 := hid (step_below (w := y) (Hid.out (by assumption)) hb2)
           obtain ⟨ya0, ya1, -, -⟩ := (HXA.out.below hbn2.out).cells
           obtain ⟨yb0, yb1, -, -⟩ := (HXB.out.below hbn2.out).cells
           have HXR2 := hid (HXR.out.below hbn2.out)
           have B2 := hid (B0.out.trans (hbn2.out.mono B0.out.size))
           have HZ2 := hid hz2
           obtain ⟨ao2, cap2, rfl⟩ := hz2.form
           obtain ⟨r0, r1, r2, r3⟩ := HXR2.out.cells
           obtain ⟨za0, za1, -, -⟩ := ((HXA.out.below hbn2.out).other HNE.out.1 (.bool (zneg z)) (.slice ao2 (zlim z).length cap2)).cells
           obtain ⟨zb0, zb1, -, -⟩ := ((HXB.out.below hbn2.out).other HNE.out.2 (.bool (zneg z)) (.slice ao2 (zlim z).length cap2)).cells
           have hlt := HXR2.out.lt
           clear hb2 hz2))
      have HR3 := hid (HXR2.out)
      obtain ⟨g1, g2, g3⟩ := store_end B2.out HG.out HR3.out HZ2.out
      obtain ⟨c0, c1, f0, f1⟩ := HR3.out.cells
      have hlt := HR3.out.lt
      have HG1 := hid g1
      clear HR3 HZ2 B2 HG HXR2 g1
      generalize zneg (z) = bb at *
      generalize zlim (z) = ll at *
      go_wp2
      exact bodyPost_ret (v := .agg #[.bool bb, .slice ao2 ll.length cap2]) (by simp [results, Tryz.results103, go_sem, g2, g3]) rfl HG1.out

set_option maxRecDepth 100000 in
set_option maxHeartbeats 4000000 in
theorem ref_mulZ {va vb : Value} {n k : Bool} {la lb : List Nat} {w : World} (ha : SeesZ w va n la) (hb : SeesZ w vb k lb) (hla : la.length ≤ 17592186044000) (hlb : lb.length ≤ 17592186044000) :
    Calls Tryz.prog 77 #[va, vb] w fun e w' => IsInt w (zval n la * zval k lb) e w' := by
  obtain ⟨ma, rfl, hma⟩ := ha
  obtain ⟨mb, rfl, hmb⟩ := hb
  have HMA := hid hma; have HMB := hid hmb
  obtain ⟨ao, ca, rfl, -, -, -, -, -⟩ := hma
  obtain ⟨bo, cb, rfl, -, -, -, -, -⟩ := hmb
  obtain ⟨y, gA, gB, gR, hy, b, e1, e2, e3, xA, xB, xR⟩ := three_boxes w (.bool n) (.slice ao la.length ca) (.bool k) (.slice bo lb.length cb) (.bool false) (.slice none 0 0) 24
  have HY := hid hy.symm; have E1 := hid e1.symm; have E2 := hid e2.symm; have E3 := hid e3.symm
  have HXA := hid xA; have HXB := hid xB; have HXR := hid xR; have B0 := hid b; have HSA := hid (HMA.out.below b); have HSB := hid (HMB.out.below b)
  have HG : Hid (w.heap.size ≤ gR) := hid (by omega)
  have HNE : Hid (gA ≠ gR ∧ gB ≠ gR) := hid (by constructor <;> omega)
  clear hy e1 e2 e3 xA xB xR b HMA HMB
  have HLM : Hid ((limbs (val la * val lb)).length ≤ 35184372088832) := Nat.le_trans (mul_length HSA.out.ok HSB.out.ok 17592186044000 17592186044000 hla hlb) (by decide)
  have HZ := hid (zmul n k la lb)
  generalize zval n la * zval k lb = z at *
  go_enter Tryz.func77, Tryz.ntmps77
  cases n
  · cases k
    · go_wp2_with fail
      try rw [HY.out]
      try rw [E3.out]
      try rw [E2.out]
      try rw [E1.out]
      clear HY E1 E2 E3
      obtain ⟨a0, a1, a2, a3⟩ := HXA.out.cells
      obtain ⟨b0, b1, b2, b3⟩ := HXB.out.cells
      obtain ⟨q0, q1, q2, q3⟩ := HXR.out.cells
      have HD := hid ((Below.refl y.heap.size y).drew)
      go_region_held3 (fun w' => w'.cell? ⟨gA, 0, none⟩ = some (.bool false) ∧ w'.cell? ⟨gA, 1, none⟩ = some (.slice ao la.length ca) ∧ w'.cell? ⟨gB, 0, none⟩ = some (.bool false) ∧ w'.cell? ⟨gB, 1, none⟩ = some (.slice bo lb.length cb) ) (exact ⟨by assumption, by assumption, by assumption, by assumption⟩) (first
        | (go_at_call 80
           refine (ref_mul' (by exact HSA.out.below (Hid.out (by assumption))) (by exact HSB.out.below (Hid.out (by assumption))) (by omega) (by omega)).mono ?_
           rintro e w1 ⟨v1, rfl, hs1, hb1⟩
           have hbn := hid (step_below (w := y) (Hid.out (by assumption)) hb1)
           obtain ⟨xa0, xa1, -, -⟩ := (HXA.out.below hbn.out).cells
           obtain ⟨xb0, xb1, -, -⟩ := (HXB.out.below hbn.out).cells
           obtain ⟨xr0, xr1, xr2, xr3⟩ := (HXR.out.below hbn.out).cells
           have HS1 := hid hs1
           clear hs1 hb1)
        | (go_at_call 76
           refine (ref_make _ (by exact HS1.out) HLM.out z (by rw [val_limbs]; exact HZ.out)).mono ?_
           rintro e w2 ⟨v2, rfl, hz2, hb2⟩
           have hbn2 := hid (step_below (w := y) (Hid.out (by assumption)) hb2)
           obtain ⟨ya0, ya1, -, -⟩ := (HXA.out.below hbn2.out).cells
           obtain ⟨yb0, yb1, -, -⟩ := (HXB.out.below hbn2.out).cells
           have HXR2 := hid (HXR.out.below hbn2.out)
           have B2 := hid (B0.out.trans (hbn2.out.mono B0.out.size))
           have HZ2 := hid hz2
           obtain ⟨ao2, cap2, rfl⟩ := hz2.form
           obtain ⟨r0, r1, r2, r3⟩ := HXR2.out.cells
           obtain ⟨za0, za1, -, -⟩ := ((HXA.out.below hbn2.out).other HNE.out.1 (.bool (zneg z)) (.slice ao2 (zlim z).length cap2)).cells
           obtain ⟨zb0, zb1, -, -⟩ := ((HXB.out.below hbn2.out).other HNE.out.2 (.bool (zneg z)) (.slice ao2 (zlim z).length cap2)).cells
           have hlt := HXR2.out.lt
           clear hb2 hz2))
      have HR3 := hid (HXR2.out)
      obtain ⟨g1, g2, g3⟩ := store_end B2.out HG.out HR3.out HZ2.out
      obtain ⟨c0, c1, f0, f1⟩ := HR3.out.cells
      have hlt := HR3.out.lt
      have HG1 := hid g1
      clear HR3 HZ2 B2 HG HXR2 g1
      generalize zneg (z) = bb at *
      generalize zlim (z) = ll at *
      go_wp2
      exact bodyPost_ret (v := .agg #[.bool bb, .slice ao2 ll.length cap2]) (by simp [results, Tryz.results77, go_sem, g2, g3]) rfl HG1.out
    · go_wp2_with fail
      try rw [HY.out]
      try rw [E3.out]
      try rw [E2.out]
      try rw [E1.out]
      clear HY E1 E2 E3
      obtain ⟨a0, a1, a2, a3⟩ := HXA.out.cells
      obtain ⟨b0, b1, b2, b3⟩ := HXB.out.cells
      obtain ⟨q0, q1, q2, q3⟩ := HXR.out.cells
      have HD := hid ((Below.refl y.heap.size y).drew)
      go_region_held3 (fun w' => w'.cell? ⟨gA, 0, none⟩ = some (.bool false) ∧ w'.cell? ⟨gA, 1, none⟩ = some (.slice ao la.length ca) ∧ w'.cell? ⟨gB, 0, none⟩ = some (.bool true) ∧ w'.cell? ⟨gB, 1, none⟩ = some (.slice bo lb.length cb) ) (exact ⟨by assumption, by assumption, by assumption, by assumption⟩) (first
        | (go_at_call 80
           refine (ref_mul' (by exact HSA.out.below (Hid.out (by assumption))) (by exact HSB.out.below (Hid.out (by assumption))) (by omega) (by omega)).mono ?_
           rintro e w1 ⟨v1, rfl, hs1, hb1⟩
           have hbn := hid (step_below (w := y) (Hid.out (by assumption)) hb1)
           obtain ⟨xa0, xa1, -, -⟩ := (HXA.out.below hbn.out).cells
           obtain ⟨xb0, xb1, -, -⟩ := (HXB.out.below hbn.out).cells
           obtain ⟨xr0, xr1, xr2, xr3⟩ := (HXR.out.below hbn.out).cells
           have HS1 := hid hs1
           clear hs1 hb1)
        | (go_at_call 76
           refine (ref_make _ (by exact HS1.out) HLM.out z (by rw [val_limbs]; exact HZ.out)).mono ?_
           rintro e w2 ⟨v2, rfl, hz2, hb2⟩
           have hbn2 := hid (step_below (w := y) (Hid.out (by assumption)) hb2)
           obtain ⟨ya0, ya1, -, -⟩ := (HXA.out.below hbn2.out).cells
           obtain ⟨yb0, yb1, -, -⟩ := (HXB.out.below hbn2.out).cells
           have HXR2 := hid (HXR.out.below hbn2.out)
           have B2 := hid (B0.out.trans (hbn2.out.mono B0.out.size))
           have HZ2 := hid hz2
           obtain ⟨ao2, cap2, rfl⟩ := hz2.form
           obtain ⟨r0, r1, r2, r3⟩ := HXR2.out.cells
           obtain ⟨za0, za1, -, -⟩ := ((HXA.out.below hbn2.out).other HNE.out.1 (.bool (zneg z)) (.slice ao2 (zlim z).length cap2)).cells
           obtain ⟨zb0, zb1, -, -⟩ := ((HXB.out.below hbn2.out).other HNE.out.2 (.bool (zneg z)) (.slice ao2 (zlim z).length cap2)).cells
           have hlt := HXR2.out.lt
           clear hb2 hz2))
      have HR3 := hid (HXR2.out)
      obtain ⟨g1, g2, g3⟩ := store_end B2.out HG.out HR3.out HZ2.out
      obtain ⟨c0, c1, f0, f1⟩ := HR3.out.cells
      have hlt := HR3.out.lt
      have HG1 := hid g1
      clear HR3 HZ2 B2 HG HXR2 g1
      generalize zneg (z) = bb at *
      generalize zlim (z) = ll at *
      go_wp2
      exact bodyPost_ret (v := .agg #[.bool bb, .slice ao2 ll.length cap2]) (by simp [results, Tryz.results77, go_sem, g2, g3]) rfl HG1.out
  · cases k
    · go_wp2_with fail
      try rw [HY.out]
      try rw [E3.out]
      try rw [E2.out]
      try rw [E1.out]
      clear HY E1 E2 E3
      obtain ⟨a0, a1, a2, a3⟩ := HXA.out.cells
      obtain ⟨b0, b1, b2, b3⟩ := HXB.out.cells
      obtain ⟨q0, q1, q2, q3⟩ := HXR.out.cells
      have HD := hid ((Below.refl y.heap.size y).drew)
      go_region_held3 (fun w' => w'.cell? ⟨gA, 0, none⟩ = some (.bool true) ∧ w'.cell? ⟨gA, 1, none⟩ = some (.slice ao la.length ca) ∧ w'.cell? ⟨gB, 0, none⟩ = some (.bool false) ∧ w'.cell? ⟨gB, 1, none⟩ = some (.slice bo lb.length cb) ) (exact ⟨by assumption, by assumption, by assumption, by assumption⟩) (first
        | (go_at_call 80
           refine (ref_mul' (by exact HSA.out.below (Hid.out (by assumption))) (by exact HSB.out.below (Hid.out (by assumption))) (by omega) (by omega)).mono ?_
           rintro e w1 ⟨v1, rfl, hs1, hb1⟩
           have hbn := hid (step_below (w := y) (Hid.out (by assumption)) hb1)
           obtain ⟨xa0, xa1, -, -⟩ := (HXA.out.below hbn.out).cells
           obtain ⟨xb0, xb1, -, -⟩ := (HXB.out.below hbn.out).cells
           obtain ⟨xr0, xr1, xr2, xr3⟩ := (HXR.out.below hbn.out).cells
           have HS1 := hid hs1
           clear hs1 hb1)
        | (go_at_call 76
           refine (ref_make _ (by exact HS1.out) HLM.out z (by rw [val_limbs]; exact HZ.out)).mono ?_
           rintro e w2 ⟨v2, rfl, hz2, hb2⟩
           have hbn2 := hid (step_below (w := y) (Hid.out (by assumption)) hb2)
           obtain ⟨ya0, ya1, -, -⟩ := (HXA.out.below hbn2.out).cells
           obtain ⟨yb0, yb1, -, -⟩ := (HXB.out.below hbn2.out).cells
           have HXR2 := hid (HXR.out.below hbn2.out)
           have B2 := hid (B0.out.trans (hbn2.out.mono B0.out.size))
           have HZ2 := hid hz2
           obtain ⟨ao2, cap2, rfl⟩ := hz2.form
           obtain ⟨r0, r1, r2, r3⟩ := HXR2.out.cells
           obtain ⟨za0, za1, -, -⟩ := ((HXA.out.below hbn2.out).other HNE.out.1 (.bool (zneg z)) (.slice ao2 (zlim z).length cap2)).cells
           obtain ⟨zb0, zb1, -, -⟩ := ((HXB.out.below hbn2.out).other HNE.out.2 (.bool (zneg z)) (.slice ao2 (zlim z).length cap2)).cells
           have hlt := HXR2.out.lt
           clear hb2 hz2))
      have HR3 := hid (HXR2.out)
      obtain ⟨g1, g2, g3⟩ := store_end B2.out HG.out HR3.out HZ2.out
      obtain ⟨c0, c1, f0, f1⟩ := HR3.out.cells
      have hlt := HR3.out.lt
      have HG1 := hid g1
      clear HR3 HZ2 B2 HG HXR2 g1
      generalize zneg (z) = bb at *
      generalize zlim (z) = ll at *
      go_wp2
      exact bodyPost_ret (v := .agg #[.bool bb, .slice ao2 ll.length cap2]) (by simp [results, Tryz.results77, go_sem, g2, g3]) rfl HG1.out
    · go_wp2_with fail
      try rw [HY.out]
      try rw [E3.out]
      try rw [E2.out]
      try rw [E1.out]
      clear HY E1 E2 E3
      obtain ⟨a0, a1, a2, a3⟩ := HXA.out.cells
      obtain ⟨b0, b1, b2, b3⟩ := HXB.out.cells
      obtain ⟨q0, q1, q2, q3⟩ := HXR.out.cells
      have HD := hid ((Below.refl y.heap.size y).drew)
      go_region_held3 (fun w' => w'.cell? ⟨gA, 0, none⟩ = some (.bool true) ∧ w'.cell? ⟨gA, 1, none⟩ = some (.slice ao la.length ca) ∧ w'.cell? ⟨gB, 0, none⟩ = some (.bool true) ∧ w'.cell? ⟨gB, 1, none⟩ = some (.slice bo lb.length cb) ) (exact ⟨by assumption, by assumption, by assumption, by assumption⟩) (first
        | (go_at_call 80
           refine (ref_mul' (by exact HSA.out.below (Hid.out (by assumption))) (by exact HSB.out.below (Hid.out (by assumption))) (by omega) (by omega)).mono ?_
           rintro e w1 ⟨v1, rfl, hs1, hb1⟩
           have hbn := hid (step_below (w := y) (Hid.out (by assumption)) hb1)
           obtain ⟨xa0, xa1, -, -⟩ := (HXA.out.below hbn.out).cells
           obtain ⟨xb0, xb1, -, -⟩ := (HXB.out.below hbn.out).cells
           obtain ⟨xr0, xr1, xr2, xr3⟩ := (HXR.out.below hbn.out).cells
           have HS1 := hid hs1
           clear hs1 hb1)
        | (go_at_call 76
           refine (ref_make _ (by exact HS1.out) HLM.out z (by rw [val_limbs]; exact HZ.out)).mono ?_
           rintro e w2 ⟨v2, rfl, hz2, hb2⟩
           have hbn2 := hid (step_below (w := y) (Hid.out (by assumption)) hb2)
           obtain ⟨ya0, ya1, -, -⟩ := (HXA.out.below hbn2.out).cells
           obtain ⟨yb0, yb1, -, -⟩ := (HXB.out.below hbn2.out).cells
           have HXR2 := hid (HXR.out.below hbn2.out)
           have B2 := hid (B0.out.trans (hbn2.out.mono B0.out.size))
           have HZ2 := hid hz2
           obtain ⟨ao2, cap2, rfl⟩ := hz2.form
           obtain ⟨r0, r1, r2, r3⟩ := HXR2.out.cells
           obtain ⟨za0, za1, -, -⟩ := ((HXA.out.below hbn2.out).other HNE.out.1 (.bool (zneg z)) (.slice ao2 (zlim z).length cap2)).cells
           obtain ⟨zb0, zb1, -, -⟩ := ((HXB.out.below hbn2.out).other HNE.out.2 (.bool (zneg z)) (.slice ao2 (zlim z).length cap2)).cells
           have hlt := HXR2.out.lt
           clear hb2 hz2))
      have HR3 := hid (HXR2.out)
      obtain ⟨g1, g2, g3⟩ := store_end B2.out HG.out HR3.out HZ2.out
      obtain ⟨c0, c1, f0, f1⟩ := HR3.out.cells
      have hlt := HR3.out.lt
      have HG1 := hid g1
      clear HR3 HZ2 B2 HG HXR2 g1
      generalize zneg (z) = bb at *
      generalize zlim (z) = ll at *
      go_wp2
      exact bodyPost_ret (v := .agg #[.bool bb, .slice ao2 ll.length cap2]) (by simp [results, Tryz.results77, go_sem, g2, g3]) rfl HG1.out
end Go.Proofs.YtjnbonellgpjnaaGreat
