/- prime.Mod and the document's Mod of layer 5 by their contracts. -/
import Derived.Test.YtcogldhjkjiodaaPm1
set_option linter.unusedVariables false
set_option linter.unusedSimpArgs false
namespace Go.Proofs.Ytcogldhjkjiodaa
open Go.RowKit

def modP (z p : Int) : Int := if isP p then z % p else 0
def errP (p : Int) : Int := if isP p then 0 else 50
def IsMod (w : World) (z p : Int) (e : Ending) (w' : World) : Prop := e = .returned (.tuple #[.int .i64 (modP z p), .int .i64 (errP p)]) ∧ Below w.heap.size w w'

set_option maxRecDepth 100000 in
set_option maxHeartbeats 1000000 in
theorem prime_mod {v : Value} {n : Bool} {l : List Nat} {w : World} (h : SeesZ w v n l) (hl : l.length ≤ 17592186044000) (p : Int) (h1 : -9223372036854775808 ≤ p) (h2 : p < 9223372036854775808) :
    Calls Try.prog 7 #[v, .int .i64 p] w fun e w' => IsMod w (zval n l) p e w' := by
  obtain ⟨ma, rfl, hma⟩ := h
  have HMA := hid hma
  obtain ⟨ao, ca, rfl, -, -, -, -, -⟩ := hma
  obtain ⟨y, gA, hy, b, e1, xA⟩ := one_box w (.bool n) (.slice ao l.length ca) 24
  have HY := hid hy.symm; have E1 := hid e1.symm
  have XA := hid xA; have HB0 := hid b
  have HA : Hid (SeesZ y (.agg #[.bool n, .slice ao l.length ca]) n l) := hid ⟨_, rfl, HMA.out.below b⟩
  have HI := hid (prime_is p h1 h2)
  clear hy e1 xA b HMA h1 h2
  cases hp : isP p with
  | false =>
    have HZ : Hid (modP (zval n l) p = 0 ∧ errP p = 50) := by show _ ∧ _; simp [modP, errP, hp]
    rw [hp] at HI
    clear hp HA hl
    go_enter Try.func7, Try.ntmps7
    go_wp2_with fail
    rw [HY.out, E1.out]
    refine (HI.out _).mono ?_
    rintro e w1 ⟨rfl, hb1⟩
    have HB := hid (HB0.out.trans (hb1.mono HB0.out.size))
    clear hb1
    go_wp2_with fail
    go_ret2
    exact ⟨by rw [HZ.out.1, HZ.out.2]; rfl, HB.out⟩
  | true =>
    rw [hp] at HI
    obtain ⟨q, rfl, hq⟩ := isP_true hp
    have hq2 := hq.1
    have hq3 := hq.2.1
    have HZ : Hid (modP (zval n l) q = zval n l % q ∧ errP q = 0) := by show _ ∧ _; simp [modP, errP, hp]
    have HR := hid (fun (w' : World) (h : Below y.heap.size y w') => prime_wholeResidue (HA.out.below h) hl q (by omega) hq3)
    obtain ⟨R, hR⟩ : ∃ R, zval n l % (q : Int) = R := ⟨_, rfl⟩
    rw [hR] at HZ HR
    clear hp HA hl hR hq
    go_enter Try.func7, Try.ntmps7
    go_wp2_with fail
    rw [HY.out, E1.out]
    refine (HI.out _).mono ?_
    rintro e w1 ⟨rfl, hb1⟩
    have HB := hid (HB0.out.trans (hb1.mono HB0.out.size))
    have HC := hid (HR.out w1 hb1)
    obtain ⟨c0, c1, -, -⟩ := (XA.out.below hb1).cells
    clear hb1 HR
    go_wp2_with fail
    refine HC.out.mono ?_
    rintro e w2 ⟨rfl, hb2⟩
    have HB2 := hid (HB.out.trans (hb2.mono HB.out.size))
    clear hb2
    go_wp2_with fail
    go_ret2
    exact ⟨by rw [HZ.out.1, HZ.out.2]; rfl, HB2.out⟩

set_option maxRecDepth 100000 in
set_option maxHeartbeats 4000000 in
theorem ref5_mod_pos {v : Value} {n : Bool} {l : List Nat} {w : World} (h : SeesZ w v n l) (hl : l.length ≤ 100000) (p : Nat) (hq : IsP p) :
    Calls Try.prog 8 #[v, .int .i64 p] w fun e w' => IsMod w (zval n l) p e w' := by
  have hp : 0 < p := by have := hq.1; omega
  have hp2 := hq.2.1
  have HZ0 : Hid (modP (zval n l) p = zval n l % p ∧ errP p = 0) := by show _ ∧ _; simp [modP, errP, isP_of hq]
  have HI := hid (ref_isP (p : Int) (by omega) (by omega))
  rw [isP_of hq] at HI
  obtain ⟨ma, rfl, hma⟩ := h
  have HMA := hid hma
  obtain ⟨ao, ca, rfl, -, -, -, -, -⟩ := hma
  obtain ⟨y, gA, hy, b, e1, xA⟩ := one_box w (.bool n) (.slice ao l.length ca) 24
  have HY := hid hy.symm; have E1 := hid e1.symm
  have XA := hid xA; have HB0 := hid b
  have HA : Hid (SeesZ y (.agg #[.bool n, .slice ao l.length ca]) n l) := hid ⟨_, rfl, HMA.out.below b⟩
  have HO := hid (ref_ofZ (p : Int) (by omega) (by omega))
  obtain ⟨R, hR, hRp⟩ := emod_natAbs_small (zval n l) p hp hp2
  rw [hR] at HZ0
  have HD : Hid (∀ (w' : World) (vz : Value), SeesZ w' (.agg #[.bool n, .slice ao l.length ca]) n l → IsZ w' vz (p : Int) → Calls Try.prog 25 #[.agg #[.bool n, .slice ao l.length ca], vz] w' fun e w'' => ∃ q r, e = .returned (.tuple #[q, r, .bool true]) ∧ (∃ z, IsZ w'' q z) ∧ IsZ w'' r (R : Int) ∧ Below w'.heap.size w' w'') := by
    intro w' vz h1 h2
    have hv : val (zlim (p : Int)) = p := by rw [val_zlim]; rfl
    have hlen : (zlim (p : Int)).length ≤ 1 := zlim_small _ (by omega)
    refine (ref_divZ h1 h2.sees (by omega) (by omega) (by rw [hv]; exact hp)).mono ?_
    rintro e w'' ⟨q, r, he, hq, hr, hb⟩
    rw [zval_plain, hR] at hr
    exact ⟨q, r, he, ⟨_, hq⟩, hr, hb⟩
  clear hy e1 xA b HMA hR hl hq
  go_enter Try.func8, Try.ntmps8
  go_wp2_with fail
  rw [HY.out, E1.out]
  clear HY E1
  refine (HI.out _).mono ?_
  rintro e yi ⟨rfl, hbi⟩
  have HB0' := hid (HB0.out.trans (hbi.mono HB0.out.size))
  have XA' := hid (XA.out.below hbi); have HA' := hid (HA.out.below hbi)
  clear HB0 XA HA hbi HI
  have HB0 := HB0'; have XA := XA'; have HA := HA'
  clear HB0' XA' HA'
  go_wp2_with fail
  obtain ⟨a0, a1, a2, a3⟩ := XA.out.cells
  have HS0 := hid (Below.refl yi.heap.size yi).drew
  go_region_held3 (fun w' => w'.cell? ⟨gA, 0, none⟩ = some (.bool n) ∧ w'.cell? ⟨gA, 1, none⟩ = some (.slice ao l.length ca) ∧ Hid (Below yi.heap.size yi w')) (first | (refine keepA XA.out ?_; repeat' (first | with_reducible exact hbd.out | with_reducible exact hbn.out | with_reducible exact HS0.out | with_reducible exact Below.refl _ _ | with_reducible refine below_a1 ?_ _ | with_reducible refine below_d ?_ | with_reducible refine below_s ?_ (by omega) _ _))) (first
    | (go_at_call 26
       refine (HO.out _).mono ?_
       rintro e wx ⟨vz, rfl, hz, hb⟩
       have hbn : Hid (Below yi.heap.size yi wx) := hid (by refine step_below ?_ hb; repeat' (first | with_reducible exact HS0.out | with_reducible exact Below.refl _ _ | with_reducible refine below_a1 ?_ _ | with_reducible refine below_d ?_ | with_reducible refine below_s ?_ (by omega) _ _))
       obtain ⟨xa0, xa1, -, -⟩ := (XA.out.below hbn.out).cells
       first | (have N2 := hid (new2 hb)) | (have N2 := hid (new2d hb)) | (have N2 := hid (new2e hb)) | (have N1 := hid (new1 hb)) | (have N1 := hid (new1d hb)) | skip
       obtain ⟨zo, zc, rfl⟩ := hz.form
       have HZ := hid hz; clear hz hb)
    | (go_at_call 25
       refine (HD.out _ _ (by refine HA.out.below ?_; repeat' (first | with_reducible exact hbn.out | with_reducible refine below_a1 ?_ _ | with_reducible refine below_d ?_ | with_reducible refine below_s ?_ (by omega) _ _)) (by refine HZ.out.below ?_; repeat' (first | with_reducible exact Below.refl _ _ | with_reducible refine below_a1 ?_ _ | with_reducible refine below_d ?_ | with_reducible refine below_s ?_ (by omega) _ _))).mono ?_
       rintro e wd ⟨vq, vr, rfl, ⟨zq, hq⟩, hr, hb⟩
       have hbd : Hid (Below yi.heap.size yi wd) := hid (by refine step_below ?_ hb; repeat' (first | with_reducible exact hbn.out | with_reducible refine below_a1 ?_ _ | with_reducible refine below_d ?_ | with_reducible refine below_s ?_ (by omega) _ _))
       have hxd : Below wx.heap.size wx wd := (by refine step_below ?_ hb; repeat' (first | with_reducible exact Below.refl _ _ | with_reducible refine below_a1 ?_ _ | with_reducible refine below_d ?_ | with_reducible refine below_s ?_ (by omega) _ _))
       obtain ⟨ya0, ya1, -, -⟩ := (XA.out.below hbd.out).cells
       have hsz1 := hbn.out.size
       have hsz2 := hxd.size
       try (have n1 := N1.out.lt; have M1 := N1.out.below hxd; obtain ⟨m0, m1, m2, m3⟩ := M1.cells; have m4 := M1.lt)
       try (have n1 := N2.out.1.lt; have n2 := N2.out.2.lt; have M1 := N2.out.1.below hxd; have M2 := N2.out.2.below hxd; obtain ⟨m0, m1, m2, m3⟩ := M1.cells; obtain ⟨k0, k1, k2, k3⟩ := M2.cells; have m4 := M1.lt; have k4 := M2.lt)
       first | (have M3 := (new2 hb).1; have M4 := (new2 hb).2; obtain ⟨i0, i1, i2, i3⟩ := M3.cells; obtain ⟨j0, j1, j2, j3⟩ := M4.cells; have i4 := M3.lt; have j4 := M4.lt) | (have M3 := new1 hb; obtain ⟨i0, i1, i2, i3⟩ := M3.cells; have i4 := M3.lt) | skip
       obtain ⟨qo, qc, rfl⟩ := hq.form
       obtain ⟨ro, rc, rfl⟩ := hr.form
       have HR := hid hr; clear hr hb hq))
  all_goals
    first
    | (refine atWorld (fun w' => IsZ w' (.agg #[(.bool (zneg (R : Int))), (.slice ro (zlim (R : Int)).length rc)]) (R : Int) ∧ Box w' (wd.heap.size + 1) (.bool (zneg (R : Int))) (.slice ro (zlim (R : Int)).length rc) ∧ Below yi.heap.size yi w') ?_ ?_; focus ((refine ⟨?_, ?_, ?_⟩ <;> repeat' (first | with_reducible exact HR.out | with_reducible exact hbd.out | with_reducible exact M1 | with_reducible exact M2 | with_reducible exact M3 | with_reducible exact M4 | with_reducible refine IsZ.alloc1 ?_ _ | with_reducible apply IsZ.box | with_reducible apply Box.set | (with_reducible apply Box.other; rotate_left; omega) | (with_reducible refine Box.newAt _ _ _ ?_; simp [Deep.nblk_alloc, Deep.nblk_setCell]; done) | with_reducible refine Box.alloc ?_ _ | with_reducible refine below_a1 ?_ _ | with_reducible refine below_s ?_ (by omega) _ _)); done))
    | (refine atWorld (fun w' => IsZ w' (.agg #[(.bool (zneg (R : Int))), (.slice ro (zlim (R : Int)).length rc)]) (R : Int) ∧ Box w' (wd.heap.size) (.bool (zneg (R : Int))) (.slice ro (zlim (R : Int)).length rc) ∧ Below yi.heap.size yi w') ?_ ?_; focus ((refine ⟨?_, ?_, ?_⟩ <;> repeat' (first | with_reducible exact HR.out | with_reducible exact hbd.out | with_reducible exact M1 | with_reducible exact M2 | with_reducible exact M3 | with_reducible exact M4 | with_reducible refine IsZ.alloc1 ?_ _ | with_reducible apply IsZ.box | with_reducible apply Box.set | (with_reducible apply Box.other; rotate_left; omega) | (with_reducible refine Box.newAt _ _ _ ?_; simp [Deep.nblk_alloc, Deep.nblk_setCell]; done) | with_reducible refine Box.alloc ?_ _ | with_reducible refine below_a1 ?_ _ | with_reducible refine below_s ?_ (by omega) _ _)); done))
    | (refine atWorld (fun w' => IsZ w' (.agg #[(.bool (zneg (R : Int))), (.slice ro (zlim (R : Int)).length rc)]) (R : Int) ∧ Box w' (wx.heap.size + 1) (.bool (zneg (R : Int))) (.slice ro (zlim (R : Int)).length rc) ∧ Below yi.heap.size yi w') ?_ ?_; focus ((refine ⟨?_, ?_, ?_⟩ <;> repeat' (first | with_reducible exact HR.out | with_reducible exact hbd.out | with_reducible exact M1 | with_reducible exact M2 | with_reducible exact M3 | with_reducible exact M4 | with_reducible refine IsZ.alloc1 ?_ _ | with_reducible apply IsZ.box | with_reducible apply Box.set | (with_reducible apply Box.other; rotate_left; omega) | (with_reducible refine Box.newAt _ _ _ ?_; simp [Deep.nblk_alloc, Deep.nblk_setCell]; done) | with_reducible refine Box.alloc ?_ _ | with_reducible refine below_a1 ?_ _ | with_reducible refine below_s ?_ (by omega) _ _)); done))
    | (refine atWorld (fun w' => IsZ w' (.agg #[(.bool (zneg (R : Int))), (.slice ro (zlim (R : Int)).length rc)]) (R : Int) ∧ Box w' (wx.heap.size) (.bool (zneg (R : Int))) (.slice ro (zlim (R : Int)).length rc) ∧ Below yi.heap.size yi w') ?_ ?_; focus ((refine ⟨?_, ?_, ?_⟩ <;> repeat' (first | with_reducible exact HR.out | with_reducible exact hbd.out | with_reducible exact M1 | with_reducible exact M2 | with_reducible exact M3 | with_reducible exact M4 | with_reducible refine IsZ.alloc1 ?_ _ | with_reducible apply IsZ.box | with_reducible apply Box.set | (with_reducible apply Box.other; rotate_left; omega) | (with_reducible refine Box.newAt _ _ _ ?_; simp [Deep.nblk_alloc, Deep.nblk_setCell]; done) | with_reducible refine Box.alloc ?_ _ | with_reducible refine below_a1 ?_ _ | with_reducible refine below_s ?_ (by omega) _ _)); done))
    | (refine atWorld (fun w' => IsZ w' (.agg #[(.bool (zneg (R : Int))), (.slice ro (zlim (R : Int)).length rc)]) (R : Int) ∧ Box w' (yi.heap.size + 1) (.bool (zneg (R : Int))) (.slice ro (zlim (R : Int)).length rc) ∧ Below yi.heap.size yi w') ?_ ?_; focus ((refine ⟨?_, ?_, ?_⟩ <;> repeat' (first | with_reducible exact HR.out | with_reducible exact hbd.out | with_reducible exact M1 | with_reducible exact M2 | with_reducible exact M3 | with_reducible exact M4 | with_reducible refine IsZ.alloc1 ?_ _ | with_reducible apply IsZ.box | with_reducible apply Box.set | (with_reducible apply Box.other; rotate_left; omega) | (with_reducible refine Box.newAt _ _ _ ?_; simp [Deep.nblk_alloc, Deep.nblk_setCell]; done) | with_reducible refine Box.alloc ?_ _ | with_reducible refine below_a1 ?_ _ | with_reducible refine below_s ?_ (by omega) _ _)); done))
    | (refine atWorld (fun w' => IsZ w' (.agg #[(.bool (zneg (R : Int))), (.slice ro (zlim (R : Int)).length rc)]) (R : Int) ∧ Box w' (yi.heap.size) (.bool (zneg (R : Int))) (.slice ro (zlim (R : Int)).length rc) ∧ Below yi.heap.size yi w') ?_ ?_; focus ((refine ⟨?_, ?_, ?_⟩ <;> repeat' (first | with_reducible exact HR.out | with_reducible exact hbd.out | with_reducible exact M1 | with_reducible exact M2 | with_reducible exact M3 | with_reducible exact M4 | with_reducible refine IsZ.alloc1 ?_ _ | with_reducible apply IsZ.box | with_reducible apply Box.set | (with_reducible apply Box.other; rotate_left; omega) | (with_reducible refine Box.newAt _ _ _ ?_; simp [Deep.nblk_alloc, Deep.nblk_setCell]; done) | with_reducible refine Box.alloc ?_ _ | with_reducible refine below_a1 ?_ _ | with_reducible refine below_s ?_ (by omega) _ _)); done))
    rintro wf ⟨hz, hx, hbf⟩
    have HF := hid (HB0.out.trans (hbf.mono HB0.out.size))
    have HS := hid (ref_smallZ hz.sees (by have := zlim_small (R : Int) (by omega); omega))
    rw [smallI_nat R (by omega)] at HS
    obtain ⟨c0, c1, c2, c3⟩ := hx.cells
    clear hz hx hbf HR
    go_wp2_with fail
    refine HS.out.mono ?_
    rintro e w9 ⟨rfl, hb9⟩
    have H9 := hid (HF.out.trans (hb9.mono HF.out.size))
    clear hb9
    go_wp2_with fail
    go_ret2
    exact ⟨by rw [HZ0.out.1, HZ0.out.2]; rfl, H9.out⟩

set_option maxRecDepth 100000 in
theorem ref5_mod {v : Value} {n : Bool} {l : List Nat} {w : World} (h : SeesZ w v n l) (hl : l.length ≤ 100000) (p : Int) (h1 : -9223372036854775808 ≤ p) (h2 : p < 9223372036854775808) :
    Calls Try.prog 8 #[v, .int .i64 p] w fun e w' => IsMod w (zval n l) p e w' := by
  cases hp : isP p with
  | true =>
    obtain ⟨q, rfl, hq⟩ := isP_true hp
    exact ref5_mod_pos h hl q hq
  | false =>
    obtain ⟨ma, rfl, hma⟩ := h
    obtain ⟨ao, ca, rfl, -, -, -, -, -⟩ := hma
    obtain ⟨y, gA, hy, b, e1, xA⟩ := one_box w (.bool n) (.slice ao l.length ca) 24
    have HY := hid hy.symm; have E1 := hid e1.symm
    have HB0 := hid b
    have HI := hid (ref_isP p h1 h2)
    have HZ : Hid (modP (zval n l) p = 0 ∧ errP p = 50) := by show _ ∧ _; simp [modP, errP, hp]
    rw [hp] at HI
    clear hp hl hy e1 xA b h1 h2
    go_enter Try.func8, Try.ntmps8
    go_wp2_with fail
    rw [HY.out, E1.out]
    refine (HI.out _).mono ?_
    rintro e w1 ⟨rfl, hb1⟩
    have HB := hid (HB0.out.trans (hb1.mono HB0.out.size))
    clear hb1
    go_wp2_with fail
    go_ret2
    exact ⟨by rw [HZ.out.1, HZ.out.2]; rfl, HB.out⟩
end Go.Proofs.Ytcogldhjkjiodaa
