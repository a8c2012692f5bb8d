/- prime.wholeResidue, prime.Mod; the document's Mod of layer 5, by their contracts. -/
import Derived.Test.YtcogldhjkjiodaaPr5
import Derived.Test.YtcogldhjkjiodaaPrB
import Derived.Test.YtcogldhjkjiodaaSm
import Derived.Deep.RegionHeld3
set_option linter.unusedVariables false
set_option linter.unusedSimpArgs false
namespace Go.Proofs.Ytcogldhjkjiodaa
open Go.RowKit

theorem keepA {y w : World} {g : Nat} {a b : Value} (hx : Box y g a b) (h : Below y.heap.size y w) : w.cell? ⟨g, 0, none⟩ = some a ∧ w.cell? ⟨g, 1, none⟩ = some b ∧ Hid (Below y.heap.size y w) :=
  ⟨(hx.below h).cells.1, (hx.below h).cells.2.1, h⟩
theorem below_a1 {y w : World} (h : Below y.heap.size y w) (o : Obj) : Below y.heap.size y (w.alloc o) := h.alloc h.size o
theorem below_s {y w : World} {g : Nat} (h : Below y.heap.size y w) (hg : y.heap.size ≤ g) (a b : Value) : Below y.heap.size y ((w.setCell ⟨g, 0, none⟩ a).setCell ⟨g, 1, none⟩ b) := below_box h hg h.size a b
theorem below_d {y w : World} (h : Below y.heap.size y w) : Below y.heap.size y w.drew := h.drew
theorem new1 {w w2 : World} {a b : Value} {t : TypeId} (hb : Below (w.alloc (.cells #[a, b] t)).heap.size (w.alloc (.cells #[a, b] t)) w2) : Box w2 w.heap.size a b := (Box.new w a b t).below hb
theorem new2 {w w2 : World} {a b c d : Value} {t u : TypeId} (hb : Below ((w.alloc (.cells #[a, b] t)).alloc (.cells #[c, d] u)).heap.size ((w.alloc (.cells #[a, b] t)).alloc (.cells #[c, d] u)) w2) : Box w2 w.heap.size a b ∧ Box w2 (w.heap.size + 1) c d := by
  refine ⟨((Box.new w a b t).alloc _).below hb, ?_⟩
  have := (Box.new (w.alloc (.cells #[a, b] t)) c d u).below hb
  rwa [Deep.nblk_alloc] at this

theorem new1d {w w2 : World} {a b : Value} {t : TypeId} (hb : Below (w.alloc (.cells #[a, b] t)).drew.heap.size (w.alloc (.cells #[a, b] t)).drew w2) : Box w2 w.heap.size a b := ((Box.new w a b t).below (Below.refl _ _).drew).below hb
theorem new2d {w w2 : World} {a b c d : Value} {t u : TypeId} (hb : Below ((w.alloc (.cells #[a, b] t)).alloc (.cells #[c, d] u)).drew.heap.size ((w.alloc (.cells #[a, b] t)).alloc (.cells #[c, d] u)).drew w2) : Box w2 w.heap.size a b ∧ Box w2 (w.heap.size + 1) c d := by
  refine ⟨(((Box.new w a b t).alloc _).below (Below.refl _ _).drew).below hb, ?_⟩
  have := ((Box.new (w.alloc (.cells #[a, b] t)) c d u).below (Below.refl _ _).drew).below hb
  rwa [Deep.nblk_alloc] at this
theorem new2e {w w2 : World} {a b c d : Value} {t u : TypeId} (hb : Below ((w.alloc (.cells #[a, b] t)).drew.alloc (.cells #[c, d] u)).heap.size ((w.alloc (.cells #[a, b] t)).drew.alloc (.cells #[c, d] u)) w2) : Box w2 w.heap.size a b ∧ Box w2 (w.heap.size + 1) c d := by
  refine ⟨(((Box.new w a b t).below (Below.refl _ _).drew).alloc _).below hb, ?_⟩
  have := (Box.new (w.alloc (.cells #[a, b] t)).drew c d u).below hb
  rw [show (w.alloc (.cells #[a, b] t)).drew.heap.size = w.heap.size + 1 from Deep.nblk_alloc _ _] at this
  exact this

theorem atWorld {J : World → Prop} {W : World} (S : World → Prop) (h : S W) (k : ∀ w', S w' → J w') : J W := k W h
theorem Box.newAt {w : World} {P : Nat} (a b : Value) (t : TypeId) (e : w.heap.size = P) : Box (w.alloc (.cells #[a, b] t)) P a b := e ▸ Box.new w a b t
theorem IsZ.alloc1 {w : World} {v : Value} {z : Int} (h : IsZ w v z) (o : Obj) : IsZ (w.alloc o) v z := h.below ((Below.refl _ w).alloc (Nat.le_refl _) o)
theorem smallI_nat (R : Nat) (h : R < 2147483648) : smallI (zneg (R : Int)) (zlim (R : Int)) = (R : Int) := by
  unfold smallI; rw [if_pos (by rw [val_zlim]; omega), zval_plain]

theorem emod_natAbs_small (z : Int) (p : Nat) (hp : 0 < p) (hp2 : p < 2147483648) : ∃ r : Nat, z % (p : Int) = r ∧ r < p :=
  ⟨(z % (p : Int)).toNat, by have := Int.emod_nonneg z (show (p : Int) ≠ 0 by omega); omega, by have := Int.emod_nonneg z (show (p : Int) ≠ 0 by omega); have := Int.emod_lt_of_pos z (show 0 < (p : Int) by omega); omega⟩

set_option maxRecDepth 100000 in
set_option maxHeartbeats 4000000 in
theorem prime_wholeResidue {v : Value} {n : Bool} {l : List Nat} {w : World} (h : SeesZ w v n l) (hl : l.length ≤ 17592186044000) (p : Nat) (hp : 0 < p) (hp2 : p < 2147483648) :
    Calls Try.prog 23 #[v, .int .i64 p] w fun e w' => e = .returned (.int .i64 (zval n l % (p : Int))) ∧ Below w.heap.size w w' := by
  obtain ⟨ma, rfl, hma⟩ := h
  have HMA := hid hma
  obtain ⟨ao, ca, rfl, -, -, -, -, -⟩ := hma
  obtain ⟨y, gA, hy, b, e1, xA⟩ := one_box w (.bool n) (.slice ao l.length ca) 24
  have HY := hid hy.symm; have E1 := hid e1.symm
  have XA := hid xA; have HB0 := hid b
  have HA : Hid (SeesZ y (.agg #[.bool n, .slice ao l.length ca]) n l) := hid ⟨_, rfl, HMA.out.below b⟩
  have HO := hid (whole_of (p : Int) (by omega) (by omega))
  obtain ⟨R, hR, hRp⟩ := emod_natAbs_small (zval n l) p hp hp2
  rw [hR]
  have HD : Hid (∀ (w' : World) (vz : Value), SeesZ w' (.agg #[.bool n, .slice ao l.length ca]) n l → IsZ w' vz (p : Int) → Calls Try.prog 43 #[.agg #[.bool n, .slice ao l.length ca], vz] w' fun e w'' => ∃ q r, e = .returned (.tuple #[q, r, .bool true]) ∧ (∃ z, IsZ w'' q z) ∧ IsZ w'' r (R : Int) ∧ Below w'.heap.size w' w'') := by
    intro w' vz h1 h2
    have hv : val (zlim (p : Int)) = p := by rw [val_zlim]; rfl
    have hlen : (zlim (p : Int)).length ≤ 1 := zlim_small _ (by omega)
    refine (whole_div h1 h2.sees (by omega) (by omega) (by rw [hv]; exact hp)).mono ?_
    rintro e w'' ⟨q, r, he, hq, hr, hb⟩
    rw [zval_plain, hR] at hr
    exact ⟨q, r, he, ⟨_, hq⟩, hr, hb⟩
  clear hy e1 xA b HMA hR hl
  go_enter Try.func23, Try.ntmps23
  go_wp2_with fail
  rw [HY.out, E1.out]
  clear HY E1
  obtain ⟨a0, a1, a2, a3⟩ := XA.out.cells
  have HS0 := hid (Below.refl y.heap.size y).drew
  go_region_held3 (fun w' => w'.cell? ⟨gA, 0, none⟩ = some (.bool n) ∧ w'.cell? ⟨gA, 1, none⟩ = some (.slice ao l.length ca) ∧ Hid (Below y.heap.size y w')) (first | (refine keepA XA.out ?_; repeat' (first | with_reducible exact hbd.out | with_reducible exact hbn.out | with_reducible exact HS0.out | with_reducible exact Below.refl _ _ | with_reducible refine below_a1 ?_ _ | with_reducible refine below_d ?_ | with_reducible refine below_s ?_ (by omega) _ _))) (first
    | (go_at_call 44
       refine (HO.out _).mono ?_
       rintro e wx ⟨vz, rfl, hz, hb⟩
       have hbn : Hid (Below y.heap.size y wx) := hid (by refine step_below ?_ hb; repeat' (first | with_reducible exact HS0.out | with_reducible exact Below.refl _ _ | with_reducible refine below_a1 ?_ _ | with_reducible refine below_d ?_ | with_reducible refine below_s ?_ (by omega) _ _))
       obtain ⟨xa0, xa1, -, -⟩ := (XA.out.below hbn.out).cells
       first | (have N2 := hid (new2 hb)) | (have N2 := hid (new2d hb)) | (have N2 := hid (new2e hb)) | (have N1 := hid (new1 hb)) | (have N1 := hid (new1d hb)) | skip
       obtain ⟨zo, zc, rfl⟩ := hz.form
       have HZ := hid hz; clear hz hb)
    | (go_at_call 43
       refine (HD.out _ _ (by refine HA.out.below ?_; repeat' (first | with_reducible exact hbn.out | with_reducible refine below_a1 ?_ _ | with_reducible refine below_d ?_ | with_reducible refine below_s ?_ (by omega) _ _)) (by refine HZ.out.below ?_; repeat' (first | with_reducible exact Below.refl _ _ | with_reducible refine below_a1 ?_ _ | with_reducible refine below_d ?_ | with_reducible refine below_s ?_ (by omega) _ _))).mono ?_
       rintro e wd ⟨vq, vr, rfl, ⟨zq, hq⟩, hr, hb⟩
       have hbd : Hid (Below y.heap.size y wd) := hid (by refine step_below ?_ hb; repeat' (first | with_reducible exact hbn.out | with_reducible refine below_a1 ?_ _ | with_reducible refine below_d ?_ | with_reducible refine below_s ?_ (by omega) _ _))
       have hxd : Below wx.heap.size wx wd := (by refine step_below ?_ hb; repeat' (first | with_reducible exact Below.refl _ _ | with_reducible refine below_a1 ?_ _ | with_reducible refine below_d ?_ | with_reducible refine below_s ?_ (by omega) _ _))
       obtain ⟨ya0, ya1, -, -⟩ := (XA.out.below hbd.out).cells
       have hsz1 := hbn.out.size
       have hsz2 := hxd.size
       try (have n1 := N1.out.lt; have M1 := N1.out.below hxd; obtain ⟨m0, m1, m2, m3⟩ := M1.cells; have m4 := M1.lt)
       try (have n1 := N2.out.1.lt; have n2 := N2.out.2.lt; have M1 := N2.out.1.below hxd; have M2 := N2.out.2.below hxd; obtain ⟨m0, m1, m2, m3⟩ := M1.cells; obtain ⟨k0, k1, k2, k3⟩ := M2.cells; have m4 := M1.lt; have k4 := M2.lt)
       first | (have M3 := (new2 hb).1; have M4 := (new2 hb).2; obtain ⟨i0, i1, i2, i3⟩ := M3.cells; obtain ⟨j0, j1, j2, j3⟩ := M4.cells; have i4 := M3.lt; have j4 := M4.lt) | (have M3 := new1 hb; obtain ⟨i0, i1, i2, i3⟩ := M3.cells; have i4 := M3.lt) | skip
       obtain ⟨qo, qc, rfl⟩ := hq.form
       obtain ⟨ro, rc, rfl⟩ := hr.form
       have HR := hid hr; clear hr hb hq))
  all_goals
    first
    | (refine atWorld (fun w' => IsZ w' (.agg #[(.bool (zneg (R : Int))), (.slice ro (zlim (R : Int)).length rc)]) (R : Int) ∧ Box w' (wd.heap.size + 1) (.bool (zneg (R : Int))) (.slice ro (zlim (R : Int)).length rc) ∧ Below y.heap.size y w') ?_ ?_; focus ((refine ⟨?_, ?_, ?_⟩ <;> repeat' (first | with_reducible exact HR.out | with_reducible exact hbd.out | with_reducible exact M1 | with_reducible exact M2 | with_reducible exact M3 | with_reducible exact M4 | with_reducible refine IsZ.alloc1 ?_ _ | with_reducible apply IsZ.box | with_reducible apply Box.set | (with_reducible apply Box.other; rotate_left; omega) | (with_reducible refine Box.newAt _ _ _ ?_; simp [Deep.nblk_alloc, Deep.nblk_setCell]; done) | with_reducible refine Box.alloc ?_ _ | with_reducible refine below_a1 ?_ _ | with_reducible refine below_s ?_ (by omega) _ _)); done))
    | (refine atWorld (fun w' => IsZ w' (.agg #[(.bool (zneg (R : Int))), (.slice ro (zlim (R : Int)).length rc)]) (R : Int) ∧ Box w' (wd.heap.size) (.bool (zneg (R : Int))) (.slice ro (zlim (R : Int)).length rc) ∧ Below y.heap.size y w') ?_ ?_; focus ((refine ⟨?_, ?_, ?_⟩ <;> repeat' (first | with_reducible exact HR.out | with_reducible exact hbd.out | with_reducible exact M1 | with_reducible exact M2 | with_reducible exact M3 | with_reducible exact M4 | with_reducible refine IsZ.alloc1 ?_ _ | with_reducible apply IsZ.box | with_reducible apply Box.set | (with_reducible apply Box.other; rotate_left; omega) | (with_reducible refine Box.newAt _ _ _ ?_; simp [Deep.nblk_alloc, Deep.nblk_setCell]; done) | with_reducible refine Box.alloc ?_ _ | with_reducible refine below_a1 ?_ _ | with_reducible refine below_s ?_ (by omega) _ _)); done))
    | (refine atWorld (fun w' => IsZ w' (.agg #[(.bool (zneg (R : Int))), (.slice ro (zlim (R : Int)).length rc)]) (R : Int) ∧ Box w' (wx.heap.size + 1) (.bool (zneg (R : Int))) (.slice ro (zlim (R : Int)).length rc) ∧ Below y.heap.size y w') ?_ ?_; focus ((refine ⟨?_, ?_, ?_⟩ <;> repeat' (first | with_reducible exact HR.out | with_reducible exact hbd.out | with_reducible exact M1 | with_reducible exact M2 | with_reducible exact M3 | with_reducible exact M4 | with_reducible refine IsZ.alloc1 ?_ _ | with_reducible apply IsZ.box | with_reducible apply Box.set | (with_reducible apply Box.other; rotate_left; omega) | (with_reducible refine Box.newAt _ _ _ ?_; simp [Deep.nblk_alloc, Deep.nblk_setCell]; done) | with_reducible refine Box.alloc ?_ _ | with_reducible refine below_a1 ?_ _ | with_reducible refine below_s ?_ (by omega) _ _)); done))
    | (refine atWorld (fun w' => IsZ w' (.agg #[(.bool (zneg (R : Int))), (.slice ro (zlim (R : Int)).length rc)]) (R : Int) ∧ Box w' (wx.heap.size) (.bool (zneg (R : Int))) (.slice ro (zlim (R : Int)).length rc) ∧ Below y.heap.size y w') ?_ ?_; focus ((refine ⟨?_, ?_, ?_⟩ <;> repeat' (first | with_reducible exact HR.out | with_reducible exact hbd.out | with_reducible exact M1 | with_reducible exact M2 | with_reducible exact M3 | with_reducible exact M4 | with_reducible refine IsZ.alloc1 ?_ _ | with_reducible apply IsZ.box | with_reducible apply Box.set | (with_reducible apply Box.other; rotate_left; omega) | (with_reducible refine Box.newAt _ _ _ ?_; simp [Deep.nblk_alloc, Deep.nblk_setCell]; done) | with_reducible refine Box.alloc ?_ _ | with_reducible refine below_a1 ?_ _ | with_reducible refine below_s ?_ (by omega) _ _)); done))
    | (refine atWorld (fun w' => IsZ w' (.agg #[(.bool (zneg (R : Int))), (.slice ro (zlim (R : Int)).length rc)]) (R : Int) ∧ Box w' (y.heap.size + 1) (.bool (zneg (R : Int))) (.slice ro (zlim (R : Int)).length rc) ∧ Below y.heap.size y w') ?_ ?_; focus ((refine ⟨?_, ?_, ?_⟩ <;> repeat' (first | with_reducible exact HR.out | with_reducible exact hbd.out | with_reducible exact M1 | with_reducible exact M2 | with_reducible exact M3 | with_reducible exact M4 | with_reducible refine IsZ.alloc1 ?_ _ | with_reducible apply IsZ.box | with_reducible apply Box.set | (with_reducible apply Box.other; rotate_left; omega) | (with_reducible refine Box.newAt _ _ _ ?_; simp [Deep.nblk_alloc, Deep.nblk_setCell]; done) | with_reducible refine Box.alloc ?_ _ | with_reducible refine below_a1 ?_ _ | with_reducible refine below_s ?_ (by omega) _ _)); done))
    | (refine atWorld (fun w' => IsZ w' (.agg #[(.bool (zneg (R : Int))), (.slice ro (zlim (R : Int)).length rc)]) (R : Int) ∧ Box w' (y.heap.size) (.bool (zneg (R : Int))) (.slice ro (zlim (R : Int)).length rc) ∧ Below y.heap.size y w') ?_ ?_; focus ((refine ⟨?_, ?_, ?_⟩ <;> repeat' (first | with_reducible exact HR.out | with_reducible exact hbd.out | with_reducible exact M1 | with_reducible exact M2 | with_reducible exact M3 | with_reducible exact M4 | with_reducible refine IsZ.alloc1 ?_ _ | with_reducible apply IsZ.box | with_reducible apply Box.set | (with_reducible apply Box.other; rotate_left; omega) | (with_reducible refine Box.newAt _ _ _ ?_; simp [Deep.nblk_alloc, Deep.nblk_setCell]; done) | with_reducible refine Box.alloc ?_ _ | with_reducible refine below_a1 ?_ _ | with_reducible refine below_s ?_ (by omega) _ _)); done))
    rintro wf ⟨hz, hx, hbf⟩
    have HF := hid (HB0.out.trans (hbf.mono HB0.out.size))
    have HS := hid (whole_small hz.sees)
    rw [smallI_nat R (by omega)] at HS
    obtain ⟨c0, c1, c2, c3⟩ := hx.cells
    clear hz hx hbf HR
    go_wp2_with fail
    refine HS.out.mono ?_
    rintro e w9 ⟨rfl, hb9⟩
    have H9 := hid (HF.out.trans (hb9.mono HF.out.size))
    clear hb9
    go_wp2_with fail
    go_ret
    exact ⟨rfl, H9.out⟩
end Go.Proofs.Ytcogldhjkjiodaa
