/- The document's To of layer 4 by its contract. -/
import Derived.Test.YtjnbonellgpjnaaGreatTc
import Derived.Test.YtjnbonellgpjnaaGreatDr
import Derived.Test.YtjnbonellgpjnaaGreatDs
import Derived.Test.YtjnbonellgpjnaaGreatCb
set_option linter.unusedVariables false
set_option linter.unusedSimpArgs false
namespace Go.Proofs.YtjnbonellgpjnaaGreat
open Go.RowKit

theorem SeesZ.mag {w : World} {b : Bool} {u : Value} {n : Bool} {l : List Nat} (h : SeesZ w (.agg #[.bool b, u]) n l) : Sees w u l := by
  obtain ⟨m, e, hm⟩ := h
  simp only [Value.agg.injEq, Array.mk.injEq, List.cons.injEq, and_true] at e
  obtain ⟨e1, e2⟩ := e
  subst e2; exact hm

set_option maxRecDepth 100000 in
set_option maxHeartbeats 4000000 in
theorem ref4_to {v : Value} {n : Bool} {l d : List Nat} {w : World} (h : SeesQ w v n l d) (hl : l.length ≤ 200) (hd : d.length ≤ 200) :
    Calls Tryz.prog 12 #[v] w fun e w' => e = .returned (.float .f64 (tq (qnum (zval n l) (val d)) (qden (zval n l) (val d)))) ∧ Below w.heap.size w w' := by
  have hlA := qnum_len (n := n) (l := l) (by obtain ⟨_, _, _, h1, _⟩ := h; exact h1.ok) (val d)
  have hlC := qden_len (m := d) (by obtain ⟨_, _, _, _, h1⟩ := h; exact h1.ok) (zval n l)
  obtain ⟨ao, ac, bo, bc, rfl⟩ := id h.form
  obtain ⟨y, hy⟩ : ∃ y, y = w.alloc (.cells #[.bool n, .slice ao l.length ac, .slice bo d.length bc] 26) := ⟨_, rfl⟩
  have bl : Below w.heap.size w y := by rw [hy]; exact (Below.refl _ w).alloc (Nat.le_refl _) _
  have xA : Blk y w.heap.size #[.bool n, .slice ao l.length ac, .slice bo d.length bc] := by rw [hy]; exact Blk.new ..
  have HPL := hid (ref_plainQ (h.below bl) (by omega) (by omega))
  have zC := qden_ne (zval n l) (val d)
  obtain ⟨A, hA⟩ : ∃ z, qnum (zval n l) (val d) = z := ⟨_, rfl⟩
  obtain ⟨C, hC⟩ : ∃ z, qden (zval n l) (val d) = z := ⟨_, rfl⟩
  rw [hA] at hlA HPL ⊢
  rw [hC] at hlC HPL zC ⊢
  obtain ⟨g, hg⟩ : ∃ g, g = w.heap.size := ⟨_, rfl⟩
  rw [← hg] at xA
  have g1 : w.heap.size ≤ g := by omega
  have HGE := hid g1
  have HY := hid hy.symm; have HG := hid hg.symm; have HBel := hid bl; have XA := hid xA
  have HLA := hid hlA; have HLC := hid hlC; have HZC := hid zC
  clear hy hg bl xA h g1 hA hC hlA hlC zC
  go_enter Tryz.func12, Tryz.ntmps12
  go_wp2_with fail
  rw [HY.out, HG.out]
  clear HY HG
  refine HPL.out.mono ?_
  rintro e w1 ⟨v1, rfl, hq1, hb1⟩
  obtain ⟨p1, p2, p3, p4, rfl⟩ := hq1.form
  have ZA := XA.out.below hb1
  have HW1 := HBel.out.trans (hb1.mono HBel.out.size)
  have HS : Hid (IsQ (((w1.setCell ⟨g, 0, none⟩ (.bool (zneg A))).setCell ⟨g, 1, none⟩ (.slice p1 (zlim A).length p2)).setCell ⟨g, 2, none⟩ (.slice p3 (limbs C).length p4)) (.agg #[.bool (zneg A), .slice p1 (zlim A).length p2, .slice p3 (limbs C).length p4]) A C ∧ Blk (((w1.setCell ⟨g, 0, none⟩ (.bool (zneg A))).setCell ⟨g, 1, none⟩ (.slice p1 (zlim A).length p2)).setCell ⟨g, 2, none⟩ (.slice p3 (limbs C).length p4)) g #[.bool (zneg A), .slice p1 (zlim A).length p2, .slice p3 (limbs C).length p4] ∧ Below w.heap.size w (((w1.setCell ⟨g, 0, none⟩ (.bool (zneg A))).setCell ⟨g, 1, none⟩ (.slice p1 (zlim A).length p2)).setCell ⟨g, 2, none⟩ (.slice p3 (limbs C).length p4))) :=
    ⟨hq1.st ZA _ _ _, ZA.st _ _ _, below_st HW1 HGE.out _ _ _⟩
  obtain ⟨a0, a1, a2, a3, a4, a5⟩ := ZA.open3
  have hltA := ZA.lt
  clear hq1 hb1 HPL HW1 XA HBel
  obtain ⟨wf, hwf⟩ : ∃ x, x = (((w1.setCell ⟨g, 0, none⟩ (.bool (zneg A))).setCell ⟨g, 1, none⟩ (.slice p1 (zlim A).length p2)).setCell ⟨g, 2, none⟩ (.slice p3 (limbs C).length p4)) := ⟨_, rfl⟩
  rw [← hwf] at HS
  have HWF := hid hwf.symm
  obtain ⟨hf1, hf2, hf3⟩ := HS.out
  have HNUM := hid hf1.num.1; have HDEN := hid hf1.num.2
  have HSG := hid (ref_sign hf1.num.1 (by have := HLA.out; omega))
  rw [zval_plain] at HSG
  have HX := hid hf2; have HB := hid hf3
  clear hwf HS hf1 hf2 hf3 ZA
  rcases Int.lt_trichotomy A 0 with ha | ha | ha
  · have hz : zneg A = true := by unfold zneg; simp; omega
    have hsg : sgnI A = -1 := by exact sgnI_lt0 ha
    have hv : val (zlim A) = A.natAbs := val_zlim A
    have hpos : 0 < val (zlim A) := by rw [hv]; omega
    have HRES : Hid (tq A C = wordOf true (nearF A.natAbs C)) := hid (by unfold tq; rw [if_neg (by omega), decide_eq_true ha])
    have HMG := hid (fun (w' : World) (hb : Below wf.heap.size wf w') => ref_magnitude ((HNUM.out.mag).below hb) (HDEN.out.below hb) (by have := HLA.out; omega) (by have := HLC.out; omega) hpos (by rw [val_limbs]; exact Nat.pos_of_ne_zero HZC.out))
    rw [hv, val_limbs] at HMG
    have hlt2 := nearF_lt A.natAbs C
    obtain ⟨FF, hFF⟩ : ∃ FF, nearF A.natAbs C = FF := ⟨_, rfl⟩
    rw [hFF] at HMG HRES hlt2
    rw [hsg] at HSG
    have hun := unary_negf FF
    have hng := neg_pos (b := FF) (by omega) (fneg_low hlt2)
    rw [rung_self hlt2] at hng
    rw [hng] at hun
    have HW2 : Hid (wordOf true FF = 9223372036854775808 + FF) := hid rfl
    rw [hz] at HWF HX HNUM HSG
    clear hv hpos hFF ha hsg hlt2 hng
    go_wp2_with fail
    rw [HWF.out]
    refine HSG.out.mono ?_
    rintro e w2 ⟨rfl, hb2⟩
    have HB2 := hid (HB.out.trans (hb2.mono HB.out.size))
    have HX2 := hid (HX.out.below hb2)
    have HK := hid (HMG.out w2 hb2)
    have HBB := hid hb2
    clear hb2 HMG HSG HNUM HDEN HX HB HWF a0 a1 a2 a3 a4 a5 hltA
    obtain ⟨d0, d1, d2, -, -, -⟩ := HX2.out.open3
    go_wp2_with fail
    refine HK.out.mono ?_
    rintro e w3 ⟨rfl, hb3⟩
    have HB3 := hid (HB2.out.trans (hb3.mono HB2.out.size))
    have HX3 := hid (HX2.out.below hb3)
    clear hb3 HK HX2 HBB d0 d1 d2
    obtain ⟨d0, d1, d2, -, -, -⟩ := HX3.out.open3
    go_wp2_with fail
    go_ret
    exact ⟨by rw [HRES.out, HW2.out]; rfl, HB3.out⟩
  · subst ha
    have hz : zneg 0 = false := by decide
    have HRES : Hid (tq 0 C = 0) := hid (by unfold tq; rw [if_pos rfl])
    rw [sgnI_eq0] at HSG
    rw [hz] at HWF HX HNUM HSG
    go_wp2_with fail
    rw [HWF.out]
    refine HSG.out.mono ?_
    rintro e w2 ⟨rfl, hb2⟩
    have HB2 := hid (HB.out.trans (hb2.mono HB.out.size))
    have HX2 := hid (HX.out.below hb2)
    clear hb2 HSG HNUM HDEN HX HB HWF a0 a1 a2 a3 a4 a5 hltA
    obtain ⟨d0, d1, d2, -, -, -⟩ := HX2.out.open3
    go_wp2_with fail
    go_ret
    exact ⟨by rw [HRES.out]; rfl, HB2.out⟩
  · have hz : zneg A = false := by unfold zneg; simp; omega
    have hsg : sgnI A = 1 := by exact sgnI_gt0 ha
    have hv : val (zlim A) = A.natAbs := val_zlim A
    have hpos : 0 < val (zlim A) := by rw [hv]; omega
    have HRES : Hid (tq A C = wordOf false (nearF A.natAbs C)) := hid (by unfold tq; rw [if_neg (by omega), decide_eq_false (by omega)])
    have HMG := hid (fun (w' : World) (hb : Below wf.heap.size wf w') => ref_magnitude ((HNUM.out.mag).below hb) (HDEN.out.below hb) (by have := HLA.out; omega) (by have := HLC.out; omega) hpos (by rw [val_limbs]; exact Nat.pos_of_ne_zero HZC.out))
    rw [hv, val_limbs] at HMG
    have hlt2 := nearF_lt A.natAbs C
    obtain ⟨FF, hFF⟩ : ∃ FF, nearF A.natAbs C = FF := ⟨_, rfl⟩
    rw [hFF] at HMG HRES hlt2
    rw [hsg] at HSG
    have HW2 : Hid (wordOf false FF = FF) := hid rfl
    rw [hz] at HWF HX HNUM HSG
    clear hv hpos hFF ha hsg hlt2
    go_wp2_with fail
    rw [HWF.out]
    refine HSG.out.mono ?_
    rintro e w2 ⟨rfl, hb2⟩
    have HB2 := hid (HB.out.trans (hb2.mono HB.out.size))
    have HX2 := hid (HX.out.below hb2)
    have HK := hid (HMG.out w2 hb2)
    have HBB := hid hb2
    clear hb2 HMG HSG HNUM HDEN HX HB HWF a0 a1 a2 a3 a4 a5 hltA
    obtain ⟨d0, d1, d2, -, -, -⟩ := HX2.out.open3
    go_wp2_with fail
    refine HK.out.mono ?_
    rintro e w3 ⟨rfl, hb3⟩
    have HB3 := hid (HB2.out.trans (hb3.mono HB2.out.size))
    have HX3 := hid (HX2.out.below hb3)
    clear hb3 HK HX2 HBB d0 d1 d2
    obtain ⟨d0, d1, d2, -, -, -⟩ := HX3.out.open3
    go_wp2_with fail
    go_ret
    exact ⟨by rw [HRES.out, HW2.out]; rfl, HB3.out⟩
end Go.Proofs.YtjnbonellgpjnaaGreat
