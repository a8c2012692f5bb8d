/- nat.DivMod by a divisor of one limb; by nought. -/
import Derived.Test.YtfjanomjmlcgaaaDoorDiv1
import Derived.Test.YtfjanomjmlcgaaaDoorCmp
set_option linter.unusedVariables false
set_option linter.unusedSimpArgs false
namespace Go.Proofs.YtfjanomjmlcgaaaDoor
open Go.RowKit

theorem nat_div_zero (a b : Option Addr) (la ca lb cb : Nat) (l m : List Nat) (w : World) (ha : Sees w (.slice a la ca) l) (hb : Sees w (.slice b lb cb) m) (h0 : val m = 0) :
    Calls Tryd.prog 14 #[.slice a la ca, .slice b lb cb] w fun e w' => e = .returned (.tuple #[.slice none 0 0, .slice none 0 0, .bool false]) ∧ w = w' := by
  go_enter Tryd.func14, Tryd.ntmps14
  go_wp2_with fail
  refine (trim_sees _ _ _ _ _ ha).mono ?_
  rintro e w' ⟨⟨A, rfl, hA, -⟩, rfl⟩
  have HA := hid hA; clear hA
  go_wp2_with fail
  refine (trim_sees _ _ _ _ _ hb).mono ?_
  rw [h0]
  rintro e w' ⟨⟨B, rfl, hB, -⟩, rfl⟩
  simp only [limbs_zero, List.length_nil]
  clear hB ha hb h0
  go_wp2
  go_ret3
  exact ⟨rfl, rfl⟩

set_option maxHeartbeats 1000000 in
theorem nat_div_limb (a b : Option Addr) (la ca lb cb : Nat) (l m : List Nat) (w : World) (ha : Sees w (.slice a la ca) l) (hb : Sees w (.slice b lb cb) m) (hl : l.length ≤ 35184372088832)
    (h1 : (limbs (val m)).length = 1) (h3 : 2 < (limbs (val l)).length) :
    Calls Tryd.prog 14 #[.slice a la ca, .slice b lb cb] w fun e w' => IsDiv w (val l) (val m) e w' := by
  have hlen1 := (limbs_prefix ha.ok).2
  have hle : val m ≤ val l := Nat.le_of_lt (limbs_length_lt (by omega))
  go_enter Tryd.func14, Tryd.ntmps14
  go_wp2_with fail
  refine (trim_sees _ _ _ _ _ ha).mono ?_
  rintro e w' ⟨⟨A, rfl, hA, -⟩, rfl⟩
  have HA := hid hA; clear hA
  go_wp2_with fail
  refine (trim_sees _ _ _ _ _ hb).mono ?_
  rintro e w' ⟨⟨B, rfl, hB, -⟩, rfl⟩
  have HB := hid hB; clear hB ha hb
  have hz : 0 ≤ cmpI (val l) (val m) := by unfold cmpI; rw [if_neg (by omega)]; split <;> decide
  obtain ⟨p, hp⟩ : ∃ p, limbs (val l) = p := ⟨_, rfl⟩
  obtain ⟨y, hq⟩ : ∃ y, limbs (val m) = [y] := by
    match limbs (val m), h1 with
    | [y], _ => exact ⟨y, rfl⟩
  have hy : val m = y := by rw [← val_limbs (val m), hq]; simp [val_cons, val_nil]
  have hy1 : 0 < y := by
    rcases Nat.eq_zero_or_pos y with h0 | h0
    · rw [h0] at hy; rw [hy] at hq; cases hq
    · exact h0
  rw [hp] at HA hlen1 h3
  rw [hq] at HB
  simp only [hp, hq]
  have hyb := HB.out.ok.head
  have hvp : val p = val l := by rw [← hp, val_limbs]
  have HP := hid hvp; have HY := hid hy; clear hp hq h1 hle
  have hp1 : p.length ≤ 35184372088832 := by omega
  have hcv : val [y] = val m := by rw [hy]; simp [val_cons, val_nil]
  rw [← hvp, ← hcv] at hz
  clear hlen1 hl hvp hy hcv
  go_wp2_with fail
  refine (nat_cmp _ _ _ _ _ _ _ _ _ HA.out HB.out).mono ?_
  generalize cmpI (val p) (val [y]) = z at hz ⊢
  rintro e w1 ⟨rfl, hb1⟩
  have HA1 : Hid (Sees w1 (.slice A p.length p.length) p) := HA.out.below hb1
  have HB1 : Hid (Sees w1 (.slice B 1 1) [y]) := HB.out.below hb1
  have HBEL := hid hb1
  clear hb1 HA HB
  obtain ⟨ba, oa, rfl, -⟩ := HA1.out.at (by omega)
  obtain ⟨bb, ob, rfl, hcb⟩ := HB1.out.at (by simp)
  have hcb0 := hcb 0 (by simp)
  simp only [Nat.add_zero, List.getD_cons_zero] at hcb0
  have hlt := HB1.out.lt (by simp)
  clear hcb
  go_wp2_with fail
  refine (clone_some _ _ _ _ _ HA1.out hp1).mono ?_
  rintro e w2 ⟨g, c, rfl, hg, hrow, hlc, hc, hb2⟩
  have hcb2 := (hb2.cell hlt).trans hcb0
  have HR := hid hrow; have HB2 := hid hb2
  clear hrow hb2 hcb0 hc
  go_wp2_with fail
  refine (nat_divideInPlace g c y p w2 HR.out HA1.out.ok hy1 hyb (by omega)).mono ?_
  rintro e w3 ⟨t, rm, rfl, hrm, hm, htl, htok, htv, hrow3, hgb⟩
  have hs3 : Sees w3 (.slice (some ⟨g, 0, none⟩) p.length c) t := by
    have := hrow3.sees htok 0 p.length c (by omega) hlc (by omega)
    rwa [List.drop_zero, List.take_of_length_le (by omega)] at this
  have HB3 : Hid (Below w1.heap.size w1 w3) := HB2.out.grown hgb HB2.out.size (fun k e => by simp at e; omega)
  have HS := hid hs3; have HT := hid htv; have HRM := hid hrm
  clear hrow3 hgb hs3 htl htok htv hcb2 hrm
  go_wp2_with fail
  refine (trim_sees _ _ _ _ _ HS.out).mono ?_
  rintro e w4 ⟨⟨Q, rfl, hQ, -⟩, rfl⟩
  have HQ := hid hQ; clear hQ
  go_wp2_with fail
  refine (nat_fromWord rm (Nat.lt_trans (Nat.lt_trans hm hyb) (by decide)) _).mono ?_
  rintro e w5 ⟨R, rfl, hR, hb5⟩
  have HRR := hid hR; have HB5 := hid hb5
  clear hR hb5
  go_wp2
  go_ret3
  refine ⟨_, _, rfl, ?_, ?_, ?_⟩
  · have := HQ.out.below HB5.out
    rw [HT.out, HP.out, ← HY.out] at this
    rw [HT.out, HP.out, ← HY.out]
    exact this
  · have := HRR.out
    rw [HRM.out, HP.out, ← HY.out] at this
    exact this
  · exact HBEL.out.trans ((HB3.out.trans (HB5.out.mono HB3.out.size)).mono HBEL.out.size)
end Go.Proofs.YtfjanomjmlcgaaaDoor
