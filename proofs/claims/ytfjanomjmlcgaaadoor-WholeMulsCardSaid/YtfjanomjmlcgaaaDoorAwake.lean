/- What each statement asks first: 'awake' answers true. -/
import Derived.Test.YtfjanomjmlcgaaaDoorText
import Derived.Test.YtfjanomjmlcgaaaDoorDiv2
import Derived.Test.YtfjanomjmlcgaaaDoorRef1
set_option linter.unusedVariables false
set_option linter.unusedSimpArgs false
namespace Go.Proofs.YtfjanomjmlcgaaaDoor
open Go.RowKit

theorem awake_q : limbs (val [0, 0, 1] / val [3]) = [1431655765, 1431655765] := by
  have h : val [0, 0, 1] / val [3] = val [1431655765, 1431655765] := by decide
  rw [h]
  exact limbs_val_of_last (Ok.cons (by decide) (Ok.cons (by decide) Ok.nil)) (fun _ => by decide)
theorem awake_r : limbs (val [0, 0, 1] % val [3]) = [1] := by
  have h : val [0, 0, 1] % val [3] = val [1] := by decide
  rw [h]
  exact limbs_val_of_last (Ok.cons (by decide) Ok.nil) (fun _ => by decide)
theorem awake_a : limbs (val [0, 0, 1]) = [0, 0, 1] := limbs_val_of_last (Ok.cons (by decide) (Ok.cons (by decide) (Ok.cons (by decide) Ok.nil))) (fun _ => by decide)
theorem awake_b : limbs (val [3]) = [3] := limbs_val_of_last (Ok.cons (by decide) Ok.nil) (fun _ => by decide)
theorem awake_t : dec (val [0, 1]) = [52, 50, 57, 52, 57, 54, 55, 50, 57, 54] := by
  have h : val [0, 1] = 4294967296 := by decide
  rw [h]
  unfold dec
  rw [if_neg (by decide)]
  iterate 10 rw [decR_pos (by decide)]
  decide

set_option maxHeartbeats 1000000 in
theorem awake_any (w : World) : Calls Tryd.prog 16 #[] w fun e w' => e = .returned (.bool true) ∧ Below w.heap.size w w' := by
  have hb1 := (Below.refl w.heap.size w).alloc (Nat.le_refl _) (.cells #[.int .u32 0, .int .u32 0, .int .u32 1] 57)
  have hs1 : Sees (w.alloc (.cells #[.int .u32 0, .int .u32 0, .int .u32 1] 57)) (.slice (some ⟨w.heap.size, 0, none⟩) 3 3) [0, 0, 1] := sees_lit w [0, 0, 1] (Ok.cons (by decide) (Ok.cons (by decide) (Ok.cons (by decide) Ok.nil))) (by simp)
  have hb2 := hb1.alloc (by simp) (.cells #[.int .u32 3] 57)
  have hs2 : Sees ((w.alloc (.cells #[.int .u32 0, .int .u32 0, .int .u32 1] 57)).alloc (.cells #[.int .u32 3] 57)) (.slice (some ⟨w.heap.size + 1, 0, none⟩) 1 1) [3] := by
    have := sees_lit (w.alloc (.cells #[.int .u32 0, .int .u32 0, .int .u32 1] 57)) [3] (Ok.cons (by decide) Ok.nil) (by simp)
    rw [Deep.nblk_alloc] at this
    exact this
  have hs1' := hs1.below ((Below.refl _ _).alloc (Nat.le_refl _) (.cells #[.int .u32 3] 57))
  have HB := hid hb2; have H1 := hid hs1'; have H2 := hid hs2
  clear hb1 hs1 hb2 hs2 hs1'
  go_enter Tryd.func16, Tryd.ntmps16
  go_wp2_with fail
  refine (nat_div_limb _ _ _ _ _ _ _ _ _ H1.out H2.out (by simp) (by rw [awake_b]; rfl) (by rw [awake_a]; decide)).mono ?_
  rintro e w1 ⟨q, r, rfl, hq, hr, hb⟩
  rw [awake_q] at hq
  rw [awake_r] at hr
  have HQ := hid hq; have HR := hid hr
  have HB1 := hid (HB.out.trans (hb.mono HB.out.size))
  clear hq hr hb HB H1 H2
  have hl1 : Sees (w1.alloc (.cells #[.int .u32 1431655765, .int .u32 1431655765] 57)) (.slice (some ⟨w1.heap.size, 0, none⟩) 2 2) [1431655765, 1431655765] := sees_lit w1 [1431655765, 1431655765] (Ok.cons (by decide) (Ok.cons (by decide) Ok.nil)) (by simp)
  have hb3 := HB1.out.alloc HB1.out.size (.cells #[.int .u32 1431655765, .int .u32 1431655765] 57)
  have hq3 := HQ.out.below ((Below.refl _ _).alloc (Nat.le_refl _) (.cells #[.int .u32 1431655765, .int .u32 1431655765] 57))
  have hr3 := HR.out.below ((Below.refl _ _).alloc (Nat.le_refl _) (.cells #[.int .u32 1431655765, .int .u32 1431655765] 57))
  have HL1 := hid hl1; have HB3 := hid hb3; have HQ3 := hid hq3; have HR3 := hid hr3
  clear hl1 hb3 hq3 hr3 HQ HR HB1
  go_wp2_with fail
  refine (ref_same _ _ _ _ HQ3.out HL1.out).mono ?_
  rintro e w2 ⟨rfl, hb4⟩
  have hr4 := HR3.out.below hb4
  have hb5 := HB3.out.trans (hb4.mono HB3.out.size)
  have hl2 : Sees (w2.alloc (.cells #[.int .u32 1] 57)) (.slice (some ⟨w2.heap.size, 0, none⟩) 1 1) [1] := sees_lit w2 [1] (Ok.cons (by decide) Ok.nil) (by simp)
  have hb6 := hb5.alloc hb5.size (.cells #[.int .u32 1] 57)
  have hr5 := hr4.below ((Below.refl _ _).alloc (Nat.le_refl _) (.cells #[.int .u32 1] 57))
  have HL2 := hid hl2; have HB6 := hid hb6; have HR5 := hid hr5
  clear hb4 hr4 hb5 hl2 hb6 hr5 HQ3 HR3 HL1 HB3
  go_wp2_with fail
  refine (ref_same _ _ _ _ HR5.out HL2.out).mono ?_
  rintro e w3 ⟨rfl, hb7⟩
  have hb8 := HB6.out.trans (hb7.mono HB6.out.size)
  have hl3 : Sees (w3.alloc (.cells #[.int .u32 0, .int .u32 1] 57)) (.slice (some ⟨w3.heap.size, 0, none⟩) 2 2) [0, 1] := sees_lit w3 [0, 1] (Ok.cons (by decide) (Ok.cons (by decide) Ok.nil)) (by simp)
  have hb9 := hb8.alloc hb8.size (.cells #[.int .u32 0, .int .u32 1] 57)
  have HL3 := hid hl3; have HB9 := hid hb9
  clear hb7 hb8 hl3 hb9 HR5 HL2 HB6
  go_wp2_with fail
  refine (text_pos _ _ _ HL3.out (by simp) (by decide)).mono ?_
  rw [awake_t]
  rintro e w4 ⟨rfl, hb10⟩
  have HBF := hid (HB9.out.trans (hb10.mono HB9.out.size))
  clear hb10 HL3 HB9
  go_wp2
  go_ret
  exact ⟨rfl, HBF.out⟩
end Go.Proofs.YtfjanomjmlcgaaaDoor
