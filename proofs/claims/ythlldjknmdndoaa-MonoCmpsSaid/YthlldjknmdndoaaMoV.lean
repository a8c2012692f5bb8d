/- What every right program of layer 6 answers (awake). -/
import Derived.Test.YthlldjknmdndoaaMoU
set_option linter.unusedVariables false
set_option linter.unusedSimpArgs false
namespace Go.Proofs.Ythlldjknmdndoaa
open Go.RowKit

theorem lits2 (w : World) (x y z a b c : Int) : Below w.heap.size w ((w.alloc (.cells #[.int .i64 x, .int .i64 y, .int .i64 z] 3)).alloc (.cells #[.int .i64 a, .int .i64 b, .int .i64 c] 3)) ∧
    SeesI ((w.alloc (.cells #[.int .i64 x, .int .i64 y, .int .i64 z] 3)).alloc (.cells #[.int .i64 a, .int .i64 b, .int .i64 c] 3)) (.slice (some ⟨w.heap.size, 0, none⟩) 3 3) [x, y, z] ∧
    SeesI ((w.alloc (.cells #[.int .i64 x, .int .i64 y, .int .i64 z] 3)).alloc (.cells #[.int .i64 a, .int .i64 b, .int .i64 c] 3)) (.slice (some ⟨w.heap.size + 1, 0, none⟩) 3 3) [a, b, c] := by
  refine ⟨((Below.refl _ w).alloc (Nat.le_refl _) _).alloc (by simp) _, ?_, ?_⟩
  · have h := SeesF.lit (f := vI) (d := 0) w 3 [x, y, z] (by simp)
    exact SeesF.below h ((Below.refl _ _).alloc (Nat.le_refl _) _)
  · have h := SeesF.lit (f := vI) (d := 0) (w.alloc (.cells #[.int .i64 x, .int .i64 y, .int .i64 z] 3)) 3 [a, b, c] (by simp)
    rw [Deep.nblk_alloc] at h
    exact h
theorem lits1 (w : World) (x y z : Int) : Below w.heap.size w (w.alloc (.cells #[.int .i64 x, .int .i64 y, .int .i64 z] 3)) ∧ SeesI (w.alloc (.cells #[.int .i64 x, .int .i64 y, .int .i64 z] 3)) (.slice (some ⟨w.heap.size, 0, none⟩) 3 3) [x, y, z] :=
  ⟨(Below.refl _ w).alloc (Nat.le_refl _) _, SeesF.lit (f := vI) (d := 0) w 3 [x, y, z] (by simp)⟩

theorem awake_mul {a b : Value} {w : World} (ha : SeesI w a [1, 0, 2]) (hb : SeesI w b [0, 3, 1]) :
    Calls Try.prog 21 #[a, b] w fun e w' => ∃ v, e = .returned (.tuple #[v, .bool true]) ∧ SeesI w' v [1, 3, 3] ∧ Below w.heap.size w w' := by
  refine (mono_Mul ha hb (by decide)).mono ?_
  rintro e w' ⟨v, he, hs, hbl⟩
  have e1 : opB gMul [1, 0, 2] [0, 3, 1] = true := by decide +kernel
  have e2 : opL gMul [1, 0, 2] [0, 3, 1] = [1, 3, 3] := by decide +kernel
  rw [e1] at he
  rw [e2] at hs
  exact ⟨v, he, hs, hbl⟩
theorem awake_check {v : Value} {w : World} (h : SeesR w v names3 3 (if (3 : Int) = 3 then 1 else 0)) :
    Calls Try.prog 13 #[v] w fun e w' => e = .returned (.int .i64 0) ∧ Below w.heap.size w w' := by
  have e : checkN names3 3 (if (3 : Int) = 3 then 1 else 0) = 0 := by decide +kernel
  have := mono_Check h
  rwa [e] at this
theorem awake_cmp1 {v a b : Value} {w : World} (h : SeesR w v names3 1 (if (1 : Int) = 3 then 1 else 0)) (ha : SeesI w a [1, 0, 1]) (hb : SeesI w b [0, 2, 0]) :
    Calls Try.prog 19 #[v, a, b] w fun e w' => e = .returned (.int .i64 1) ∧ Below w.heap.size w w' := by
  have e : cmpR names3 1 (if (1 : Int) = 3 then 1 else 0) [1, 0, 1] [0, 2, 0] = 1 := by decide +kernel
  have := mono_Cmp h ha hb
  rwa [e] at this
theorem awake_cmp2 {v a b : Value} {w : World} (h : SeesR w v names3 2 (if (2 : Int) = 3 then 1 else 0)) (ha : SeesI w a [1, 0, 1]) (hb : SeesI w b [0, 2, 0]) :
    Calls Try.prog 19 #[v, a, b] w fun e w' => e = .returned (.int .i64 (-1)) ∧ Below w.heap.size w w' := by
  have e : cmpR names3 2 (if (2 : Int) = 3 then 1 else 0) [1, 0, 1] [0, 2, 0] = -1 := by decide +kernel
  have := mono_Cmp h ha hb
  rwa [e] at this
theorem awake_same {a b : Value} {w : World} (ha : SeesI w a [1, 3, 3]) (hb : SeesI w b [1, 3, 3]) :
    Calls Try.prog 25 #[a, b] w fun e w' => e = .returned (.bool true) ∧ Below w.heap.size w w' := by
  refine (ref_Same ha hb).mono ?_
  rintro e w' ⟨he, d, rfl⟩
  exact ⟨he, below_drewN (Below.refl _ _) _⟩

set_option maxRecDepth 100000 in
set_option maxHeartbeats 2000000 in
theorem awake6 (w : World) : Calls Try.prog 12 #[] w fun e w' => e = .returned (.bool true) ∧ Below w.heap.size w w' := by
  obtain ⟨hb0, ha, hb⟩ := lits2 w 1 0 2 0 3 1
  have HB0 := hidP hb0; have HA := hidP ha; have HB := hidP hb
  clear hb0 ha hb
  go_enter Try.func12, Try.ntmps12
  go_wp2_with fail
  refine (awake_mul HA.out HB.out).mono ?_
  rintro e w1 ⟨v1, rfl, hs1, hb1⟩
  have B1 := hidP (step_below HB0.out hb1)
  have S1 := hidP hs1
  clear hb1 hs1 HB0 HA HB
  go_wp2_with fail
  refine (law_three 3 _).mono ?_
  rintro e w2 ⟨v2, rfl, hr2, hb2⟩
  have B2 := hidP (step_below B1.out hb2)
  have S2 := hidP (S1.out.below hb2)
  have R2 := hidP hr2
  clear hb2 hr2 B1 S1
  go_wp2_with fail
  refine (awake_check R2.out).mono ?_
  rintro e w3 ⟨rfl, hb3⟩
  have B3 := hidP (step_below B2.out hb3)
  have S3 := hidP (S2.out.below hb3)
  clear hb3 B2 S2 R2
  go_wp2_with fail
  refine (law_three 1 _).mono ?_
  rintro e w4 ⟨v4, rfl, hr4, hb4⟩
  obtain ⟨hc4, ha4, hd4⟩ := lits2 w4 1 0 1 0 2 0
  have B4 := hidP (step_below (step_below B3.out hb4) hc4)
  have S4 := hidP ((S3.out.below hb4).below hc4)
  have R4 := hidP (hr4.below hc4)
  have A4 := hidP ha4; have D4 := hidP hd4
  clear hb4 hr4 hc4 ha4 hd4 B3 S3
  go_wp2_with fail
  refine (awake_cmp1 R4.out A4.out D4.out).mono ?_
  rintro e w5 ⟨rfl, hb5⟩
  have B5 := hidP (step_below B4.out hb5)
  have S5 := hidP (S4.out.below hb5)
  clear hb5 B4 S4 R4 A4 D4
  go_wp2_with fail
  refine (law_three 2 _).mono ?_
  rintro e w6 ⟨v6, rfl, hr6, hb6⟩
  obtain ⟨hc6, ha6, hd6⟩ := lits2 w6 1 0 1 0 2 0
  have B6 := hidP (step_below (step_below B5.out hb6) hc6)
  have S6 := hidP ((S5.out.below hb6).below hc6)
  have R6 := hidP (hr6.below hc6)
  have A6 := hidP ha6; have D6 := hidP hd6
  clear hb6 hr6 hc6 ha6 hd6 B5 S5
  go_wp2_with fail
  refine (awake_cmp2 R6.out A6.out D6.out).mono ?_
  rintro e w7 ⟨rfl, hb7⟩
  obtain ⟨hc7, ha7⟩ := lits1 w7 1 3 3
  have B7 := hidP (step_below (step_below B6.out hb7) hc7)
  have S7 := hidP ((S6.out.below hb7).below hc7)
  have A7 := hidP ha7
  clear hb7 hc7 ha7 B6 S6 R6 A6 D6
  go_wp2_with fail
  refine (awake_same S7.out A7.out).mono ?_
  rintro e w8 ⟨rfl, hb8⟩
  have B8 := hidP (step_below B7.out hb8)
  clear hb8
  go_wp2
  go_ret
  exact ⟨rfl, B8.out⟩
end Go.Proofs.Ythlldjknmdndoaa
