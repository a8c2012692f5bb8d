/- What every right program of layer 11 answers (awake). -/
import Derived.Test.YtokdcgmjpnanoaaSqS
import Derived.Test.YtokdcgmjpnanoaaSqQ
import Derived.Test.YtokdcgmjpnanoaaSqJ

set_option linter.unusedVariables false
set_option linter.unusedSimpArgs false
namespace Go.Proofs.Ytokdcgmjpnanoaa
open Go.RowKit

theorem p3 : IsP 3 := by decide
theorem irr_one {q : Nat} (hq : IsP q) {g : List Int} (hg : Mo q g) (h : g.length = 2) : Irr q g :=
  by_degrees hq hg (by omega) fun d h1 h2 => by omega
theorem mo_11 : Mo 5 [1, 1] := by have h := (monF_mo p5 (f := [1, 1]) (by decide +kernel)).1; have e : monF 5 [1, 1] = [1, 1] := by decide +kernel
                                  rwa [e] at h
theorem mo_41 : Mo 5 [4, 1] := by have h := (monF_mo p5 (f := [4, 1]) (by decide +kernel)).1; have e : monF 5 [4, 1] = [4, 1] := by decide +kernel
                                  rwa [e] at h
theorem mo_101 : Mo 3 [1, 0, 1] := by have h := (monF_mo p3 (f := [1, 0, 1]) (by decide +kernel)).1; have e : monF 3 [1, 0, 1] = [1, 0, 1] := by decide +kernel
                                      rwa [e] at h
theorem fac5 : FactorsOf 5 (monF 5 [4, 0, 1]) [[1, 1], [4, 1]] := by
  have e : monF 5 [4, 0, 1] = [4, 0, 1] := by decide +kernel
  rw [e]
  refine ⟨fun g hg => ?_, ⟨[0, 1], fun x => ?_⟩⟩
  · rcases List.mem_cons.1 hg with rfl | hg
    · exact irr_one p5 mo_11 rfl
    · rcases List.mem_cons.1 hg with rfl | hg
      · exact irr_one p5 mo_41 rfl
      · simp at hg
  · simp only [prodL, ev_pmul, ev]; grind
theorem sorted5 : SortedL [[1, 1], [4, 1]] := by
  refine List.Pairwise.cons (fun b hb => ?_) (List.Pairwise.cons (fun b hb => by simp at hb) List.Pairwise.nil)
  rw [List.mem_singleton.1 hb]
  show bef [4, 1] [1, 1] = false
  decide +kernel
theorem irr3 : Irr 3 (monF 3 [1, 0, 1]) := by
  have e : monF 3 [1, 0, 1] = [1, 0, 1] := by decide +kernel
  rw [e]
  refine by_degrees p3 mo_101 (by decide) fun d h1 h2 => ?_
  obtain rfl : d = 1 := by simp at h2; omega
  refine ⟨[1, 0, 1], [0, -1], ⟨[0, 0, -1], fun x => ?_⟩⟩
  simp only [xq, pX, ev_padd, ev_pmul, ev_psc, ev_ppow, ev]
  grind
theorem irr5 : ¬ Irr 5 (monF 5 [1, 0, 1]) := fun h => by
  have e : monF 5 [1, 0, 1] = [1, 0, 1] := by decide +kernel
  rw [e] at h
  have := h.no [2, 1] [3, 1] ⟨[-1, -1], fun x => by simp only [ev_pmul, ev]; grind⟩
  rcases this with h | h
  · exact absurd h (by decide +kernel)
  · exact absurd h (by decide +kernel)
theorem lit3 (w : World) (a b c : Int) : Below w.heap.size w (w.alloc (.cells #[.int .i64 a, .int .i64 b, .int .i64 c] 3)) ∧ SeesI (w.alloc (.cells #[.int .i64 a, .int .i64 b, .int .i64 c] 3)) (.slice (some ⟨w.heap.size, 0, none⟩) 3 3) [a, b, c] :=
  ⟨(Below.refl _ w).alloc (Nat.le_refl _) _, SeesF.lit (f := vI) (d := 0) w 3 [a, b, c] (by simp)⟩
theorem awake_fac (w : World) :
    Calls Try.prog 8 #[.slice (some ⟨w.heap.size, 0, none⟩) 3 3, .int .i64 5, .slice none 0 0] (w.alloc (.cells #[.int .i64 4, .int .i64 0, .int .i64 1] 3)) fun e w' => ∃ v, e = .returned (.tuple #[v, .int .i64 0]) ∧ SeesL w' v [[1, 1], [4, 1]] ∧ Below w.heap.size w w' := by
  obtain ⟨h1, h2⟩ := lit3 w 4 0 1
  refine (mod_Factor (q := 5) h2 (SeesF.nil _) (by decide) p5 (by decide +kernel)).mono ?_
  rintro e w' ⟨v, L, he, hs, hf, hso, hb⟩
  have := hf.unique p5 fac5 (E.refl _ _) hso sorted5
  subst this
  exact ⟨v, he, hs, h1.trans (hb.mono (by simp))⟩
theorem awake_irr3 (w : World) :
    Calls Try.prog 12 #[.slice (some ⟨w.heap.size, 0, none⟩) 3 3, .int .i64 3] (w.alloc (.cells #[.int .i64 1, .int .i64 0, .int .i64 1] 3)) fun e w' => e = .returned (.bool true) ∧ Below w.heap.size w w' := by
  obtain ⟨h1, h2⟩ := lit3 w 1 0 1
  refine (mod_Irreducible (q := 3) h2 (by decide) p3).mono ?_
  rintro e w' ⟨b, he, hb, hb2⟩
  exact ⟨by rw [he, hb.2 irr3], h1.trans (hb2.mono (by simp))⟩
theorem awake_irr5 (w : World) :
    Calls Try.prog 12 #[.slice (some ⟨w.heap.size, 0, none⟩) 3 3, .int .i64 5] (w.alloc (.cells #[.int .i64 1, .int .i64 0, .int .i64 1] 3)) fun e w' => e = .returned (.bool false) ∧ Below w.heap.size w w' := by
  obtain ⟨h1, h2⟩ := lit3 w 1 0 1
  refine (mod_Irreducible (q := 5) h2 (by decide) p5).mono ?_
  rintro e w' ⟨b, he, hb, hb2⟩
  have : b = false := by cases b with
    | false => rfl
    | true => exact absurd (hb.1 rfl) irr5
  exact ⟨by rw [he, this], h1.trans (hb2.mono (by simp))⟩
theorem awake_same {v : Value} {w : World} (h : SeesL w v [[1, 1], [4, 1]]) :
    Calls Try.prog 10 #[v, .slice (some ⟨w.heap.size + 1 + 1, 0, none⟩) 2 2] (((w.alloc (.cells #[.int .i64 1, .int .i64 1] 3)).alloc (.cells #[.int .i64 4, .int .i64 1] 3)).alloc (.cells #[.slice (some ⟨w.heap.size, 0, none⟩) 2 2, .slice (some ⟨w.heap.size + 1, 0, none⟩) 2 2] 22)) fun e w' => e = .returned (.bool true) ∧ Below w.heap.size w w' := by
  obtain ⟨Y, hY⟩ : ∃ Y, Y = ((w.alloc (.cells #[.int .i64 1, .int .i64 1] 3)).alloc (.cells #[.int .i64 4, .int .i64 1] 3)) := ⟨_, rfl⟩
  have h1 : SeesI (w.alloc (.cells #[.int .i64 1, .int .i64 1] 3)) (.slice (some ⟨w.heap.size, 0, none⟩) 2 2) [1, 1] := SeesF.lit (f := vI) (d := 0) w 3 [1, 1] (by simp)
  have h2 : SeesI Y (.slice (some ⟨w.heap.size + 1, 0, none⟩) 2 2) [4, 1] := by
    have k := SeesF.lit (f := vI) (d := 0) (w.alloc (.cells #[.int .i64 1, .int .i64 1] 3)) 3 [4, 1] (by simp)
    rw [Deep.nblk_alloc] at k
    rw [hY]; exact k
  have hb1 : Below (w.heap.size + 1) (w.alloc (.cells #[.int .i64 1, .int .i64 1] 3)) Y := by rw [hY]; exact (Below.refl _ _).alloc (by simp) _
  have h1' : SeesI Y (.slice (some ⟨w.heap.size, 0, none⟩) 2 2) [1, 1] := SeesF.below h1 (by simpa using hb1)
  have hYb : Below w.heap.size w Y := by rw [hY]; exact ((Below.refl _ w).alloc (Nat.le_refl _) _).alloc (by simp) _
  have hYs : Y.heap.size = w.heap.size + 1 + 1 := by rw [hY]; simp
  rw [← hY]
  have hb2 : Below Y.heap.size Y (Y.alloc (.cells #[.slice (some ⟨w.heap.size, 0, none⟩) 2 2, .slice (some ⟨w.heap.size + 1, 0, none⟩) 2 2] 22)) := (Below.refl _ Y).alloc (Nat.le_refl _) _
  have h3 : SeesL (Y.alloc (.cells #[.slice (some ⟨w.heap.size, 0, none⟩) 2 2, .slice (some ⟨w.heap.size + 1, 0, none⟩) 2 2] 22)) (.slice (some ⟨w.heap.size + 1 + 1, 0, none⟩) 2 2) [[1, 1], [4, 1]] := by
    refine ⟨[.slice (some ⟨w.heap.size, 0, none⟩) 2 2, .slice (some ⟨w.heap.size + 1, 0, none⟩) 2 2], rfl, ?_, fun i hi => ?_⟩
    · have k := SeesF.lit (f := id) (d := vNil) Y 22 [.slice (some ⟨w.heap.size, 0, none⟩) 2 2, .slice (some ⟨w.heap.size + 1, 0, none⟩) 2 2] (by simp)
      rw [hYs] at k
      exact k
    · match i, hi with
      | 0, _ => exact SeesI.below h1' hb2
      | 1, _ => exact SeesI.below h2 hb2
  have h4 := (h.below hYb).below hb2
  refine (same_listsL h4 h3 (decide_eq_true rfl)).mono ?_
  rintro e w' ⟨he, hb⟩
  exact ⟨he, (hYb.trans (hb2.mono (by omega))).trans (hb.mono (by simp; omega))⟩

set_option maxRecDepth 100000 in
set_option maxHeartbeats 2000000 in
theorem awake11 (w : World) : Calls Try.prog 6 #[] w fun e w' => e = .returned (.bool true) ∧ Below w.heap.size w w' := by
  have C1 := hidP awake_fac
  have C2 := hidP (fun (w : World) (v : Value) (h : SeesL w v [[1, 1], [4, 1]]) => awake_same h)
  have C3 := hidP awake_irr3
  have C4 := hidP awake_irr5
  have B0 := hidP (Below.refl w.heap.size w)
  go_enter Try.func6, Try.ntmps6
  go_wp2_with fail
  refine (C1.out _).mono ?_
  rintro e w1 ⟨v, rfl, hs, hb1⟩
  have B1 := hidP (step_below B0.out hb1)
  have S1 := hidP hs
  clear hs hb1
  go_wp2_with fail
  refine (C2.out _ _ S1.out).mono ?_
  rintro e w2 ⟨rfl, hb2⟩
  have B2 := hidP (step_below B1.out hb2)
  clear hb2 S1
  go_wp2_with fail
  refine (C3.out _).mono ?_
  rintro e w3 ⟨rfl, hb3⟩
  have B3 := hidP (step_below B2.out hb3)
  clear hb3
  go_wp2_with fail
  refine (C4.out _).mono ?_
  rintro e w4 ⟨rfl, hb4⟩
  have B4 := hidP (step_below B3.out hb4)
  clear hb4
  go_wp2_with fail
  go_ret
  exact ⟨rfl, B4.out⟩
end Go.Proofs.Ytokdcgmjpnanoaa
