/- The document's Gcd by its contract. -/
import Derived.Test.YthlldjknmdndoaaMoT
set_option linter.unusedVariables false
set_option linter.unusedSimpArgs false
namespace Go.Proofs.Ythlldjknmdndoaa
open Go.RowKit

set_option maxHeartbeats 2000000 in
theorem ref_Gcd {a b : Value} {l m : List Int} {w : World} (ha : SeesI w a l) (hb : SeesI w b m) (hn : l.length ≤ 4096) :
    Calls Try.prog 29 #[a, b] w fun e w' => OpTells gGcd l m w e w' := by
  have C1 := hidP (ref_Both ha hb)
  have HA := hidP ha
  have HB := hidP hb
  obtain ⟨i0, hi, hz0, hz1, hz2⟩ := info_parts info_int
  obtain ⟨A, ca, rfl, hcap⟩ := SeesF.form ha
  obtain ⟨B, cb, rfl, hcap2⟩ := SeesF.form hb
  clear ha hb
  cases hal : alikeB l m with
  | false =>
    have HF : Hid (opB gGcd l m = false) := by show opB gGcd l m = false; unfold opB; rw [hal]; rfl
    rw [hal] at C1
    clear hal hi hz0 hz1 hz2
    go_enter Try.func29, Try.ntmps29
    go_wp2_with fail
    refine C1.out.mono ?_
    rintro e w0 ⟨rfl, rfl⟩
    go_wp2
    go_ret2
    exact OpTells.of_none HF.out (Below.refl _ _)
  | true =>
    have HO : Hid (opB gGcd l m = mayB (List.zipWith gGcd l m)) := by show opB gGcd l m = _; unfold opB; rw [hal]; rfl
    have HT := hidP (alike_min hal)
    rw [hal] at C1
    unfold alikeB at hal
    simp only [Bool.and_eq_true, decide_eq_true_eq] at hal
    obtain ⟨hl, hm1, hm2⟩ := hal
    have HL := hidP hl
    have HM1 := hidP (mayB_getD.1 hm1)
    have HM2 := hidP (mayB_getD.1 hm2)
    have hzl : (List.zipWith gGcd l m).length = l.length := by simp [hl]
    have HZL := hidP hzl
    have HI := hidP hi
    have HI0 := hidP hz0
    have HI1 := hidP hz1
    have HI2 := hidP hz2
    clear hl hm1 hm2 hzl hi hz0 hz1 hz2
    go_enter Try.func29, Try.ntmps29
    go_wp2_with fail
    refine C1.out.mono ?_
    rintro e w0 ⟨rfl, rfl⟩
    clear C1
    go_wp2
    go_loopw [6, 7] (fun v6 v wr => ∃ k : Nat, k ≤ l.length ∧ v = .int .i64 k ∧ Hid (wr.ownsRow w.heap.size 3 1 v6 k (((List.zipWith gGcd l m).take k).map vI)) ∧ Hid (Below w.heap.size w wr)) (fun _ v _ => l.length - (intOf v).toNat)
    case atStart => exact ⟨0, Nat.zero_le _, rfl, World.ownsRow_nil _ _ _ _, Below.refl _ _⟩
    case round =>
      obtain ⟨k, hk, rfl, hown, hbel⟩ := hrel
      by_cases hlt : k < l.length
      · have hkm : k < m.length := by have := HL.out; omega
        have hkm2 : (k : Int) < m.length := by omega
        obtain ⟨b1, o1, e1, hc1'⟩ := (HA.out.below hbel.out).at (by omega)
        subst e1
        obtain ⟨b2, o2, e2, hc2'⟩ := (HB.out.below hbel.out).at (by omega)
        subst e2
        have hc1 := hc1' k hlt
        have hc2 := hc2' k hkm
        have HTk := hidP (take_next gGcd HL.out hlt)
        have hx := HM1.out k hlt
        have hy := HM2.out k hkm
        clear hc1' hc2'
        obtain ⟨z, hz⟩ : ∃ z, gGcd (l.getD k 0) (m.getD k 0) = z := ⟨_, rfl⟩
        simp only [hz] at HTk
        obtain ⟨x, hxe⟩ : ∃ x, l.getD k 0 = x := ⟨_, rfl⟩
        obtain ⟨y, hye⟩ : ∃ y, m.getD k 0 = y := ⟨_, rfl⟩
        rw [hxe] at hc1 hx hz
        rw [hye] at hc2 hy hz
        have hw : (if y < x then y else x) = z := by rw [← hz]; unfold gGcd; split <;> omega
        clear hxe hye hz hx hy
        have HW : Hid ((wr.drew.alloc (.cells #[.int .i64 z] 3)).ownsRow w.heap.size 3 1 u6 k (((List.zipWith gGcd l m).take k).map vI)) := hown.out.alloc _
        have HLt := hidP hown.out.lt
        have HNw : Hid (∀ j u, [Value.int .i64 z][j]? = some u → (wr.drew.alloc (.cells #[.int .i64 z] 3)).cell? ((⟨wr.heap.size, 0, none⟩ : Addr).add j) = some u) := fun j u hj => by
          match j, hj with
          | 0, hj =>
            show (wr.drew.alloc (.cells #[.int .i64 z] 3)).cell? ⟨wr.drew.heap.size, 0, none⟩ = some u
            rw [World.cell?_alloc_at _ _ _ _ rfl]
            simpa using hj
          | j + 1, hj => simp at hj
        have HBa : Hid (Below w.heap.size w (wr.drew.alloc (.cells #[.int .i64 z] 3))) := hbel.out.drew.alloc hbel.out.drew.size _
        have HSz : Hid (w.heap.size ≤ (wr.drew.alloc (.cells #[.int .i64 z] 3)).heap.size) := HBa.out.size
        go_wp2
        go_region_law (refine step_append_own rfl (.tmp 18) (.tmp 28) 25 rfl w.heap.size 3 i0 (.int .i64 0) 1 8 Try.underlying25 HI.out HI0.out HI1.out HI2.out rfl (by decide) u6 k (((List.zipWith gGcd l m).take k).map vI) (by simp [Act.eval, Act.put]) HW.out ⟨wr.heap.size, 0, none⟩ 1 1 [.int .i64 z] (by simp [Act.eval, Act.put]) rfl HNw.out (by intro u hu; rw [List.mem_singleton] at hu; subst hu; rfl) (by unfold maxLen; omega) (by omega) HSz.out ?_; intro v' w4 hown4 hgrow; have HO4 := hidP hown4; have HG4 := hidP hgrow; clear hown4 hgrow)
        all_goals
          have HB4 : Hid (Below w.heap.size w w4) := HBa.out.grown HG4.out HSz.out (fun k e => (HLt.out k e).1)
          have HO5 : Hid (w4.ownsRow w.heap.size 3 1 v' (k + 1) (((List.zipWith gGcd l m).take (k + 1)).map vI)) := by
            have := HO4.out
            rw [show [Value.int IntKind.i64 z] = [vI z] from rfl, HTk.out] at this
            exact this
          clear HO4 HG4 HW HNw HBa HSz HLt HTk
          go_wp2
          go_roundw
          case rel => exact ⟨k + 1, by omega, by go_num, HO5, HB4⟩
          case measure => simp [intOf]; omega
      · obtain rfl : k = l.length := by omega
        have ho := hown.out
        rw [List.take_of_length_le (by have := HZL.out; omega)] at ho
        have hs := ownsI_sees ho (by have := HZL.out; omega)
        have HSe := hidP hs
        clear hown ho hs
        go_wp2
        go_ret2
        exact OpTells.of_some HT.out HSe.out hbel.out
end Go.Proofs.Ythlldjknmdndoaa
