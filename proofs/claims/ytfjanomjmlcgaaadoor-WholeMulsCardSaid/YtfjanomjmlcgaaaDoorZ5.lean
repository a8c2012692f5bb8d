/- The statements' short and same of layer 2. -/
import Derived.Test.YtfjanomjmlcgaaaDoorZ4
set_option linter.unusedVariables false
set_option linter.unusedSimpArgs false
namespace Go.Proofs.YtfjanomjmlcgaaaDoor
open Go.RowKit

set_option maxHeartbeats 1000000 in
theorem law_shortZ {v : Value} {n : Bool} {l : List Nat} (k : Nat) {w : World} (h : SeesZ w v n l) (hk : k ≤ 1000) :
    Calls Tryd.prog 39 #[v, .int .i64 k] w fun e w' => (∃ u, e = .returned u ∧ SeesZ w' u n (l.take k)) ∧ Below w.heap.size w w' := by
  obtain ⟨m, rfl, hm⟩ := h
  have hlen := hm.len
  obtain ⟨ao, cap, rfl, hc1, -, -, -, -⟩ := id hm
  have HM := hid hm
  go_enter Tryd.func39, Tryd.ntmps39
  by_cases hlt : k < l.length
  · have hs := hm.takeC k (by omega)
    have hl : (l.take k).length = k := by simp; omega
    have HS := hid hs
    clear hm hs
    go_wp2
    have hb : Below w.heap.size w ((w.alloc (.cells #[.bool n, .slice ao k cap] 34)).alloc (.cells #[.bool n, .slice ao k cap] 34)) := ((Below.refl _ w).alloc (Nat.le_refl _) _).alloc (by simp) _
    refine bodyPost_ret (v := .agg #[.bool n, .slice ao k cap]) (by simp [results, Tryd.results39, go_sem]) rfl ⟨⟨_, rfl, _, rfl, HS.out.below hb⟩, hb⟩
  · have hl : l.take k = l := List.take_of_length_le (by omega)
    rw [hl]
    clear hm
    go_wp2
    have hb : Below w.heap.size w ((w.alloc (.cells #[.bool n, .slice ao l.length cap] 34)).alloc (.cells #[.bool n, .slice ao l.length cap] 34)) := ((Below.refl _ w).alloc (Nat.le_refl _) _).alloc (by simp) _
    refine bodyPost_ret (v := .agg #[.bool n, .slice ao l.length cap]) (by simp [results, Tryd.results39, go_sem]) rfl ⟨⟨_, rfl, _, rfl, HM.out.below hb⟩, hb⟩

theorem ref_sameZ {a b : Value} {n : Bool} {l : List Nat} {w : World} (ha : SeesZ w a n l) (hb : SeesZ w b n l) :
    Calls Tryd.prog 73 #[a, b] w fun e w' => e = .returned (.bool true) ∧ Below w.heap.size w w' := by
  obtain ⟨ma, rfl, ha⟩ := ha
  obtain ⟨mb, rfl, hb⟩ := hb
  have hbe : Below w.heap.size w ((w.alloc (.cells #[.bool n, ma] 34)).alloc (.cells #[.bool n, mb] 34)) := ((Below.refl _ w).alloc (Nat.le_refl _) _).alloc (by simp) _
  have HC := hid (ref_same _ _ _ _ (ha.below hbe) (hb.below hbe))
  obtain ⟨aa, ca, rfl, -, -, -, -, -⟩ := ha
  obtain ⟨ab, cb, rfl, -, -, -, -, -⟩ := hb
  have HB := hid hbe
  clear hbe
  go_enter Tryd.func73, Tryd.ntmps73
  go_wp2_with fail
  refine HC.out.mono ?_
  rintro e w2 ⟨rfl, hb2⟩
  have HB2 := hid (HB.out.trans (hb2.mono HB.out.size))
  clear hb2
  go_wp2
  go_ret
  exact ⟨rfl, HB2.out⟩

theorem law_sameZ {a b : Value} {n : Bool} {l : List Nat} {w : World} (ha : SeesZ w a n l) (hb : SeesZ w b n l) :
    Calls Tryd.prog 26 #[a, b] w fun e w' => e = .returned (.bool true) ∧ Below w.heap.size w w' := by
  have hA := ha; have hB := hb
  obtain ⟨ma, rfl, ha⟩ := ha
  obtain ⟨mb, rfl, hb⟩ := hb
  have hbe : Below w.heap.size w ((w.alloc (.cells #[.bool n, ma] 34)).alloc (.cells #[.bool n, mb] 34)) := ((Below.refl _ w).alloc (Nat.le_refl _) _).alloc (by simp) _
  have HC := hid (ref_sameZ (hA.below hbe) (hB.below hbe))
  obtain ⟨aa, ca, rfl, -, -, -, -, -⟩ := ha
  obtain ⟨ab, cb, rfl, -, -, -, -, -⟩ := hb
  have HB := hid hbe
  clear hbe hA hB
  go_enter Tryd.func26, Tryd.ntmps26
  go_wp2_with fail
  refine HC.out.mono ?_
  rintro e w2 ⟨rfl, hb2⟩
  have HB2 := hid (HB.out.trans (hb2.mono HB.out.size))
  clear hb2
  go_wp2
  go_ret
  exact ⟨rfl, HB2.out⟩
end Go.Proofs.YtfjanomjmlcgaaaDoor
