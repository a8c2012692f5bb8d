/- The statements' short of a fraction. -/
import Derived.Test.YtjnbonellgpjnaaGreatDa
set_option linter.unusedVariables false
set_option linter.unusedSimpArgs false
namespace Go.Proofs.YtjnbonellgpjnaaGreat
open Go.RowKit

theorem SeesQ.st {w : World} {v : Value} {n : Bool} {a d : List Nat} (h : SeesQ w v n a d) {g : Nat} {n0 : Bool} {p q : Option Addr} {i j k l : Nat} (hy : Blk w g #[.bool n0, .slice p i j, .slice q k l]) (x y u : Value) : SeesQ (((w.setCell ⟨g, 0, none⟩ x).setCell ⟨g, 1, none⟩ y).setCell ⟨g, 2, none⟩ u) v n a d := by
  obtain ⟨m, v', rfl, hm, hu⟩ := h
  exact ⟨m, v', rfl, hm.store hy (NoInt.three _ _ _ _ _ _ _) (st3_grown ..), hu.store hy (NoInt.three _ _ _ _ _ _ _) (st3_grown ..)⟩
theorem Sees.takeCap {w : World} {ao : Option Addr} {len cap : Nat} {l : List Nat} (h : Sees w (.slice ao len cap) l) (n : Nat) (hn : n ≤ l.length) : Sees w (.slice ao n cap) (l.take n) := by
  obtain ⟨ao', cap', h1, h2, h3, h4, hn0, h5⟩ := h
  simp only [Value.slice.injEq] at h1
  obtain ⟨rfl, rfl, rfl⟩ := h1
  have hl : (l.take n).length = n := by simp; omega
  refine ⟨ao, cap, by rw [hl], by omega, by omega, h4.take n, hn0, fun hp => ?_⟩
  obtain ⟨b, o, ha, hcell⟩ := h5 (by omega)
  refine ⟨b, o, ha, fun i hi => ?_⟩
  rw [hl] at hi
  rw [hcell i (by omega), List.getD_eq_getElem?_getD, List.getD_eq_getElem?_getD, List.getElem?_take_of_lt hi]

set_option maxRecDepth 100000 in
set_option maxHeartbeats 2000000 in
theorem law_shortQ {v : Value} {n : Bool} {l d : List Nat} (k : Nat) {w : World} (h : SeesQ w v n l d) (hk : k ≤ 1000) :
    Calls Tryz.prog 8 #[v, .int .i64 k] w fun e w' => ∃ u, e = .returned u ∧ SeesQ w' u n (l.take k) (d.take k) ∧ Below w.heap.size w w' := by
  obtain ⟨m, u, rfl, hm, hu⟩ := h
  have hlen := hm.len
  have hlen2 := hu.len
  have HM := hid hm; have HU := hid hu
  obtain ⟨ao, ac, rfl, hc1, -, -, -, -⟩ := id hm
  obtain ⟨bo, bc, rfl, hc2, -, -, -, -⟩ := id hu
  by_cases hlt : k < l.length <;> by_cases hlt2 : k < d.length
  · have hs := HM.out.takeCap k (by omega)
    have ht := HU.out.takeCap k (by omega)
    have HS := hid hs; have HT := hid ht
    clear hs ht hm hu
    go_enter Tryz.func8, Tryz.ntmps8
    go_wp2
    have hb : Below w.heap.size w ((w.alloc (.cells #[.bool n, .slice ao k ac, .slice bo k bc] 26)).alloc (.cells #[.bool n, .slice ao k ac, .slice bo k bc] 26)) := ((Below.refl _ w).alloc (Nat.le_refl _) _).alloc (by simp) _
    exact bodyPost_ret (v := .agg #[.bool n, .slice ao k ac, .slice bo k bc]) (by simp [results, Tryz.results8, go_sem]) rfl ⟨_, rfl, ⟨_, _, rfl, HS.out.below hb, HT.out.below hb⟩, hb⟩
  · have hs := HM.out.takeCap k (by omega)
    have ht := HU.out
    have e2 : d.take k = d := List.take_of_length_le (by omega)
    rw [e2]
    have HS := hid hs; have HT := hid ht
    clear hs ht hm hu e2
    go_enter Tryz.func8, Tryz.ntmps8
    go_wp2
    have hb : Below w.heap.size w ((w.alloc (.cells #[.bool n, .slice ao k ac, .slice bo d.length bc] 26)).alloc (.cells #[.bool n, .slice ao k ac, .slice bo d.length bc] 26)) := ((Below.refl _ w).alloc (Nat.le_refl _) _).alloc (by simp) _
    exact bodyPost_ret (v := .agg #[.bool n, .slice ao k ac, .slice bo d.length bc]) (by simp [results, Tryz.results8, go_sem]) rfl ⟨_, rfl, ⟨_, _, rfl, HS.out.below hb, HT.out.below hb⟩, hb⟩
  · have hs := HM.out
    have e1 : l.take k = l := List.take_of_length_le (by omega)
    rw [e1]
    have ht := HU.out.takeCap k (by omega)
    have HS := hid hs; have HT := hid ht
    clear hs ht hm hu e1
    go_enter Tryz.func8, Tryz.ntmps8
    go_wp2
    have hb : Below w.heap.size w ((w.alloc (.cells #[.bool n, .slice ao l.length ac, .slice bo k bc] 26)).alloc (.cells #[.bool n, .slice ao l.length ac, .slice bo k bc] 26)) := ((Below.refl _ w).alloc (Nat.le_refl _) _).alloc (by simp) _
    exact bodyPost_ret (v := .agg #[.bool n, .slice ao l.length ac, .slice bo k bc]) (by simp [results, Tryz.results8, go_sem]) rfl ⟨_, rfl, ⟨_, _, rfl, HS.out.below hb, HT.out.below hb⟩, hb⟩
  · have hs := HM.out
    have e1 : l.take k = l := List.take_of_length_le (by omega)
    rw [e1]
    have ht := HU.out
    have e2 : d.take k = d := List.take_of_length_le (by omega)
    rw [e2]
    have HS := hid hs; have HT := hid ht
    clear hs ht hm hu e1 e2
    go_enter Tryz.func8, Tryz.ntmps8
    go_wp2
    have hb : Below w.heap.size w ((w.alloc (.cells #[.bool n, .slice ao l.length ac, .slice bo d.length bc] 26)).alloc (.cells #[.bool n, .slice ao l.length ac, .slice bo d.length bc] 26)) := ((Below.refl _ w).alloc (Nat.le_refl _) _).alloc (by simp) _
    exact bodyPost_ret (v := .agg #[.bool n, .slice ao l.length ac, .slice bo d.length bc]) (by simp [results, Tryz.results8, go_sem]) rfl ⟨_, rfl, ⟨_, _, rfl, HS.out.below hb, HT.out.below hb⟩, hb⟩
end Go.Proofs.YtjnbonellgpjnaaGreat
