/- The document's Same by its contract; the law's same and short. -/
import Derived.Test.YtgcgifehpbjglabDoorCmp
import Derived.Laws.AppendOwnNone
set_option linter.unusedVariables false
set_option linter.unusedSimpArgs false
namespace Go.Proofs.YtgcgifehpbjglabDoor
open Go.RowKit

theorem ref_same (a b : Value) (l : List Nat) (w : World) (ha : Sees w a l) (hb : Sees w b l) :
    Calls Tryd.prog 18 #[a, b] w fun e w' => e = .returned (.bool true) ∧ Below w.heap.size w w' := by
  have hlen := ha.len
  have hA := ha
  have hB := hb
  obtain ⟨A, ca, rfl, _, _, _, _, _⟩ := ha
  obtain ⟨B, cb, rfl, _, _, _, _, _⟩ := hb
  have HA := hid hA; have HB := hid hB
  clear hA hB
  go_enter Tryd.func18, Tryd.ntmps18
  go_wp2
  go_loopw [5] (fun v wr => ∃ k m : Nat, k ≤ l.length ∧ v = .int .i64 k ∧ wr = w.drewN m) (fun v _ => l.length - (intOf v).toNat)
  case atStart => exact ⟨0, 0, Nat.zero_le _, rfl, rfl⟩
  case round =>
    obtain ⟨k, m, hk, rfl, rfl⟩ := hrel
    by_cases hlt : k < l.length
    · obtain ⟨b1, o1, rfl, hc1'⟩ := HA.out.at (by omega)
      obtain ⟨b2, o2, rfl, hc2'⟩ := HB.out.at (by omega)
      have hc1 := hc1' k hlt
      have hc2 := hc2' k hlt
      clear hc1' hc2'
      go_wp2
      go_quiet (fail)
      go_wp2
      go_roundw
      case rel => exact ⟨k + 1, m + nq, by omega, by go_num, rfl⟩
      case measure => simp [intOf]; omega
    · go_wp2
      go_ret
      exact ⟨rfl, below_drewN (Below.refl _ _) _⟩

theorem law_same (a b : Value) (l : List Nat) (w : World) (ha : Sees w a l) (hb : Sees w b l) :
    Calls Tryd.prog 11 #[a, b] w fun e w' => e = .returned (.bool true) ∧ Below w.heap.size w w' := by
  go_enter Tryd.func11, Tryd.ntmps11
  go_wp2_with fail
  refine (ref_same _ _ l _ ha hb).mono ?_
  rintro e w' ⟨rfl, hbel⟩
  go_wp2
  go_ret
  exact ⟨rfl, hbel⟩

theorem Sees.takeC {w : World} {ao : Option Addr} {len cap : Nat} {l : List Nat} (h : Sees w (.slice ao len cap) l) (n : Nat) (hn : n ≤ l.length) : Sees w (.slice ao n cap) (l.take n) := by
  obtain ⟨h1, h2⟩ := h.len_eq
  have hok := h.ok
  have hlen := h.len
  have hl : (l.take n).length = n := by simp; omega
  refine ⟨ao, cap, by rw [hl], by omega, by omega, hok.take n, fun e => ?_, fun hp => ?_⟩
  · obtain ⟨ao', cap', h1, _, _, _, hn0, _⟩ := h
    simp only [Value.slice.injEq] at h1
    obtain ⟨rfl, _, rfl⟩ := h1
    exact hn0 e
  · obtain ⟨b, o, ha, hcell⟩ := h.at (by omega)
    refine ⟨b, o, ha, fun i hi => ?_⟩
    rw [hl] at hi
    rw [hcell i (by omega), List.getD_eq_getElem?_getD, List.getD_eq_getElem?_getD, List.getElem?_take_of_lt hi]

theorem law_short (v : Value) (l : List Nat) (n : Nat) (w : World) (h : Sees w v l) (hn : n ≤ 1000) :
    Calls Tryd.prog 7 #[v, .int .i64 n] w fun e w' => (∃ v', e = .returned v' ∧ Sees w v' (l.take n)) ∧ w = w' := by
  have hlen := h.len
  have HS := hid h
  obtain ⟨a, c, rfl, hlc, -, -, -, -⟩ := h
  by_cases hl : n < l.length
  · have HT := hid (HS.out.takeC n (by omega))
    obtain ⟨b, o, rfl, -⟩ := HS.out.at (by omega)
    go_enter Tryd.func7, Tryd.ntmps7
    go_wp2
    go_ret
    exact ⟨⟨_, rfl, HT.out⟩, rfl⟩
  · have HT : Hid (Sees w (.slice a l.length c) (l.take n)) := by rw [List.take_of_length_le (by omega)]; exact HS
    go_enter Tryd.func7, Tryd.ntmps7
    go_wp2
    go_ret
    exact ⟨⟨_, rfl, HT.out⟩, rfl⟩

end Go.Proofs.YtgcgifehpbjglabDoor
