/- The document's Same, lex; mono.lastDifference, slices.Compare, mono.firstDifference, areAlike; the document's Both: by their contracts. -/
import Derived.Test.YthlldjknmdndoaaMoA
set_option linter.unusedVariables false
set_option linter.unusedSimpArgs false
namespace Go.Proofs.Ythlldjknmdndoaa
open Go.RowKit

theorem list_eq_getD {l m : List Int} (hl : l.length = m.length) (h : ∀ i, i < l.length → l.getD i 0 = m.getD i 0) : l = m := by
  apply List.ext_getElem?
  intro i
  by_cases hi : i < l.length
  · have := h i hi
    rw [List.getD_eq_getElem?_getD, List.getD_eq_getElem?_getD, List.getElem?_eq_getElem hi, List.getElem?_eq_getElem (by omega)] at this
    rw [List.getElem?_eq_getElem hi, List.getElem?_eq_getElem (by omega)]
    simpa using this
  · rw [List.getElem?_eq_none (by omega), List.getElem?_eq_none (by omega)]

theorem ref_Same {a b : Value} {l m : List Int} {w : World} (ha : SeesI w a l) (hb : SeesI w b m) :
    Calls Try.prog 25 #[a, b] w fun e w' => Reads (.bool (decide (l = m))) w e w' := by
  have hlen := ha.len
  have hlen2 := hb.len
  have HA := hidP ha
  have HB := hidP hb
  obtain ⟨A, ca, rfl, hcap⟩ := SeesF.form ha
  obtain ⟨B, cb, rfl, hcap2⟩ := SeesF.form hb
  clear ha hb
  by_cases hl : l.length = m.length
  · obtain ⟨n, hn⟩ : ∃ n, m.length = n := ⟨_, rfl⟩
    have HL := hidP hl
    have HN := hidP hn
    rw [hn] at hl hlen2 hcap2 ⊢
    rw [hl] at hlen hcap ⊢
    have HLn := hidP hl
    clear hl hn
    go_enter Try.func25, Try.ntmps25
    go_wp2
    go_loopw [5] (fun v wr => ∃ k d : Nat, k ≤ n ∧ v = .int .i64 k ∧ wr = w.drewN d ∧ Hid (∀ i, i < k → l.getD i 0 = m.getD i 0)) (fun v _ => n - (intOf v).toNat)
    case atStart => exact ⟨0, 0, Nat.zero_le _, rfl, rfl, fun i hi => absurd hi (by omega)⟩
    case round =>
      obtain ⟨k, d, hk, rfl, rfl, hz⟩ := hrel
      by_cases hlt : k < n
      · obtain ⟨b1, o1, rfl, hc1'⟩ := HA.out.at (by have := HLn.out; omega)
        obtain ⟨b2, o2, rfl, hc2'⟩ := HB.out.at (by have := HN.out; omega)
        have hc1 := hc1' k (by have := HLn.out; omega)
        have hc2 := hc2' k (by have := HN.out; omega)
        have HZ : Hid (l.getD k 0 = m.getD k 0 → ∀ i, i < k + 1 → l.getD i 0 = m.getD i 0) := fun h i hi => by
          by_cases e : i = k
          · subst e; exact h
          · exact hz.out i (by omega)
        have HNE : Hid (l.getD k 0 ≠ m.getD k 0 → l ≠ m) := fun h e => h (by rw [e])
        clear hc1' hc2' hz
        obtain ⟨x, hx⟩ : ∃ x, l.getD k 0 = x := ⟨_, rfl⟩
        obtain ⟨y, hy⟩ : ∃ y, m.getD k 0 = y := ⟨_, rfl⟩
        rw [hx] at hc1
        rw [hy] at hc2
        rw [hx, hy] at HZ HNE
        clear hx hy
        by_cases he : x = y
        · have HZ2 := hidP (HZ.out he)
          subst he
          clear HZ HNE
          go_wp2
          go_quiet (fail)
          go_wp2
          go_roundw
          case rel => exact ⟨k + 1, d + nq, by omega, by go_num, rfl, HZ2⟩
          case measure => simp [intOf]; omega
        · have HN2 := hidP (HNE.out he)
          have hxy : (x != y) = true := by simpa using he
          clear HZ HNE
          go_wp2
          go_quiet (fail)
          go_wp2
          go_ret
          exact ⟨ret_bool (by rw [decide_eq_false HN2.out]), ⟨_, World.drewN_drewN _ _ _⟩⟩
      · have HE := hidP (list_eq_getD HL.out (fun i hi => hz.out i (by have := HLn.out; omega)))
        clear hz
        go_wp2
        go_ret
        exact ⟨ret_bool (by rw [decide_eq_true HE.out]), ⟨_, rfl⟩⟩
  · have HN : Hid (l ≠ m) := fun e => hl (by rw [e])
    have hl2 : ((l.length : Int) != (m.length : Int)) = true := by simp; omega
    clear HA HB
    go_enter Try.func25, Try.ntmps25
    go_wp2
    go_ret
    exact ⟨ret_bool (by rw [decide_eq_false HN.out]), ⟨0, rfl⟩⟩
end Go.Proofs.Ythlldjknmdndoaa
