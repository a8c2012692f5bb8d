/- whole.Sign, whole.Text by their contracts; the document's; the statements' short. -/
import Derived.Test.YtfjanomjmlcgaaaDoorZ2
import Derived.Test.YtfjanomjmlcgaaaDoorRefText
set_option linter.unusedVariables false
set_option linter.unusedSimpArgs false
namespace Go.Proofs.YtfjanomjmlcgaaaDoor
open Go.RowKit

/-- The sign of a whole number. -/
def sgnI (z : Int) : Int := if z < 0 then -1 else if z = 0 then 0 else 1
theorem sgnI_zval (n : Bool) (l : List Nat) : sgnI (zval n l) = if val l = 0 then 0 else if n then -1 else 1 := by
  unfold sgnI zval
  by_cases h : val l = 0
  · rw [if_pos h]; cases n <;> simp [h]
  · rw [if_neg h]; cases n
    · simp
      rw [if_neg (by omega), if_neg (by omega)]
    · simp
      omega

theorem box_below {w : World} (n : Bool) (s : Value) : Below w.heap.size w (w.alloc (.cells #[.bool n, s] 34)) := (Below.refl _ w).alloc (Nat.le_refl _) _

set_option maxHeartbeats 1000000 in
theorem whole_sign {v : Value} {n : Bool} {l : List Nat} {w : World} (h : SeesZ w v n l) :
    Calls Tryd.prog 29 #[v] w fun e w' => e = .returned (.int .i64 (sgnI (zval n l))) ∧ Below w.heap.size w w' := by
  obtain ⟨m, rfl, hm⟩ := h
  have HC := hid (whole_isZero (hm.below (box_below n m)))
  have hs := sgnI_zval n l
  obtain ⟨z, hz⟩ : ∃ z, sgnI (zval n l) = z := ⟨_, rfl⟩
  rw [hz] at hs ⊢
  have HZ := hid hs
  obtain ⟨ao, cap, rfl, -, -, -, -, -⟩ := hm
  have HB := hid (box_below (w := w) n (.slice ao l.length cap))
  clear hs hz
  go_enter Tryd.func29, Tryd.ntmps29
  go_wp2_with fail
  refine HC.out.mono ?_
  rintro e w' ⟨rfl, rfl⟩
  by_cases h0 : val l = 0
  · have hz := HZ.out
    rw [if_pos h0] at hz
    subst hz
    rw [show decide (val l = 0) = true by simp [h0]]
    clear h0
    go_wp2
    go_ret
    exact ⟨rfl, HB.out⟩
  · have hz := HZ.out
    rw [if_neg h0] at hz
    rw [show decide (val l = 0) = false by simp [h0]]
    clear h0 HZ HC
    cases n
    · simp only [Bool.false_eq_true, if_false] at hz
      subst hz
      go_wp2
      go_ret
      exact ⟨rfl, HB.out⟩
    · simp only [if_true] at hz
      subst hz
      go_wp2
      go_ret
      exact ⟨rfl, HB.out⟩

set_option maxHeartbeats 1000000 in
theorem ref_sign {v : Value} {n : Bool} {l : List Nat} {w : World} (h : SeesZ w v n l) (hl : l.length ≤ 35184372088832) :
    Calls Tryd.prog 30 #[v] w fun e w' => e = .returned (.int .i64 (sgnI (zval n l))) ∧ Below w.heap.size w w' := by
  obtain ⟨m, rfl, hm⟩ := h
  have HC := hid (ref_bits m l _ (hm.below (box_below n m)) hl)
  have hs := sgnI_zval n l
  obtain ⟨z, hz⟩ : ∃ z, sgnI (zval n l) = z := ⟨_, rfl⟩
  rw [hz] at hs ⊢
  have HZ := hid hs
  obtain ⟨ao, cap, rfl, -, -, -, -, -⟩ := hm
  have HB := hid (box_below (w := w) n (.slice ao l.length cap))
  have HX := hid (Box.new w (.bool n) (.slice ao l.length cap) 34)
  have hbz := bits_zero (val l)
  obtain ⟨nb, hnb⟩ : ∃ nb, bitsN (val l) = nb := ⟨_, rfl⟩
  rw [hnb] at HC hbz
  have HBZ := hid hbz
  clear hs hz hnb hbz
  go_enter Tryd.func30, Tryd.ntmps30
  go_wp2_with fail
  refine HC.out.mono ?_
  rintro e w2 ⟨rfl, hb2⟩
  have HX2 := hid (HX.out.below hb2)
  have HB2 := hid (HB.out.trans (hb2.mono HB.out.size))
  obtain ⟨c0, c1, f0, f1⟩ := HX2.out.cells
  clear hb2 HX HB HC
  by_cases h0 : val l = 0
  · have hz := HZ.out
    rw [if_pos h0] at hz
    subst hz
    have hn0 : nb = 0 := by have := HBZ.out.2 h0; omega
    subst hn0
    clear h0
    go_wp2
    go_ret
    exact ⟨rfl, HB2.out⟩
  · have hz := HZ.out
    rw [if_neg h0] at hz
    have hn0 : ¬ (nb : Int) = 0 := fun e => h0 (HBZ.out.1 e)
    have hn1 : 0 < nb := by omega
    clear h0 HZ hn0
    cases n
    · simp only [Bool.false_eq_true, if_false] at hz
      subst hz
      go_wp2
      go_ret
      exact ⟨rfl, HB2.out⟩
    · simp only [if_true] at hz
      subst hz
      go_wp2
      go_ret
      exact ⟨rfl, HB2.out⟩
end Go.Proofs.YtfjanomjmlcgaaaDoor
