/- whole.isZero, whole.signed, the document's Make, Same by their contracts. -/
import Derived.Test.YtfjanomjmlcgaaaDoorZ0
set_option linter.unusedVariables false
set_option linter.unusedSimpArgs false
namespace Go.Proofs.YtfjanomjmlcgaaaDoor
open Go.RowKit

theorem bits_zero (x : Nat) : ((bitsN x : Nat) : Int) = 0 ↔ x = 0 := by
  unfold bitsN
  by_cases h : x = 0
  · simp [h]
  · rw [if_neg h]; constructor
    · intro h2; omega
    · intro h2; exact absurd h2 h

theorem whole_isZero {m : Value} {l : List Nat} {w : World} (h : Sees w m l) :
    Calls Tryd.prog 76 #[m] w fun e w' => e = .returned (.bool (decide (val l = 0))) ∧ w = w' := by
  have hb := bits_zero (val l)
  have HC := hid (nat_bits' h)
  obtain ⟨n, hn⟩ : ∃ n, bitsN (val l) = n := ⟨_, rfl⟩
  rw [hn] at HC hb
  have HB := hid hb
  clear hb hn h
  go_enter Tryd.func76, Tryd.ntmps76
  go_wp2_with fail
  refine HC.out.mono ?_
  rintro e w' ⟨rfl, rfl⟩
  go_wp2
  go_ret
  refine ⟨?_, rfl⟩
  by_cases h : val l = 0
  · have := HB.out.2 h
    simp [h, this]
  · have : ¬ (n : Int) = 0 := fun e => h (HB.out.1 e)
    simp [h]
    omega

/-- The answer is the plain whole number z; what was there is as it was. -/
def IsInt (w : World) (z : Int) (e : Ending) (w' : World) : Prop := ∃ v, e = .returned v ∧ IsZ w' v z ∧ Below w.heap.size w w'

theorem whole_signed (neg : Bool) (x : Nat) {m : Value} {w : World} (h : Sees w m (limbs x)) (z : Int) (hz : z = if neg then -(x : Int) else (x : Int)) :
    Calls Tryd.prog 74 #[.bool neg, m] w fun e w' => IsInt w z e w' := by
  have HS := hid h
  have HZ := hid hz
  have HC := hid (whole_isZero (w := w.alloc (.cells #[.bool false, .slice none 0 0] 34)) (h.below ((Below.refl _ w).alloc (Nat.le_refl _) _)))
  rw [val_limbs] at HC
  obtain ⟨ao, cap, rfl, -, -, -, -, -⟩ := h
  clear hz
  go_enter Tryd.func74, Tryd.ntmps74
  cases neg
  · go_wp2
    refine bodyPost_ret (v := .agg #[.bool false, .slice ao (limbs x).length cap]) (by simp [results, Tryd.results74, go_sem]) rfl ?_
    have hb := (Below.refl w.heap.size w).alloc (Nat.le_refl _) (.cells #[.bool false, .slice ao (limbs x).length cap] 34)
    exact ⟨_, rfl, isZ_of (HS.out.below hb) false z HZ.out, hb⟩
  · go_wp2_with fail
    refine HC.out.mono ?_
    rintro e w' ⟨rfl, rfl⟩
    have eb : (true && decide (x ≠ 0)) = !decide (x = 0) := by by_cases h : x = 0 <;> simp [h]
    have HEB := hid eb
    clear eb
    obtain ⟨b, hb⟩ : ∃ b, decide (x = 0) = b := ⟨_, rfl⟩
    rw [hb] at HEB ⊢
    clear hb HC
    go_wp2
    refine bodyPost_ret (v := .agg #[.bool (!b), .slice ao (limbs x).length cap]) (by simp [results, Tryd.results74, go_sem]) rfl ?_
    have hb := (Below.refl w.heap.size w).alloc (Nat.le_refl _) (.cells #[.bool (!b), .slice ao (limbs x).length cap] 34)
    have hz := isZ_of (HS.out.below hb) true z HZ.out
    rw [HEB.out] at hz
    exact ⟨_, rfl, hz, hb⟩
end Go.Proofs.YtfjanomjmlcgaaaDoor
