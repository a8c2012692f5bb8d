/- whole.Small by its contract; the document's Small, Make, Of. -/
import Derived.Test.YtjnibefigglcjaaDoorZ8
import Derived.Test.YtjnibefigglcjaaDoorRefInt
set_option linter.unusedVariables false
set_option linter.unusedSimpArgs false
namespace Go.Proofs.YtjnibefigglcjaaDoor
open Go.RowKit

/-- What Small tells of a whole number. -/
def smallI (n : Bool) (l : List Nat) : Int := if val l < 9223372036854775808 then zval n l else 0
def smallB (l : List Nat) : Bool := decide (val l < 9223372036854775808)

set_option maxHeartbeats 1000000 in
theorem whole_small {v : Value} {n : Bool} {l : List Nat} {w : World} (h : SeesZ w v n l) :
    Calls Tryd.prog 35 #[v] w fun e w' => e = .returned (.tuple #[.int .i64 (smallI n l), .bool (smallB l)]) ∧ Below w.heap.size w w' := by
  obtain ⟨m, rfl, hm⟩ := h
  have HB := hid (box_below (w := w) n m)
  have hm1 := hm.below HB.out
  have HM1 := hid hm1
  obtain ⟨ao, cap, rfl, -, -, -, -, -⟩ := id hm
  clear hm hm1
  go_enter Tryd.func35, Tryd.ntmps35
  by_cases hs : val l < 9223372036854775808
  · have e1 : smallI n l = zval n l := by unfold smallI; rw [if_pos hs]
    have e2 : smallB l = true := by unfold smallB; simp [hs]
    have HC := hid (nat_small_ok HM1.out hs)
    rw [e1, e2]
    obtain ⟨x, hx⟩ : ∃ x, val l = x := ⟨_, rfl⟩
    have hz : zval n l = if n = true then -(x : Int) else (x : Int) := by unfold zval; rw [hx]
    rw [hx] at HC hs
    have HZ := hid hz
    clear hx hz e1 e2
    go_wp2_with fail
    refine HC.out.mono ?_
    rintro e w2 ⟨rfl, rfl⟩
    clear HC
    cases n
    · have hz := HZ.out
      simp only [Bool.false_eq_true, if_false] at hz
      have HZ2 := hid hz
      clear hz HZ
      go_wp2
      go_ret2
      exact ⟨by rw [HZ2.out]; rfl, HB.out⟩
    · have hz := HZ.out
      simp only [if_true] at hz
      have HZ2 := hid hz
      have ew : IntKind.i64.wrap (-(x : Int)) = -(x : Int) := by rw [IntKind.wrap_i64]; omega
      clear hz HZ
      go_wp2
      go_ret2
      exact ⟨by rw [HZ2.out]; rfl, HB.out⟩
  · have e1 : smallI n l = 0 := by unfold smallI; rw [if_neg hs]
    have e2 : smallB l = false := by unfold smallB; simp [hs]
    have HC := hid (nat_small_no HM1.out hs)
    rw [e1, e2]
    clear e1 e2 hs
    go_wp2_with fail
    refine HC.out.mono ?_
    rintro e w2 ⟨rfl, rfl⟩
    clear HC
    cases n
    · go_wp2
      go_ret2
      exact ⟨rfl, HB.out⟩
    · go_wp2
      go_ret2
      exact ⟨rfl, HB.out⟩

set_option maxHeartbeats 1000000 in
theorem ref_smallZ {v : Value} {n : Bool} {l : List Nat} {w : World} (h : SeesZ w v n l) (hl : l.length ≤ 35184372088000) :
    Calls Tryd.prog 36 #[v] w fun e w' => e = .returned (.tuple #[.int .i64 (smallI n l), .bool (smallB l)]) ∧ Below w.heap.size w w' := by
  obtain ⟨m, rfl, hm⟩ := h
  have HB := hid (box_below (w := w) n m)
  have HX := hid (Box.new w (.bool n) m 34)
  have hm1 := hm.below HB.out
  have HM1 := hid hm1
  obtain ⟨ao, cap, rfl, -, -, -, -, -⟩ := id hm
  clear hm hm1
  go_enter Tryd.func36, Tryd.ntmps36
  by_cases hs : val l < 9223372036854775808
  · have e1 : smallI n l = zval n l := by unfold smallI; rw [if_pos hs]
    have e2 : smallB l = true := by unfold smallB; simp [hs]
    have HC := hid (ref_small_ok HM1.out hl hs)
    rw [e1, e2]
    obtain ⟨x, hx⟩ : ∃ x, val l = x := ⟨_, rfl⟩
    have hz : zval n l = if n = true then -(x : Int) else (x : Int) := by unfold zval; rw [hx]
    rw [hx] at HC hs
    have HZ := hid hz
    clear hx hz e1 e2
    go_wp2_with fail
    refine HC.out.mono ?_
    rintro e w2 ⟨rfl, hb2⟩
    have HB2 := hid (step_below HB.out hb2)
    obtain ⟨c0, c1, f0, f1⟩ := (HX.out.below hb2).cells
    clear HC hb2
    cases n
    · have hz := HZ.out
      simp only [Bool.false_eq_true, if_false] at hz
      have HZ2 := hid hz
      clear hz HZ
      go_wp2
      go_ret2
      exact ⟨by rw [HZ2.out]; rfl, HB2.out⟩
    · have hz := HZ.out
      simp only [if_true] at hz
      have HZ2 := hid hz
      have ew : IntKind.i64.wrap (-(x : Int)) = -(x : Int) := by rw [IntKind.wrap_i64]; omega
      clear hz HZ
      go_wp2
      go_ret2
      exact ⟨by rw [HZ2.out]; rfl, HB2.out⟩
  · have e1 : smallI n l = 0 := by unfold smallI; rw [if_neg hs]
    have e2 : smallB l = false := by unfold smallB; simp [hs]
    have HC := hid (ref_small_no HM1.out hl hs)
    rw [e1, e2]
    clear e1 e2 hs
    go_wp2_with fail
    refine HC.out.mono ?_
    rintro e w2 ⟨rfl, hb2⟩
    have HB2 := hid (step_below HB.out hb2)
    clear HC hb2
    go_wp2
    go_ret2
    exact ⟨rfl, HB2.out⟩

set_option maxRecDepth 100000 in
set_option maxHeartbeats 1000000 in
theorem ref_make (neg : Bool) {m : Value} {l : List Nat} {w : World} (h : Sees w m l) (hl : l.length ≤ 35184372088832) (z : Int) (hz : z = if neg then -(val l : Int) else (val l : Int)) :
    Calls Tryd.prog 75 #[.bool neg, m] w fun e w' => IsInt w z e w' := by
  have HB := hid (box_below (w := w) false (.slice none 0 0))
  have HX := hid (Box.new w (.bool false) (.slice none 0 0) 34)
  have HZ := hid hz
  have hlen := (limbs_prefix h.ok).2
  have HC := hid (ref_plain m l _ (h.below HB.out) hl)
  have hpos : (0 < (limbs (val l)).length) ↔ val l ≠ 0 := by
    constructor
    · intro h1 h2; rw [h2, limbs_zero] at h1; simp at h1
    · intro h1; exact (limbs_last (by omega)).1
  have HP := hid hpos
  have hlb : (limbs (val l)).length ≤ 70368744177664 := by omega
  clear hz hpos h
  go_enter Tryd.func75, Tryd.ntmps75
  go_wp2_with fail
  refine HC.out.mono ?_
  intro e w1 hp
  obtain ⟨v1, rfl, hs1, hb1⟩ := hp.sees hlb
  have HB1 := hid (step_below HB.out hb1)
  have HX1 := hid (HX.out.below hb1)
  have HS1 := hid hs1
  obtain ⟨ao, cap, rfl, -, -, -, -, -⟩ := id hs1
  have hz1 := isZ_of hs1 neg z HZ.out
  have hdn : decide (val l ≠ 0) = decide (0 < (limbs (val l)).length) := by
    have := HP.out
    by_cases h : val l = 0
    · simp [h, limbs_zero]
    · have h1 := this.2 h; simp [h, h1]
  rw [hdn] at hz1
  have HZ1 := hid hz1
  obtain ⟨c0, c1, f0, f1⟩ := HX1.out.cells
  have hlt := HX1.out.lt
  clear hp hb1 hs1 hz1 hdn HC HB HX HZ HP hlen hl
  generalize limbs (val l) = p at *
  cases neg
  · obtain ⟨g1, g2, g3⟩ := store_end HB1.out (Nat.le_refl _) HX1.out (show IsZ w1 (.agg #[.bool false, .slice ao p.length cap]) z from HZ1.out)
    have HG1 := hid g1
    clear g1
    go_wp2
    exact bodyPost_ret (v := .agg #[.bool false, .slice ao p.length cap]) (by simp [results, Tryd.results75, go_sem, g2, g3]) rfl HG1.out
  · obtain ⟨b, hb⟩ : ∃ b, decide (0 < p.length) = b := ⟨_, rfl⟩
    have hb' : decide ((0 : Int) < (p.length : Int)) = b := by rw [← hb]; congr 1; simp
    obtain ⟨g1, g2, g3⟩ := store_end HB1.out (Nat.le_refl _) HX1.out (show IsZ w1 (.agg #[.bool b, .slice ao p.length cap]) z by have := HZ1.out; rw [hb] at this; exact this)
    have HG1 := hid g1
    cases b
    · have hp0 : ¬ 0 < p.length := by simpa using hb
      clear g1 hb hb'
      go_wp2
      exact bodyPost_ret (v := .agg #[.bool false, .slice ao p.length cap]) (by simp [results, Tryd.results75, go_sem, g2, g3]) rfl HG1.out
    · have hp0 : 0 < p.length := by simpa using hb
      clear g1 hb hb'
      go_wp2
      exact bodyPost_ret (v := .agg #[.bool true, .slice ao p.length cap]) (by simp [results, Tryd.results75, go_sem, g2, g3]) rfl HG1.out
end Go.Proofs.YtjnibefigglcjaaDoor
