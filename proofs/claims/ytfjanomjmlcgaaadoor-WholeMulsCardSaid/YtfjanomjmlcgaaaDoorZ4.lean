/- whole.Text by its contract; the document's; the statements' short and same. -/
import Derived.Test.YtfjanomjmlcgaaaDoorZ3
import Derived.Test.YtfjanomjmlcgaaaDoorBackN
set_option linter.unusedVariables false
set_option linter.unusedSimpArgs false
namespace Go.Proofs.YtfjanomjmlcgaaaDoor
open Go.RowKit

/-- The text of a whole number. -/
def textZ (z : Int) : ByteArray := if z < 0 then ⟨(45 :: dec z.natAbs).toArray⟩ else ⟨(dec z.natAbs).toArray⟩
theorem minus_append (l : List UInt8) : (⟨#[45]⟩ : ByteArray) ++ ⟨l.toArray⟩ = ⟨(45 :: l).toArray⟩ := by
  apply ByteArray.ext
  simp
theorem sgnI_neg (z : Int) : sgnI z < 0 ↔ z < 0 := by
  unfold sgnI
  by_cases h : z < 0
  · simp [h]
  · rw [if_neg h]
    by_cases h2 : z = 0 <;> simp [h2] <;> omega

theorem dec_len {l : List Nat} (hok : Ok l) (hl : l.length ≤ 1000) : (dec (val l)).length ≤ 10000 := by
  have h1 := val_lt' hok 1000 hl
  have h2 := pow_bin_ten 1000
  have h3 := decR_length (Nat.lt_of_lt_of_le h1 h2)
  unfold dec
  by_cases h0 : val l = 0
  · rw [if_pos h0]; simp
  · rw [if_neg h0, List.length_reverse]; omega

set_option maxHeartbeats 1000000 in
theorem whole_text {v : Value} {n : Bool} {l : List Nat} {w : World} (h : SeesZ w v n l) (hl : l.length ≤ 1000) :
    Calls Tryd.prog 46 #[v] w fun e w' => e = .returned (.string (textZ (zval n l))) ∧ Below w.heap.size w w' := by
  have hS := h
  obtain ⟨m, rfl, hm⟩ := h
  have HB := hid (box_below (w := w) n m)
  have HC := hid (nat_text m l _ (hm.below HB.out) hl)
  have HX := hid (Box.new w (.bool n) m 34)
  have hsg := sgnI_neg (zval n l)
  have hab := zval_abs n l
  have htx : textZ (zval n l) = if zval n l < 0 then ⟨(45 :: dec (zval n l).natAbs).toArray⟩ else ⟨(dec (zval n l).natAbs).toArray⟩ := rfl
  rw [hab] at htx
  have hdl := dec_len hm.ok hl
  obtain ⟨z, hz⟩ : ∃ z, zval n l = z := ⟨_, rfl⟩
  obtain ⟨d, hd⟩ : ∃ d, dec (val l) = d := ⟨_, rfl⟩
  obtain ⟨T, hT⟩ : ∃ T, textZ (zval n l) = T := ⟨_, rfl⟩
  rw [hT] at htx ⊢
  rw [hd] at htx HC hdl
  rw [hz] at hsg htx
  have HZ := hid hz; have HT := hid htx; have HSG := hid hsg
  obtain ⟨ao, cap, rfl, -, -, -, -, -⟩ := id hm
  have HM := hid hm
  clear hz hd hT htx hsg hab hm hS
  go_enter Tryd.func46, Tryd.ntmps46
  go_wp2_with fail
  refine HC.out.mono ?_
  rintro e w2 ⟨rfl, hb2⟩
  have HX2 := hid (HX.out.below hb2)
  have HB2 := hid (HB.out.trans (hb2.mono HB.out.size))
  have HS2 : Hid (SeesZ w2 (.agg #[.bool n, .slice ao l.length cap]) n l) := ⟨_, rfl, (HM.out.below HB.out).below hb2⟩
  obtain ⟨c0, c1, f0, f1⟩ := HX2.out.cells
  clear hb2 HX HB HC
  go_wp2_with fail
  refine (whole_sign HS2.out).mono ?_
  rw [HZ.out]
  rintro e w3 ⟨rfl, hb3⟩
  have HB3 := hid (HB2.out.trans (hb3.mono HB2.out.size))
  have hdec : (sgnI z < 0) = (z < 0) := propext HSG.out
  have HDE := hid hdec
  clear hb3 hdec HB2 c0 c1 f0 f1
  by_cases h0 : z < 0
  · have hs0 := HSG.out.2 h0
    have ht := HT.out
    rw [if_pos h0, ← minus_append] at ht
    generalize sgnI z = s at hs0
    have HT2 := hid ht
    clear ht HT HSG HDE HZ h0
    go_wp2
    go_ret
    exact ⟨by rw [HT2.out]; rfl, HB3.out⟩
  · have hs0 : ¬ sgnI z < 0 := fun h => h0 (HSG.out.1 h)
    have ht := HT.out
    rw [if_neg h0] at ht
    generalize sgnI z = s at hs0
    have HT2 := hid ht
    clear ht HT HSG HDE HZ h0
    go_wp2
    go_ret
    exact ⟨by rw [HT2.out]; rfl, HB3.out⟩

set_option maxHeartbeats 1000000 in
theorem ref_textZ {v : Value} {n : Bool} {l : List Nat} {w : World} (h : SeesZ w v n l) (hl : l.length ≤ 1000) :
    Calls Tryd.prog 47 #[v] w fun e w' => e = .returned (.string (textZ (zval n l))) ∧ Below w.heap.size w w' := by
  have hS := h
  obtain ⟨m, rfl, hm⟩ := h
  have HB := hid (box_below (w := w) n m)
  have HX := hid (Box.new w (.bool n) m 34)
  have HS1 := hid (hS.below HB.out)
  have hsg := sgnI_neg (zval n l)
  have hab := zval_abs n l
  have htx : textZ (zval n l) = if zval n l < 0 then ⟨(45 :: dec (zval n l).natAbs).toArray⟩ else ⟨(dec (zval n l).natAbs).toArray⟩ := rfl
  rw [hab] at htx
  have hdl := dec_len hm.ok hl
  obtain ⟨z, hz⟩ : ∃ z, zval n l = z := ⟨_, rfl⟩
  obtain ⟨d, hd⟩ : ∃ d, dec (val l) = d := ⟨_, rfl⟩
  obtain ⟨T, hT⟩ : ∃ T, textZ (zval n l) = T := ⟨_, rfl⟩
  rw [hT] at htx ⊢
  rw [hd] at htx hdl
  rw [hz] at hsg htx
  have HZ := hid hz; have HT := hid htx; have HSG := hid hsg; have HD := hid hd
  obtain ⟨ao, cap, rfl, -, -, -, -, -⟩ := id hm
  have HM := hid (hm.below HB.out)
  clear hz hd hT htx hsg hab hm hS
  go_enter Tryd.func47, Tryd.ntmps47
  go_wp2_with fail
  refine (ref_sign HS1.out (by omega)).mono ?_
  rw [HZ.out]
  rintro e w2 ⟨rfl, hb2⟩
  have HX2 := hid (HX.out.below hb2)
  have HB2 := hid (HB.out.trans (hb2.mono HB.out.size))
  have HM2 := hid (HM.out.below hb2)
  obtain ⟨c0, c1, f0, f1⟩ := HX2.out.cells
  clear hb2 HX HB HM HS1
  by_cases h0 : z < 0
  · have hs0 := HSG.out.2 h0
    have ht := HT.out
    rw [if_pos h0, ← minus_append] at ht
    generalize sgnI z = s at hs0
    have HT2 := hid ht
    clear ht HT HSG HZ h0
    go_wp2_with fail
    refine (ref_text _ l _ HM2.out hl).mono ?_
    rw [HD.out]
    rintro e w3 ⟨rfl, hb3⟩
    have HB3 := hid (HB2.out.trans (hb3.mono HB2.out.size))
    clear hb3 c0 c1 f0 f1
    go_wp2
    go_ret
    exact ⟨by rw [HT2.out]; rfl, HB3.out⟩
  · have hs0 : ¬ sgnI z < 0 := fun h => h0 (HSG.out.1 h)
    have ht := HT.out
    rw [if_neg h0] at ht
    generalize sgnI z = s at hs0
    have HT2 := hid ht
    clear ht HT HSG HZ h0
    go_wp2_with fail
    refine (ref_text _ l _ HM2.out hl).mono ?_
    rw [HD.out]
    rintro e w3 ⟨rfl, hb3⟩
    have HB3 := hid (HB2.out.trans (hb3.mono HB2.out.size))
    clear hb3 c0 c1 f0 f1
    go_wp2
    go_ret
    exact ⟨by rw [HT2.out]; rfl, HB3.out⟩
end Go.Proofs.YtfjanomjmlcgaaaDoor
