/- whole.Text by its contract; the document's; the statements' short and same. The statements' short and same of layer 2. whole.Of by its contract. whole.Div by its contract, for a divisor that is not 0. What each statement of layer 2 asks first: 'awake' answers true. -/
import Derived.Test.YtjnbonellgpjnaaGreatKC
import Derived.Test.YtjnbonellgpjnaaGreatKE
import Derived.Test.YtjnbonellgpjnaaGreatKD
import Derived.Test.YtjnbonellgpjnaaGreatKB
set_option linter.unusedVariables false
set_option linter.unusedSimpArgs false
namespace Go.Proofs.YtjnbonellgpjnaaGreat
open Go.RowKit

/-- The text of a whole number. -/
def textZ (z : Int) : ByteArray := if z < 0 then ⟨(45 :: dec z.natAbs).toArray⟩ else ⟨(dec z.natAbs).toArray⟩
theorem minus_append (l : List UInt8) : (⟨#[45]⟩ : ByteArray) ++ ⟨l.toArray⟩ = ⟨(45 :: l).toArray⟩ := by
  apply ByteArray.ext
  simp
theorem sgnI_neg (z : Int) : sgnI z < 0 ↔ z < 0 := by
  unfold sgnI
  by_cases h : z < 0
  · simp [h]
  · rw [if_neg h]
    by_cases h2 : z = 0 <;> simp [h2] <;> omega

theorem dec_len {l : List Nat} (hok : Ok l) (hl : l.length ≤ 1000) : (dec (val l)).length ≤ 10000 := by
  have h1 := val_lt' hok 1000 hl
  have h2 := pow_bin_ten 1000
  have h3 := decR_length (Nat.lt_of_lt_of_le h1 h2)
  unfold dec
  by_cases h0 : val l = 0
  · rw [if_pos h0]; simp
  · rw [if_neg h0, List.length_reverse]; omega

set_option maxHeartbeats 1000000 in
theorem ref_textZ {v : Value} {n : Bool} {l : List Nat} {w : World} (h : SeesZ w v n l) (hl : l.length ≤ 1000) :
    Calls Tryz.prog 54 #[v] w fun e w' => e = .returned (.string (textZ (zval n l))) ∧ Below w.heap.size w w' := by
  have hS := h
  obtain ⟨m, rfl, hm⟩ := h
  have HB := hid (box_below (w := w) n m)
  have HX := hid (Box.new w (.bool n) m 24)
  have HS1 := hid (hS.below HB.out)
  have hsg := sgnI_neg (zval n l)
  have hab := zval_abs n l
  have htx : textZ (zval n l) = if zval n l < 0 then ⟨(45 :: dec (zval n l).natAbs).toArray⟩ else ⟨(dec (zval n l).natAbs).toArray⟩ := rfl
  rw [hab] at htx
  have hdl := dec_len hm.ok hl
  obtain ⟨z, hz⟩ : ∃ z, zval n l = z := ⟨_, rfl⟩
  obtain ⟨d, hd⟩ : ∃ d, dec (val l) = d := ⟨_, rfl⟩
  obtain ⟨T, hT⟩ : ∃ T, textZ (zval n l) = T := ⟨_, rfl⟩
  rw [hT] at htx ⊢
  rw [hd] at htx hdl
  rw [hz] at hsg htx
  have HZ := hid hz; have HT := hid htx; have HSG := hid hsg; have HD := hid hd
  obtain ⟨ao, cap, rfl, -, -, -, -, -⟩ := id hm
  have HM := hid (hm.below HB.out)
  clear hz hd hT htx hsg hab hm hS
  go_enter Tryz.func54, Tryz.ntmps54
  go_wp2_with fail
  refine (ref_sign HS1.out (by omega)).mono ?_
  rw [HZ.out]
  rintro e w2 ⟨rfl, hb2⟩
  have HX2 := hid (HX.out.below hb2)
  have HB2 := hid (HB.out.trans (hb2.mono HB.out.size))
  have HM2 := hid (HM.out.below hb2)
  obtain ⟨c0, c1, f0, f1⟩ := HX2.out.cells
  clear hb2 HX HB HM HS1
  by_cases h0 : z < 0
  · have hs0 := HSG.out.2 h0
    have ht := HT.out
    rw [if_pos h0, ← minus_append] at ht
    generalize sgnI z = s at hs0
    have HT2 := hid ht
    clear ht HT HSG HZ h0
    go_wp2_with fail
    refine (ref_text _ l _ HM2.out hl).mono ?_
    rw [HD.out]
    rintro e w3 ⟨rfl, hb3⟩
    have HB3 := hid (HB2.out.trans (hb3.mono HB2.out.size))
    clear hb3 c0 c1 f0 f1
    go_wp2
    go_ret
    exact ⟨by rw [HT2.out]; rfl, HB3.out⟩
  · have hs0 : ¬ sgnI z < 0 := fun h => h0 (HSG.out.1 h)
    have ht := HT.out
    rw [if_neg h0] at ht
    generalize sgnI z = s at hs0
    have HT2 := hid ht
    clear ht HT HSG HZ h0
    go_wp2_with fail
    refine (ref_text _ l _ HM2.out hl).mono ?_
    rw [HD.out]
    rintro e w3 ⟨rfl, hb3⟩
    have HB3 := hid (HB2.out.trans (hb3.mono HB2.out.size))
    clear hb3 c0 c1 f0 f1
    go_wp2
    go_ret
    exact ⟨by rw [HT2.out]; rfl, HB3.out⟩
end Go.Proofs.YtjnbonellgpjnaaGreat

set_option linter.unusedVariables false
set_option linter.unusedSimpArgs false
namespace Go.Proofs.YtjnbonellgpjnaaGreat
open Go.RowKit

end Go.Proofs.YtjnbonellgpjnaaGreat

set_option linter.unusedVariables false
set_option linter.unusedSimpArgs false
namespace Go.Proofs.YtjnbonellgpjnaaGreat
open Go.RowKit

/-- A result's cell, stored at the end: the world, the number. -/
theorem store_end {w w2 : World} {r : Nat} {n0 : Bool} {ao0 : Option Addr} {l0 c0 : Nat} {z : Int} {ao : Option Addr} {len cap : Nat} {b : Bool} (hB : Below w.heap.size w w2) (hr : w.heap.size ≤ r) (hy : Box w2 r (.bool n0) (.slice ao0 l0 c0)) (hz : IsZ w2 (.agg #[.bool b, .slice ao len cap]) z) :
    IsInt w z (.returned (.agg #[.bool b, .slice ao len cap])) ((w2.setCell ⟨r, 0, none⟩ (.bool b)).setCell ⟨r, 1, none⟩ (.slice ao len cap)) ∧
      ((w2.setCell ⟨r, 0, none⟩ (.bool b)).setCell ⟨r, 1, none⟩ (.slice ao len cap)).cell? ⟨r, 0, none⟩ = some (.bool b) ∧
      ((w2.setCell ⟨r, 0, none⟩ (.bool b)).setCell ⟨r, 1, none⟩ (.slice ao len cap)).cell? ⟨r, 1, none⟩ = some (.slice ao len cap) := by
  have h3 := hy.set (.bool b) (.slice ao len cap)
  exact ⟨⟨_, rfl, hz.box hy _ _, below_box hB hr hB.size _ _⟩, h3.cells.1, h3.cells.2.1⟩
/-- A plain whole number, written out. -/
theorem IsZ.form {w : World} {v : Value} {z : Int} (h : IsZ w v z) : ∃ ao cap, v = .agg #[.bool (zneg z), .slice ao (zlim z).length cap] := by
  obtain ⟨m, rfl, hm⟩ := h
  obtain ⟨ao, cap, rfl, -, -, -, -, -⟩ := hm
  exact ⟨ao, cap, rfl⟩

set_option maxRecDepth 100000 in
set_option maxHeartbeats 1000000 in
theorem whole_of (n : Int) (h1 : -9223372036854775808 ≤ n) (h2 : n < 9223372036854775808) (w : World) :
    Calls Tryz.prog 126 #[.int .i64 n] w fun e w' => IsInt w n e w' := by
  have HB := hid (box_below (w := w) false (.slice none 0 0))
  have HX := hid (Box.new w (.bool false) (.slice none 0 0) 24)
  go_enter Tryz.func126, Tryz.ntmps126
  obtain ⟨w0, hw0⟩ : ∃ x, x = w.alloc (.cells #[.bool false, .slice none 0 0] 24) := ⟨_, rfl⟩
  rw [← hw0] at HB HX
  have HW := hid hw0.symm
  clear hw0
  rcases Int.lt_or_le n 0 with h | h
  · have hn1 : ¬ 0 ≤ n := by omega
    obtain ⟨k, hk⟩ : ∃ k : Nat, (k : Int) = -(n + 1) := ⟨(-(n + 1)).toNat, by omega⟩
    have e1 : IntKind.i64.wrap (n + 1) = n + 1 := by rw [IntKind.wrap_i64]; omega
    have e2 : IntKind.i64.wrap (-(n + 1)) = (k : Int) := by rw [IntKind.wrap_i64]; omega
    have hk64 : k < 9223372036854775808 := by omega
    have hz : n = if true = true then -((k + 1 : Nat) : Int) else ((k + 1 : Nat) : Int) := by simp; omega
    have HZ := hid hz
    have e3 : -(n + 1) = (k : Int) := hk.symm
    have HC1 := hid (fun w => nat_of (k : Int) (by omega) (by omega) w)
    clear hk hz
    go_wp2_with fail
    rw [HW.out]
    refine (HC1.out _).mono ?_
    rw [Int.toNat_natCast]
    rintro e w1 ⟨v1, rfl, hs1, hb1⟩
    have HX1 := hid (HX.out.below hb1); have HB1 := hid (HB.out.trans (hb1.mono HB.out.size)); have HS1 := hid hs1
    clear hs1 hb1 HX HB HC1
    go_wp2_with fail
    refine (nat_of 1 (by omega) (by omega) _).mono ?_
    rintro e w2 ⟨v2, rfl, hs2, hb2⟩
    have HX2 := hid (HX1.out.below hb2); have HB2 := hid (HB1.out.trans (hb2.mono HB1.out.size)); have HS12 := hid (HS1.out.below hb2); have HS2 := hid hs2
    clear hs2 hb2 HX1 HB1 HS1
    go_wp2_with fail
    refine (nat_add' HS12.out HS2.out (by have : (limbs k).length ≤ 2 := limbs_length_le (by show k < 18446744073709551616; omega); omega) (by decide)).mono ?_
    rw [val_limbs, val_limbs]
    rintro e w3 ⟨v3, rfl, hs3, hb3⟩
    have HX3 := hid (HX2.out.below hb3); have HB3 := hid (HB2.out.trans (hb3.mono HB2.out.size)); have HS3 : Hid (Sees w3 v3 (limbs (k + 1))) := hs3
    clear hs3 hb3 HX2 HB2 HS12 HS2
    go_wp2_with fail
    refine (whole_signed true (k + 1) HS3.out n HZ.out).mono ?_
    rintro e w4 ⟨v4, rfl, hz4, hb4⟩
    have HX4 := hid (HX3.out.below hb4); have HB4 := hid (HB3.out.trans (hb4.mono HB3.out.size))
    obtain ⟨ao, cap, rfl⟩ := hz4.form
    obtain ⟨g1, g2, g3⟩ := store_end HB4.out (Nat.le_refl _) HX4.out hz4
    obtain ⟨c0, c1, f0, f1⟩ := HX4.out.cells
    have hlt := HX4.out.lt
    have HG1 := hid g1
    clear hb4 HX3 HB3 HS3 g1 hz4 HZ HW
    generalize zneg n = b at *
    generalize zlim n = l at *
    go_wp2
    exact bodyPost_ret (v := .agg #[.bool b, .slice ao l.length cap]) (by simp [results, Tryz.results126, go_sem, g2, g3]) rfl HG1.out
  · obtain ⟨k, rfl⟩ := Int.eq_ofNat_of_zero_le h
    have hz : (k : Int) = if false = true then -(k : Int) else (k : Int) := by simp
    have HZ := hid hz
    have HC1 := hid (fun w => nat_of (k : Int) (by omega) (by omega) w)
    clear hz
    go_wp2_with fail
    rw [HW.out]
    refine (HC1.out _).mono ?_
    rw [Int.toNat_natCast]
    rintro e w1 ⟨v1, rfl, hs1, hb1⟩
    have HX1 := hid (HX.out.below hb1); have HB1 := hid (HB.out.trans (hb1.mono HB.out.size)); have HS1 := hid hs1
    clear hs1 hb1 HX HB HC1
    go_wp2_with fail
    refine (whole_signed false k HS1.out k HZ.out).mono ?_
    rintro e w4 ⟨v4, rfl, hz4, hb4⟩
    have HX4 := hid (HX1.out.below hb4); have HB4 := hid (HB1.out.trans (hb4.mono HB1.out.size))
    obtain ⟨ao, cap, rfl⟩ := hz4.form
    obtain ⟨g1, g2, g3⟩ := store_end HB4.out (Nat.le_refl _) HX4.out hz4
    obtain ⟨c0, c1, f0, f1⟩ := HX4.out.cells
    have hlt := HX4.out.lt
    have HG1 := hid g1
    clear hb4 HX1 HB1 HS1 g1 hz4 HZ HW
    generalize zneg (k : Int) = b at *
    generalize zlim (k : Int) = l at *
    go_wp2
    exact bodyPost_ret (v := .agg #[.bool b, .slice ao l.length cap]) (by simp [results, Tryz.results126, go_sem, g2, g3]) rfl HG1.out
end Go.Proofs.YtjnbonellgpjnaaGreat

set_option linter.unusedVariables false
set_option linter.unusedSimpArgs false
namespace Go.Proofs.YtjnbonellgpjnaaGreat
open Go.RowKit

/-- The quotient and the rest of whole numbers, by those of their magnitudes. -/
theorem div_keep (n k c : Bool) (hc : c = (n != k)) (l m : List Nat) (h0 : 0 < val m) (h : n = false ∨ val l % val m = 0) :
    (if c = true then -((val l / val m : Nat) : Int) else ((val l / val m : Nat) : Int)) = zval n l / zval k m ∧ ((val l % val m : Nat) : Int) = zval n l % zval k m := by
  have hm : (val m : Int) ≠ 0 := by omega
  subst hc
  cases n
  · cases k
    · simp [zval, Int.natCast_ediv]
    · simp [zval, Int.natCast_ediv]
  · have hr : val l % val m = 0 := by rcases h with h | h; cases h; exact h
    have hd : (val m : Int) ∣ (val l : Int) := Int.natCast_dvd_natCast.2 (Nat.dvd_of_mod_eq_zero hr)
    cases k
    · simp only [zval, if_true, Bool.false_eq_true, if_false]
      refine ⟨?_, ?_⟩
      · rw [Int.neg_ediv_of_dvd hd]; simp [Int.natCast_ediv]
      · rw [hr, Int.emod_eq_zero_of_dvd (Int.dvd_neg.2 hd)]; rfl
    · simp only [zval, if_true]
      refine ⟨?_, ?_⟩
      · rw [Int.ediv_neg, Int.neg_ediv_of_dvd hd]; simp [Int.natCast_ediv]
      · rw [hr, Int.emod_neg, Int.emod_eq_zero_of_dvd (Int.dvd_neg.2 hd)]; rfl
theorem div_lift (k c : Bool) (hc : c = (true != k)) (l m : List Nat) (h0 : 0 < val m) (h : val l % val m ≠ 0) :
    (if c = true then -((val l / val m + 1 : Nat) : Int) else ((val l / val m + 1 : Nat) : Int)) = zval true l / zval k m ∧ ((val m - val l % val m : Nat) : Int) = zval true l % zval k m := by
  subst hc
  have hd := Nat.div_add_mod (val l) (val m)
  have hlt := Nat.mod_lt (val l) h0
  generalize val l / val m = q at *
  generalize val l % val m = r at *
  have key : (-(val l : Int)) / (val m : Int) = -((q : Int) + 1) ∧ (-(val l : Int)) % (val m : Int) = (val m : Int) - r := by
    refine (Int.ediv_emod_unique (by omega)).2 ⟨?_, by omega, by omega⟩
    rw [← hd]
    simp only [Int.natCast_add, Int.natCast_mul]
    grind
  have e1 : ((val m - r : Nat) : Int) = (val m : Int) - r := by omega
  cases k
  · simp only [zval, if_true, Bool.false_eq_true, if_false]
    refine ⟨?_, by rw [e1, key.2]⟩
    rw [key.1]; simp
  · simp only [zval, if_true]
    refine ⟨?_, by rw [Int.emod_neg, e1, key.2]⟩
    rw [Int.ediv_neg, key.1]; simp

/-- Four boxes, one after another. -/
theorem four_boxes (w : World) (a0 a1 b0 b1 c0 c1 d0 d1 : Value) (t : TypeId) : ∃ w0 ga gb g1 g2, w0 = (((w.alloc (.cells #[a0, a1] t)).alloc (.cells #[b0, b1] t)).alloc (.cells #[c0, c1] t)).alloc (.cells #[d0, d1] t) ∧ Below w.heap.size w w0 ∧
    ga = w.heap.size ∧ gb = w.heap.size + 1 ∧ g1 = w.heap.size + 1 + 1 ∧ g2 = w.heap.size + 1 + 1 + 1 ∧ Box w0 ga a0 a1 ∧ Box w0 gb b0 b1 ∧ Box w0 g1 c0 c1 ∧ Box w0 g2 d0 d1 := by
  refine ⟨_, _, _, _, _, rfl, ?_, rfl, rfl, rfl, rfl, ?_, ?_, ?_, ?_⟩
  · exact ((((Below.refl _ w).alloc (Nat.le_refl _) _).alloc (by simp) _).alloc (by simp; omega) _).alloc (by simp; omega) _
  · exact (((Box.new w _ _ _).alloc _).alloc _).alloc _
  · have := Box.new (w.alloc (.cells #[a0, a1] t)) b0 b1 t
    rw [Deep.nblk_alloc] at this
    exact (this.alloc _).alloc _
  · have := Box.new ((w.alloc (.cells #[a0, a1] t)).alloc (.cells #[b0, b1] t)) c0 c1 t
    rw [Deep.nblk_alloc, Deep.nblk_alloc] at this
    exact this.alloc _
  · have := Box.new (((w.alloc (.cells #[a0, a1] t)).alloc (.cells #[b0, b1] t)).alloc (.cells #[c0, c1] t)) d0 d1 t
    rw [Deep.nblk_alloc, Deep.nblk_alloc, Deep.nblk_alloc] at this
    exact this

theorem Box.other {w : World} {g r : Nat} {a b : Value} (h : Box w g a b) (hne : g ≠ r) (a' b' : Value) : Box ((w.setCell ⟨r, 0, none⟩ a').setCell ⟨r, 1, none⟩ b') g a b := by
  obtain ⟨t, h⟩ := h
  refine ⟨t, ?_⟩
  rw [Deep.blk_setCell_other _ _ _ _ (by simpa using hne), Deep.blk_setCell_other _ _ _ _ (by simpa using hne)]
  exact h

/-- Two results' cells, stored at the end. -/
theorem store_end2 {w w2 : World} {r s : Nat} {n0 n1 : Bool} {ao0 ao1 : Option Addr} {l0 c0 l1 c1 : Nat} {z y : Int} {ao bo : Option Addr} {len cap len' cap' : Nat} {b b' : Bool} (hB : Below w.heap.size w w2) (hr : w.heap.size ≤ r) (hs : w.heap.size ≤ s) (hne : r ≠ s)
    (hy : Box w2 r (.bool n0) (.slice ao0 l0 c0)) (hx : Box w2 s (.bool n1) (.slice ao1 l1 c1)) (hz : IsZ w2 (.agg #[.bool b, .slice ao len cap]) z) (hz' : IsZ w2 (.agg #[.bool b', .slice bo len' cap']) y) :
    ∃ w4, w4 = ((((w2.setCell ⟨r, 0, none⟩ (.bool b)).setCell ⟨r, 1, none⟩ (.slice ao len cap)).setCell ⟨s, 0, none⟩ (.bool b')).setCell ⟨s, 1, none⟩ (.slice bo len' cap')) ∧
      IsZ w4 (.agg #[.bool b, .slice ao len cap]) z ∧ IsZ w4 (.agg #[.bool b', .slice bo len' cap']) y ∧ Below w.heap.size w w4 ∧
      w4.cell? ⟨r, 0, none⟩ = some (.bool b) ∧ w4.cell? ⟨r, 1, none⟩ = some (.slice ao len cap) ∧ w4.cell? ⟨s, 0, none⟩ = some (.bool b') ∧ w4.cell? ⟨s, 1, none⟩ = some (.slice bo len' cap') := by
  have h3 := hy.set (.bool b) (.slice ao len cap)
  have x3 := hx.other (Ne.symm hne) (.bool b) (.slice ao len cap)
  have h4 := h3.other hne (.bool b') (.slice bo len' cap')
  have x4 := x3.set (.bool b') (.slice bo len' cap')
  have hb3 := below_box hB hr hB.size (.bool b) (.slice ao len cap)
  exact ⟨_, rfl, (hz.box hy _ _).box x3 _ _, (hz'.box hy _ _).box x3 _ _, below_box hb3 hs hb3.size _ _, h4.cells.1, h4.cells.2.1, x4.cells.1, x4.cells.2.1⟩

set_option maxRecDepth 100000 in
set_option maxHeartbeats 4000000 in
theorem whole_div {a b : Value} {n k : Bool} {l m : List Nat} {w : World} (ha : SeesZ w a n l) (hb : SeesZ w b k m) (hl : l.length ≤ 17592186044416) (hm : m.length ≤ 17592186044416) (h0 : 0 < val m) :
    Calls Tryz.prog 130 #[a, b] w fun e w' => ∃ q r, e = .returned (.tuple #[q, r, .bool true]) ∧ IsZ w' q (zval n l / zval k m) ∧ IsZ w' r (zval n l % zval k m) ∧ Below w.heap.size w w' := by
  obtain ⟨va, rfl, ha⟩ := ha
  obtain ⟨vb, rfl, hb⟩ := hb
  have HA := hid ha; have HB := hid hb
  have hok := ha.ok
  obtain ⟨aa, ca, rfl, -, -, -, -, -⟩ := ha
  obtain ⟨ab, cb, rfl, -, -, -, -, -⟩ := hb
  obtain ⟨w0, ga, gb, g1, g2, hw0, b0, e1, e2, e3, e4, x1, x2, y1, y2⟩ := four_boxes w (.bool n) (.slice aa l.length ca) (.bool k) (.slice ab m.length cb) (.bool false) (.slice none 0 0) (.bool false) (.slice none 0 0) 24
  have HW := hid hw0.symm
  have HG : Hid (w.heap.size ≤ g1 ∧ w.heap.size ≤ g2 ∧ g1 ≠ g2) := by refine ⟨?_, ?_, ?_⟩ <;> omega
  have E1 := hid e1.symm; have E2 := hid e2.symm; have E3 := hid e3.symm; have E4 := hid e4.symm
  have B0 := hid b0; have X1 := hid x1; have X2 := hid x2; have Y1 := hid y1; have Y2 := hid y2
  have HA0 := hid (HA.out.below b0); have HB0 := hid (HB.out.below b0)
  clear hw0 b0 x1 x2 y1 y2 HA HB e1 e2 e3 e4
  go_enter Tryz.func130, Tryz.ntmps130
  go_wp2_with fail
  rw [HW.out, E4.out, E3.out, E2.out, E1.out]
  clear HW E1 E2 E3 E4
  refine (nat_divmod' HA0.out HB0.out (by omega) h0).mono ?_
  rintro e w1 ⟨vq, vr, rfl, hq, hr, hb1⟩
  have B1 := hid (B0.out.trans (hb1.mono B0.out.size))
  have X11 := hid (X1.out.below hb1); have X21 := hid (X2.out.below hb1); have Y11 := hid (Y1.out.below hb1); have Y21 := hid (Y2.out.below hb1)
  have HB1 := hid (HB0.out.below hb1)
  have HQ := hid hq; have HR := hid hr
  clear hb1 hq hr B0 X1 X2 Y1 Y2 HA0 HB0
  obtain ⟨qa, qc, rfl, -, -, -, -, -⟩ := id HQ.out
  obtain ⟨ra, rc, rfl, -, -, -, -, -⟩ := id HR.out
  by_cases hcase : n = false ∨ val l % val m = 0
  · cases n
    · have HD := hid (div_keep false k k (by cases k <;> rfl) l m h0 hcase)
      clear hcase
      obtain ⟨p0, p1, p2, p3⟩ := X11.out.cells
      clear p1 p2 p3
      have hdz := HD.out
      obtain ⟨c0, c1, f0, f1⟩ := X11.out.cells
      obtain ⟨d0, d1, k0, k1⟩ := X21.out.cells
      go_wp2_with fail
      refine (whole_signed _ _ HQ.out _ rfl).mono ?_
      rintro e w5 ⟨v5, rfl, hz5, hb5⟩
      rw [hdz.1] at hz5
      have B5 := hid (B1.out.trans (hb5.mono B1.out.size))
      have Y15 := hid (Y11.out.below hb5); have Y25 := hid (Y21.out.below hb5); have HR5 := hid (HR.out.below hb5)
      obtain ⟨ao5, cap5, rfl⟩ := hz5.form
      have HZ5 := hid hz5
      clear hb5 hz5 Y11 Y21 B1 HQ HR c0 c1 f0 f1 d0 d1 k0 k1
      go_wp2_with fail
      refine (whole_signed false _ HR5.out _ rfl).mono ?_
      rintro e w6 ⟨v6, rfl, hz6, hb6⟩
      have hz6' := hz6
      rw [if_neg (by decide), hdz.2] at hz6'
      have B6 := hid (B5.out.trans (hb6.mono B5.out.size))
      have Y16 := hid (Y15.out.below hb6); have Y26 := hid (Y25.out.below hb6); have HZ56 := hid (HZ5.out.below hb6)
      obtain ⟨ao6, cap6, rfl⟩ := hz6'.form
      obtain ⟨w7, hw7, z7, y7, b7, m0, m1, m2, m3⟩ := store_end2 B6.out HG.out.1 HG.out.2.1 HG.out.2.2 Y16.out Y26.out HZ56.out hz6'
      obtain ⟨c0, c1, f0, f1⟩ := Y16.out.cells
      obtain ⟨d0, d1, k0, k1⟩ := Y26.out.cells
      have i0 := (Y16.out.other HG.out.2.2 (.bool true) (.bool true))
      have x26 := (Y26.out.other (Ne.symm HG.out.2.2) (.bool (zneg (zval false l / zval k m))) (.slice ao5 (zlim (zval false l / zval k m)).length cap5)).cells
      obtain ⟨q0, q1, q2, q3⟩ := x26
      have hlt := Y16.out.lt
      have hlt2 := Y26.out.lt
      have HZ7 := hid z7; have HY7 := hid y7; have HB7 := hid b7; have HW7 := hid hw7.symm
      have HNE := HG.out.2.2
      clear hb6 hz6 hz6' HZ5 HR5 Y15 Y25 B5 z7 y7 b7 hw7 HD hdz i0
      generalize zneg (zval false l / zval k m) = nb1 at *
      generalize zlim (zval false l / zval k m) = lb1 at *
      generalize zneg (zval false l % zval k m) = nb2 at *
      generalize zlim (zval false l % zval k m) = lb2 at *
      go_wp2
      rw [HW7.out]
      exact bodyPost_ret (v := .tuple #[.agg #[.bool nb1, .slice ao5 lb1.length cap5], .agg #[.bool nb2, .slice ao6 lb2.length cap6], .bool true]) (by simp [results, Tryz.results130, go_sem, m0, m1, m2, m3]) rfl ⟨_, _, rfl, HZ7.out, HY7.out, HB7.out⟩
    · have hr0 : val l % val m = 0 := by rcases hcase with h | h; cases h; exact h
      have HD := hid (div_keep true k (!k) (by cases k <;> rfl) l m h0 hcase)
      have HR0 := hid hr0
      obtain ⟨p0, p1, p2, p3⟩ := X11.out.cells
      clear hcase hr0
      go_wp2_with fail
      refine (whole_isZero HR.out).mono ?_
      rw [val_limbs, show decide (val l % val m = 0) = true by simp [HR0.out]]
      rintro e w2 ⟨rfl, rfl⟩
      clear p0 p1 p2 p3
      have hdz := HD.out
      obtain ⟨c0, c1, f0, f1⟩ := X11.out.cells
      obtain ⟨d0, d1, k0, k1⟩ := X21.out.cells
      go_wp2_with fail
      refine (whole_signed _ _ HQ.out _ rfl).mono ?_
      rintro e w5 ⟨v5, rfl, hz5, hb5⟩
      rw [hdz.1] at hz5
      have B5 := hid (B1.out.trans (hb5.mono B1.out.size))
      have Y15 := hid (Y11.out.below hb5); have Y25 := hid (Y21.out.below hb5); have HR5 := hid (HR.out.below hb5)
      obtain ⟨ao5, cap5, rfl⟩ := hz5.form
      have HZ5 := hid hz5
      clear hb5 hz5 Y11 Y21 B1 HQ HR c0 c1 f0 f1 d0 d1 k0 k1
      go_wp2_with fail
      refine (whole_signed false _ HR5.out _ rfl).mono ?_
      rintro e w6 ⟨v6, rfl, hz6, hb6⟩
      have hz6' := hz6
      rw [if_neg (by decide), hdz.2] at hz6'
      have B6 := hid (B5.out.trans (hb6.mono B5.out.size))
      have Y16 := hid (Y15.out.below hb6); have Y26 := hid (Y25.out.below hb6); have HZ56 := hid (HZ5.out.below hb6)
      obtain ⟨ao6, cap6, rfl⟩ := hz6'.form
      obtain ⟨w7, hw7, z7, y7, b7, m0, m1, m2, m3⟩ := store_end2 B6.out HG.out.1 HG.out.2.1 HG.out.2.2 Y16.out Y26.out HZ56.out hz6'
      obtain ⟨c0, c1, f0, f1⟩ := Y16.out.cells
      obtain ⟨d0, d1, k0, k1⟩ := Y26.out.cells
      have i0 := (Y16.out.other HG.out.2.2 (.bool true) (.bool true))
      have x26 := (Y26.out.other (Ne.symm HG.out.2.2) (.bool (zneg (zval true l / zval k m))) (.slice ao5 (zlim (zval true l / zval k m)).length cap5)).cells
      obtain ⟨q0, q1, q2, q3⟩ := x26
      have hlt := Y16.out.lt
      have hlt2 := Y26.out.lt
      have HZ7 := hid z7; have HY7 := hid y7; have HB7 := hid b7; have HW7 := hid hw7.symm
      have HNE := HG.out.2.2
      clear hb6 hz6 hz6' HZ5 HR5 Y15 Y25 B5 z7 y7 b7 hw7 HD hdz i0
      generalize zneg (zval true l / zval k m) = nb1 at *
      generalize zlim (zval true l / zval k m) = lb1 at *
      generalize zneg (zval true l % zval k m) = nb2 at *
      generalize zlim (zval true l % zval k m) = lb2 at *
      go_wp2
      rw [HW7.out]
      exact bodyPost_ret (v := .tuple #[.agg #[.bool nb1, .slice ao5 lb1.length cap5], .agg #[.bool nb2, .slice ao6 lb2.length cap6], .bool true]) (by simp [results, Tryz.results130, go_sem, m0, m1, m2, m3]) rfl ⟨_, _, rfl, HZ7.out, HY7.out, HB7.out⟩
  · have hr0 : ¬ val l % val m = 0 := fun h => hcase (.inr h)
    have hn : n = true := by cases n; exact absurd (.inl rfl) hcase; rfl
    subst hn
    have HD := hid (div_lift k (!k) (by cases k <;> rfl) l m h0 hr0)
    have HR0 := hid hr0
    have HLE : Hid (val l % val m ≤ val m) := Nat.le_of_lt (Nat.mod_lt _ h0)
    have hql : (limbs (val l / val m)).length ≤ 17592186044416 := by
      have h1 : (limbs (val l / val m)).length ≤ l.length := limbs_length_le (Nat.lt_of_le_of_lt (Nat.div_le_self _ _) (val_lt hok))
      omega
    obtain ⟨p0, p1, p2, p3⟩ := X11.out.cells
    clear hcase hr0
    go_wp2_with fail
    refine (whole_isZero HR.out).mono ?_
    rw [val_limbs, show decide (val l % val m = 0) = false by simp [HR0.out]]
    rintro e w2 ⟨rfl, rfl⟩
    clear p0 p1 p2 p3
    go_wp2_with fail
    refine (nat_of 1 (by omega) (by omega) _).mono ?_
    rintro e w3 ⟨v3, rfl, hs3, hb3⟩
    have B1' := hid (B1.out.trans (hb3.mono B1.out.size))
    have X11' := hid (X11.out.below hb3); have X21' := hid (X21.out.below hb3); have Y11' := hid (Y11.out.below hb3); have Y21' := hid (Y21.out.below hb3)
    have HQ' := hid (HQ.out.below hb3); have HR' := hid (HR.out.below hb3); have HB1' := hid (HB1.out.below hb3); have HS3 := hid hs3
    clear hb3 hs3 B1 X11 X21 Y11 Y21 HQ HR HB1
    go_wp2_with fail
    refine (nat_add' HQ'.out HS3.out (by omega) (by decide)).mono ?_
    rw [val_limbs, val_limbs]
    rintro e w4 ⟨v4, rfl, hs4, hb4⟩
    have B1 := hid (B1'.out.trans (hb4.mono B1'.out.size))
    have X11 := hid (X11'.out.below hb4); have X21 := hid (X21'.out.below hb4); have Y11 := hid (Y11'.out.below hb4); have Y21 := hid (Y21'.out.below hb4)
    have HR := hid (HR'.out.below hb4); have HB1 := hid (HB1'.out.below hb4); have HQ : Hid (Sees w4 v4 (limbs (val l / val m + 1))) := hs4
    clear hb4 hs4 B1' X11' X21' Y11' Y21' HQ' HR' HB1' HS3
    obtain ⟨p0, p1, p2, p3⟩ := X21.out.cells
    go_wp2_with fail
    refine (nat_sub_ok' HB1.out HR.out (by omega) (by rw [val_limbs]; exact HLE.out)).mono ?_
    rw [val_limbs]
    rintro e w8 ⟨v8, rfl, hs8, hb8⟩
    have B1' := hid (B1.out.trans (hb8.mono B1.out.size))
    have X11' := hid (X11.out.below hb8); have X21' := hid (X21.out.below hb8); have Y11' := hid (Y11.out.below hb8); have Y21' := hid (Y21.out.below hb8)
    have HQ' := hid (HQ.out.below hb8); have HR' := hid hs8
    clear hb8 hs8 B1 X11 X21 Y11 Y21 HQ HR HB1 p0 p1 p2 p3
    have B1 := B1'; have X11 := X11'; have X21 := X21'; have Y11 := Y11'; have Y21 := Y21'; have HQ := HQ'; have HR := HR'
    clear B1' X11' X21' Y11' Y21' HQ' HR'
    have hdz := HD.out
    obtain ⟨c0, c1, f0, f1⟩ := X11.out.cells
    obtain ⟨d0, d1, k0, k1⟩ := X21.out.cells
    go_wp2_with fail
    refine (whole_signed _ _ HQ.out _ rfl).mono ?_
    rintro e w5 ⟨v5, rfl, hz5, hb5⟩
    rw [hdz.1] at hz5
    have B5 := hid (B1.out.trans (hb5.mono B1.out.size))
    have Y15 := hid (Y11.out.below hb5); have Y25 := hid (Y21.out.below hb5); have HR5 := hid (HR.out.below hb5)
    obtain ⟨ao5, cap5, rfl⟩ := hz5.form
    have HZ5 := hid hz5
    clear hb5 hz5 Y11 Y21 B1 HQ HR c0 c1 f0 f1 d0 d1 k0 k1
    go_wp2_with fail
    refine (whole_signed false _ HR5.out _ rfl).mono ?_
    rintro e w6 ⟨v6, rfl, hz6, hb6⟩
    have hz6' := hz6
    rw [if_neg (by decide), hdz.2] at hz6'
    have B6 := hid (B5.out.trans (hb6.mono B5.out.size))
    have Y16 := hid (Y15.out.below hb6); have Y26 := hid (Y25.out.below hb6); have HZ56 := hid (HZ5.out.below hb6)
    obtain ⟨ao6, cap6, rfl⟩ := hz6'.form
    obtain ⟨w7, hw7, z7, y7, b7, m0, m1, m2, m3⟩ := store_end2 B6.out HG.out.1 HG.out.2.1 HG.out.2.2 Y16.out Y26.out HZ56.out hz6'
    obtain ⟨c0, c1, f0, f1⟩ := Y16.out.cells
    obtain ⟨d0, d1, k0, k1⟩ := Y26.out.cells
    have i0 := (Y16.out.other HG.out.2.2 (.bool true) (.bool true))
    have x26 := (Y26.out.other (Ne.symm HG.out.2.2) (.bool (zneg (zval true l / zval k m))) (.slice ao5 (zlim (zval true l / zval k m)).length cap5)).cells
    obtain ⟨q0, q1, q2, q3⟩ := x26
    have hlt := Y16.out.lt
    have hlt2 := Y26.out.lt
    have HZ7 := hid z7; have HY7 := hid y7; have HB7 := hid b7; have HW7 := hid hw7.symm
    have HNE := HG.out.2.2
    clear hb6 hz6 hz6' HZ5 HR5 Y15 Y25 B5 z7 y7 b7 hw7 HD hdz i0
    generalize zneg (zval true l / zval k m) = nb1 at *
    generalize zlim (zval true l / zval k m) = lb1 at *
    generalize zneg (zval true l % zval k m) = nb2 at *
    generalize zlim (zval true l % zval k m) = lb2 at *
    go_wp2
    rw [HW7.out]
    exact bodyPost_ret (v := .tuple #[.agg #[.bool nb1, .slice ao5 lb1.length cap5], .agg #[.bool nb2, .slice ao6 lb2.length cap6], .bool true]) (by simp [results, Tryz.results130, go_sem, m0, m1, m2, m3]) rfl ⟨_, _, rfl, HZ7.out, HY7.out, HB7.out⟩
end Go.Proofs.YtjnbonellgpjnaaGreat

set_option linter.unusedVariables false
set_option linter.unusedSimpArgs false
namespace Go.Proofs.YtjnbonellgpjnaaGreat
open Go.RowKit

theorem zlim_small (z : Int) (h : z.natAbs < 4294967296) : (zlim z).length ≤ 1 := limbs_length_le (by simpa using h)
theorem text_m4 : textZ (-4) = ⟨#[45, 52]⟩ := by
  have h : dec 4 = [52] := by
    unfold dec
    rw [if_neg (by decide)]
    rw [decR_pos (by decide)]
    decide
  unfold textZ
  rw [if_pos (by decide)]
  show (⟨(45 :: dec 4).toArray⟩ : ByteArray) = _
  rw [h]
theorem text_1 : textZ 1 = ⟨#[49]⟩ := by
  have h : dec 1 = [49] := by
    unfold dec
    rw [if_neg (by decide)]
    rw [decR_pos (by decide)]
    decide
  unfold textZ
  rw [if_neg (by decide)]
  show (⟨(dec 1).toArray⟩ : ByteArray) = _
  rw [h]

theorem one_box (w : World) (a0 a1 : Value) (t : TypeId) : ∃ w0 ga, w0 = w.alloc (.cells #[a0, a1] t) ∧ Below w.heap.size w w0 ∧ ga = w.heap.size ∧ Box w0 ga a0 a1 :=
  ⟨_, _, rfl, (Below.refl _ w).alloc (Nat.le_refl _) _, rfl, Box.new w _ _ _⟩
theorem three_boxes (w : World) (a0 a1 b0 b1 c0 c1 : Value) (t : TypeId) : ∃ w0 ga gb gc, w0 = ((w.alloc (.cells #[a0, a1] t)).alloc (.cells #[b0, b1] t)).alloc (.cells #[c0, c1] t) ∧ Below w.heap.size w w0 ∧ ga = w.heap.size ∧ gb = w.heap.size + 1 ∧ gc = w.heap.size + 1 + 1 ∧ Box w0 ga a0 a1 ∧ Box w0 gb b0 b1 ∧ Box w0 gc c0 c1 := by
  refine ⟨_, _, _, _, rfl, ?_, rfl, rfl, rfl, ?_, ?_, ?_⟩
  · exact (((Below.refl _ w).alloc (Nat.le_refl _) _).alloc (by simp) _).alloc (by simp; omega) _
  · exact ((Box.new w _ _ _).alloc _).alloc _
  · have := Box.new (w.alloc (.cells #[a0, a1] t)) b0 b1 t
    rw [Deep.nblk_alloc] at this
    exact this.alloc _
  · have := Box.new ((w.alloc (.cells #[a0, a1] t)).alloc (.cells #[b0, b1] t)) c0 c1 t
    rwa [Deep.nblk_alloc, Deep.nblk_alloc] at this
theorem SeesZ.form {w : World} {v : Value} {n : Bool} {l : List Nat} (h : SeesZ w v n l) : ∃ ao cap, v = .agg #[.bool n, .slice ao l.length cap] := by
  obtain ⟨m, rfl, hm⟩ := h
  obtain ⟨ao, cap, rfl, -, -, -, -, -⟩ := hm
  exact ⟨ao, cap, rfl⟩
theorem SeesZ.box {w : World} {g : Nat} {n : Bool} {ao : Option Addr} {len cap : Nat} {v : Value} {k : Bool} {l : List Nat} (h : SeesZ w v k l) (hb : Box w g (.bool n) (.slice ao len cap)) (a' b' : Value) : SeesZ ((w.setCell ⟨g, 0, none⟩ a').setCell ⟨g, 1, none⟩ b') v k l := by
  obtain ⟨m, rfl, hm⟩ := h
  exact ⟨m, rfl, hm.box hb a' b'⟩

/-- Two boxes, one after another. -/
theorem two_boxes (w : World) (a0 a1 b0 b1 : Value) (t : TypeId) : ∃ w0 ga gb, w0 = (w.alloc (.cells #[a0, a1] t)).alloc (.cells #[b0, b1] t) ∧ Below w.heap.size w w0 ∧ ga = w.heap.size ∧ gb = w.heap.size + 1 ∧ Box w0 ga a0 a1 ∧ Box w0 gb b0 b1 := by
  refine ⟨_, _, _, rfl, ?_, rfl, rfl, ?_, ?_⟩
  · exact ((Below.refl _ w).alloc (Nat.le_refl _) _).alloc (by simp) _
  · exact (Box.new w _ _ _).alloc _
  · have := Box.new (w.alloc (.cells #[a0, a1] t)) b0 b1 t
    rwa [Deep.nblk_alloc] at this

end Go.Proofs.YtjnbonellgpjnaaGreat
