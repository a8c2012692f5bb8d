/- whole.Of by its contract. -/
import Derived.Test.YtfjanomjmlcgaaaDoorZ5
import Derived.Test.YtfjanomjmlcgaaaDoorInt1
import Derived.Test.YtfjanomjmlcgaaaDoorAdd
set_option linter.unusedVariables false
set_option linter.unusedSimpArgs false
namespace Go.Proofs.YtfjanomjmlcgaaaDoor
open Go.RowKit

/-- A result's cell, stored at the end: the world, the number. -/
theorem store_end {w w2 : World} {r : Nat} {n0 : Bool} {ao0 : Option Addr} {l0 c0 : Nat} {z : Int} {ao : Option Addr} {len cap : Nat} {b : Bool} (hB : Below w.heap.size w w2) (hr : w.heap.size ≤ r) (hy : Box w2 r (.bool n0) (.slice ao0 l0 c0)) (hz : IsZ w2 (.agg #[.bool b, .slice ao len cap]) z) :
    IsInt w z (.returned (.agg #[.bool b, .slice ao len cap])) ((w2.setCell ⟨r, 0, none⟩ (.bool b)).setCell ⟨r, 1, none⟩ (.slice ao len cap)) ∧
      ((w2.setCell ⟨r, 0, none⟩ (.bool b)).setCell ⟨r, 1, none⟩ (.slice ao len cap)).cell? ⟨r, 0, none⟩ = some (.bool b) ∧
      ((w2.setCell ⟨r, 0, none⟩ (.bool b)).setCell ⟨r, 1, none⟩ (.slice ao len cap)).cell? ⟨r, 1, none⟩ = some (.slice ao len cap) := by
  have h3 := hy.set (.bool b) (.slice ao len cap)
  exact ⟨⟨_, rfl, hz.box hy _ _, below_box hB hr hB.size _ _⟩, h3.cells.1, h3.cells.2.1⟩
/-- A plain whole number, written out. -/
theorem IsZ.form {w : World} {v : Value} {z : Int} (h : IsZ w v z) : ∃ ao cap, v = .agg #[.bool (zneg z), .slice ao (zlim z).length cap] := by
  obtain ⟨m, rfl, hm⟩ := h
  obtain ⟨ao, cap, rfl, -, -, -, -, -⟩ := hm
  exact ⟨ao, cap, rfl⟩

set_option maxRecDepth 100000 in
set_option maxHeartbeats 1000000 in
theorem whole_of (n : Int) (h1 : -9223372036854775808 ≤ n) (h2 : n < 9223372036854775808) (w : World) :
    Calls Tryd.prog 37 #[.int .i64 n] w fun e w' => IsInt w n e w' := by
  have HB := hid (box_below (w := w) false (.slice none 0 0))
  have HX := hid (Box.new w (.bool false) (.slice none 0 0) 34)
  go_enter Tryd.func37, Tryd.ntmps37
  obtain ⟨w0, hw0⟩ : ∃ x, x = w.alloc (.cells #[.bool false, .slice none 0 0] 34) := ⟨_, rfl⟩
  rw [← hw0] at HB HX
  have HW := hid hw0.symm
  clear hw0
  rcases Int.lt_or_le n 0 with h | h
  · have hn1 : ¬ 0 ≤ n := by omega
    obtain ⟨k, hk⟩ : ∃ k : Nat, (k : Int) = -(n + 1) := ⟨(-(n + 1)).toNat, by omega⟩
    have e1 : IntKind.i64.wrap (n + 1) = n + 1 := by rw [IntKind.wrap_i64]; omega
    have e2 : IntKind.i64.wrap (-(n + 1)) = (k : Int) := by rw [IntKind.wrap_i64]; omega
    have hk64 : k < 9223372036854775808 := by omega
    have hz : n = if true = true then -((k + 1 : Nat) : Int) else ((k + 1 : Nat) : Int) := by simp; omega
    have HZ := hid hz
    have e3 : -(n + 1) = (k : Int) := hk.symm
    have HC1 := hid (fun w => nat_of (k : Int) (by omega) (by omega) w)
    clear hk hz
    go_wp2_with fail
    rw [HW.out]
    refine (HC1.out _).mono ?_
    rw [Int.toNat_natCast]
    rintro e w1 ⟨v1, rfl, hs1, hb1⟩
    have HX1 := hid (HX.out.below hb1); have HB1 := hid (HB.out.trans (hb1.mono HB.out.size)); have HS1 := hid hs1
    clear hs1 hb1 HX HB HC1
    go_wp2_with fail
    refine (nat_of 1 (by omega) (by omega) _).mono ?_
    rintro e w2 ⟨v2, rfl, hs2, hb2⟩
    have HX2 := hid (HX1.out.below hb2); have HB2 := hid (HB1.out.trans (hb2.mono HB1.out.size)); have HS12 := hid (HS1.out.below hb2); have HS2 := hid hs2
    clear hs2 hb2 HX1 HB1 HS1
    go_wp2_with fail
    refine (nat_add' HS12.out HS2.out (by have : (limbs k).length ≤ 2 := limbs_length_le (by show k < 18446744073709551616; omega); omega) (by decide)).mono ?_
    rw [val_limbs, val_limbs]
    rintro e w3 ⟨v3, rfl, hs3, hb3⟩
    have HX3 := hid (HX2.out.below hb3); have HB3 := hid (HB2.out.trans (hb3.mono HB2.out.size)); have HS3 : Hid (Sees w3 v3 (limbs (k + 1))) := hs3
    clear hs3 hb3 HX2 HB2 HS12 HS2
    go_wp2_with fail
    refine (whole_signed true (k + 1) HS3.out n HZ.out).mono ?_
    rintro e w4 ⟨v4, rfl, hz4, hb4⟩
    have HX4 := hid (HX3.out.below hb4); have HB4 := hid (HB3.out.trans (hb4.mono HB3.out.size))
    obtain ⟨ao, cap, rfl⟩ := hz4.form
    obtain ⟨g1, g2, g3⟩ := store_end HB4.out (Nat.le_refl _) HX4.out hz4
    obtain ⟨c0, c1, f0, f1⟩ := HX4.out.cells
    have hlt := HX4.out.lt
    have HG1 := hid g1
    clear hb4 HX3 HB3 HS3 g1 hz4 HZ HW
    generalize zneg n = b at *
    generalize zlim n = l at *
    go_wp2
    exact bodyPost_ret (v := .agg #[.bool b, .slice ao l.length cap]) (by simp [results, Tryd.results37, go_sem, g2, g3]) rfl HG1.out
  · obtain ⟨k, rfl⟩ := Int.eq_ofNat_of_zero_le h
    have hz : (k : Int) = if false = true then -(k : Int) else (k : Int) := by simp
    have HZ := hid hz
    have HC1 := hid (fun w => nat_of (k : Int) (by omega) (by omega) w)
    clear hz
    go_wp2_with fail
    rw [HW.out]
    refine (HC1.out _).mono ?_
    rw [Int.toNat_natCast]
    rintro e w1 ⟨v1, rfl, hs1, hb1⟩
    have HX1 := hid (HX.out.below hb1); have HB1 := hid (HB.out.trans (hb1.mono HB.out.size)); have HS1 := hid hs1
    clear hs1 hb1 HX HB HC1
    go_wp2_with fail
    refine (whole_signed false k HS1.out k HZ.out).mono ?_
    rintro e w4 ⟨v4, rfl, hz4, hb4⟩
    have HX4 := hid (HX1.out.below hb4); have HB4 := hid (HB1.out.trans (hb4.mono HB1.out.size))
    obtain ⟨ao, cap, rfl⟩ := hz4.form
    obtain ⟨g1, g2, g3⟩ := store_end HB4.out (Nat.le_refl _) HX4.out hz4
    obtain ⟨c0, c1, f0, f1⟩ := HX4.out.cells
    have hlt := HX4.out.lt
    have HG1 := hid g1
    clear hb4 HX1 HB1 HS1 g1 hz4 HZ HW
    generalize zneg (k : Int) = b at *
    generalize zlim (k : Int) = l at *
    go_wp2
    exact bodyPost_ret (v := .agg #[.bool b, .slice ao l.length cap]) (by simp [results, Tryd.results37, go_sem, g2, g3]) rfl HG1.out
end Go.Proofs.YtfjanomjmlcgaaaDoor
