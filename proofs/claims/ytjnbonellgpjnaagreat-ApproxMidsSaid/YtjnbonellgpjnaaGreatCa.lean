/- fraction.Cmp, approx.Cmp and the document's Cmp of layer 4 by their contracts. -/
import Derived.Test.YtjnbonellgpjnaaGreatDr
import Derived.Test.YtjnbonellgpjnaaGreatDc
import Derived.Test.YtjnbonellgpjnaaGreatKX
import Derived.Test.YtjnbonellgpjnaaGreatKS
set_option linter.unusedVariables false
set_option linter.unusedSimpArgs false
namespace Go.Proofs.YtjnbonellgpjnaaGreat
open Go.RowKit

set_option maxRecDepth 100000 in
set_option maxHeartbeats 1000000 in
theorem fr_times {va vb : Value} {n : Bool} {l m : List Nat} {w : World} (ha : SeesZ w va n l) (hb : Sees w vb m) (hl : l.length ≤ 100000) (hm : m.length ≤ 100000) :
    Calls Tryz.prog 73 #[va, vb] w fun e w' => IsInt w (zval n l * (val m : Int)) e w' := by
  obtain ⟨ma, rfl, hma⟩ := ha
  have HMA := hid hma; have HMB := hid hb
  obtain ⟨ao, ac, rfl, -, -, -, -, -⟩ := hma
  obtain ⟨bo, bc, rfl, -, -, -, -, -⟩ := hb
  obtain ⟨y, gA, gB, hy, b, e1, e2, xA, xB⟩ := two_boxes w (.bool n) (.slice ao l.length ac) (.bool false) (.slice none 0 0) 24
  have HC := hid (whole_mul (w := y) (n := n) (k := false) (la := l) (lb := m) ⟨_, rfl, HMA.out.below b⟩ ⟨_, rfl, HMB.out.below b⟩ (by omega) (by omega))
  rw [zval_false] at HC
  have HG : Hid (w.heap.size ≤ gB) := hid (by omega)
  have HY := hid hy.symm; have E1 := hid e1.symm; have E2 := hid e2.symm
  have XB := hid xB; have HBel := hid b
  obtain ⟨a0, a1, -, -⟩ := xA.cells
  clear hy b xA xB e1 e2 HMA HMB
  generalize zval n l * (val m : Int) = z at *
  go_enter Tryz.func73, Tryz.ntmps73
  go_wp2_with fail
  rw [HY.out, E2.out, E1.out]
  refine HC.out.mono ?_
  rintro e w1 ⟨v1, rfl, hz, hb⟩
  have HB1 := hid (HBel.out.trans (hb.mono HBel.out.size)); have XB1 := hid (XB.out.below hb)
  obtain ⟨fo, fc, rfl⟩ := hz.form
  have HZ := hid hz
  obtain ⟨g1, g2, g3⟩ := store_end HB1.out HG.out XB1.out HZ.out
  obtain ⟨c0, c1, f0, f1⟩ := XB1.out.cells
  have hlt := XB1.out.lt
  have HG1 := hid g1
  clear hz hb HZ XB1 HB1 g1 XB HBel a0 a1 HC
  generalize zneg z = bb at *
  generalize zlim z = ll at *
  go_wp2_with fail
  exact bodyPost_ret (v := .agg #[.bool bb, .slice fo ll.length fc]) (by simp [results, Tryz.results73, go_sem, g2, g3]) rfl HG1.out

theorem SeesQ.num2 {w : World} {b : Bool} {ao : Option Addr} {la ca : Nat} {u : Value} {n : Bool} {l d : List Nat} (h : SeesQ w (.agg #[.bool b, .slice ao la ca, u]) n l d) : SeesZ w (.agg #[.bool b, .slice ao la ca]) n l ∧ Sees w u d := by
  obtain ⟨m, v, e, hm, hu⟩ := h
  simp only [Value.agg.injEq, Array.mk.injEq, List.cons.injEq, and_true] at e
  obtain ⟨e1, e2, e3⟩ := e
  subst e2; subst e3; rw [e1]
  exact ⟨⟨_, rfl, hm⟩, hu⟩
theorem sgnI_gt0 {z : Int} (h : 0 < z) : sgnI z = 1 := by unfold sgnI; rw [if_neg (by omega), if_neg (by omega)]
theorem sgnI_lt0 {z : Int} (h : z < 0) : sgnI z = -1 := by unfold sgnI; rw [if_pos h]
theorem sgnI_eq0 : sgnI 0 = 0 := by decide
theorem sgnI_scale {z c : Int} (hc : 0 < c) : sgnI (z * c) = sgnI z := by
  rcases Int.lt_trichotomy z 0 with h | h | h
  · rw [sgnI_lt0 h, sgnI_lt0 (Int.mul_neg_of_neg_of_pos h hc)]
  · subst h; simp
  · rw [sgnI_gt0 h, sgnI_gt0 (Int.mul_pos h hc)]
/-- How two plain fractions compare. -/
def cmpQ (A : Int) (C : Nat) (B : Int) (D : Nat) : Int := sgnI (A * (D : Int) + -B * (C : Int))
theorem sgnQ_plain (n : Bool) (l d : List Nat) : sgnQ n l d = sgnI (qnum (zval n l) (val d)) := by
  unfold sgnQ
  split
  · rename_i h; rw [h, qnum_zero, sgnI_eq0]
  · rename_i h; rw [sgnI_qnum (by omega)]
theorem cmp_signs {A B : Int} {C D : Nat} (hC : 0 < C) (hD : 0 < D) : (sgnI A < sgnI B → cmpQ A C B D = -1) ∧ (sgnI B < sgnI A → cmpQ A C B D = 1) ∧ (sgnI A = 0 → sgnI B = 0 → cmpQ A C B D = 0) := by
  have hC' : (0 : Int) < (C : Int) := by omega
  have hD' : (0 : Int) < (D : Int) := by omega
  unfold cmpQ
  rw [Int.neg_mul]
  rcases Int.lt_trichotomy A 0 with a | a | a <;> rcases Int.lt_trichotomy B 0 with b | b | b
  · rw [sgnI_lt0 a, sgnI_lt0 b]; exact ⟨fun h => by omega, fun h => by omega, fun h => by omega⟩
  · subst b
    rw [sgnI_lt0 a, sgnI_eq0]
    have := Int.mul_neg_of_neg_of_pos a hD'
    exact ⟨fun h => sgnI_lt0 (by rw [Int.zero_mul]; omega), fun h => by omega, fun h => by omega⟩
  · rw [sgnI_lt0 a, sgnI_gt0 b]
    have h1 := Int.mul_neg_of_neg_of_pos a hD'
    have h2 := Int.mul_pos b hC'
    exact ⟨fun h => sgnI_lt0 (by omega), fun h => by omega, fun h => by omega⟩
  · subst a
    rw [sgnI_lt0 b, sgnI_eq0]
    have := Int.mul_neg_of_neg_of_pos b hC'
    exact ⟨fun h => by omega, fun h => sgnI_gt0 (by rw [Int.zero_mul]; omega), fun h => by omega⟩
  · subst a; subst b
    simp [sgnI_eq0]
  · subst a
    rw [sgnI_gt0 b, sgnI_eq0]
    have := Int.mul_pos b hC'
    exact ⟨fun h => sgnI_lt0 (by rw [Int.zero_mul]; omega), fun h => by omega, fun _ h => by omega⟩
  · rw [sgnI_gt0 a, sgnI_lt0 b]
    have h1 := Int.mul_pos a hD'
    have h2 := Int.mul_neg_of_neg_of_pos b hC'
    exact ⟨fun h => by omega, fun h => sgnI_gt0 (by omega), fun h => by omega⟩
  · subst b
    rw [sgnI_gt0 a, sgnI_eq0]
    have := Int.mul_pos a hD'
    exact ⟨fun h => by omega, fun h => sgnI_gt0 (by rw [Int.zero_mul]; omega), fun h => by omega⟩
  · rw [sgnI_gt0 a, sgnI_gt0 b]; exact ⟨fun h => by omega, fun h => by omega, fun h => by omega⟩
theorem cmp_cross {z y : Int} {d e : Nat} (hd : d ≠ 0) (he : e ≠ 0) : sgnI (z * (e : Int) - y * (d : Int)) = cmpQ (qnum z d) (qden z d) (qnum y e) (qden y e) := by
  have c1 := q_crossD z hd
  have c2 := q_crossD y he
  have p1 : (0 : Int) < (d : Int) := by omega
  have p2 : (0 : Int) < (e : Int) := by omega
  have p3 : (0 : Int) < (qden z d : Int) := by have := qden_ne z d; omega
  have p4 : (0 : Int) < (qden y e : Int) := by have := qden_ne y e; omega
  unfold cmpQ
  generalize qnum z d = A at *
  generalize qnum y e = B at *
  generalize (qden z d : Int) = C at *
  generalize (qden y e : Int) = D at *
  generalize (d : Int) = d at *
  generalize (e : Int) = e at *
  rw [← sgnI_scale (z := z * e - y * d) (Int.mul_pos p3 p4), ← sgnI_scale (z := A * D + -B * C) (Int.mul_pos p1 p2)]
  congr 1
  have e1 : z * e * (C * D) = A * D * (d * e) := by
    rw [show z * e * (C * D) = (z * C) * (e * D) by simp only [Int.mul_assoc, Int.mul_comm, Int.mul_left_comm], ← c1]
    simp only [Int.mul_assoc, Int.mul_comm, Int.mul_left_comm]
  have e2 : y * d * (C * D) = B * C * (d * e) := by
    rw [show y * d * (C * D) = (y * D) * (d * C) by simp only [Int.mul_assoc, Int.mul_comm, Int.mul_left_comm], ← c2]
    simp only [Int.mul_assoc, Int.mul_comm, Int.mul_left_comm]
  rw [Int.sub_mul, Int.add_mul, e1, e2, Int.neg_mul, Int.neg_mul]
  omega

set_option maxRecDepth 100000 in
set_option maxHeartbeats 4000000 in
theorem fr_cmp {va vb : Value} {na nb : Bool} {la da lb db : List Nat} {w : World} (ha : SeesQ w va na la da) (hb : SeesQ w vb nb lb db) (h1 : la.length ≤ 1000) (h2 : da.length ≤ 1000) (h3 : lb.length ≤ 1000) (h4 : db.length ≤ 1000) :
    Calls Tryz.prog 33 #[va, vb] w fun e w' => e = .returned (.int .i64 (cmpQ (qnum (zval na la) (val da)) (qden (zval na la) (val da)) (qnum (zval nb lb) (val db)) (qden (zval nb lb) (val db)))) ∧ Below w.heap.size w w' := by
  have hsg := cmp_signs (A := qnum (zval na la) (val da)) (B := qnum (zval nb lb) (val db)) (C := qden (zval na la) (val da)) (D := qden (zval nb lb) (val db)) (Nat.pos_of_ne_zero (qden_ne _ _)) (Nat.pos_of_ne_zero (qden_ne _ _))
  have hcr := fun h k => cmp_cross (z := zval na la) (y := zval nb lb) (d := val da) (e := val db) h k
  rw [← sgnQ_plain, ← sgnQ_plain] at hsg
  have hs0 : sgnQ na la da ≠ 0 → val da ≠ 0 := fun h e => h (by unfold sgnQ; rw [if_pos e])
  have ht0 : sgnQ nb lb db ≠ 0 → val db ≠ 0 := fun h e => h (by unfold sgnQ; rw [if_pos e])
  obtain ⟨ao, ac, bo, bc, rfl⟩ := id ha.form
  obtain ⟨co, cc, eo, ec, rfl⟩ := id hb.form
  obtain ⟨y, hy⟩ : ∃ y, y = (w.alloc (.cells #[.bool na, .slice ao la.length ac, .slice bo da.length bc] 26)).alloc (.cells #[.bool nb, .slice co lb.length cc, .slice eo db.length ec] 26) := ⟨_, rfl⟩
  have b : Below w.heap.size w y := by rw [hy]; exact ((Below.refl _ w).alloc (Nat.le_refl _) _).alloc (by simp) _
  have xA : Blk y w.heap.size #[.bool na, .slice ao la.length ac, .slice bo da.length bc] := by rw [hy]; exact (Blk.new w _ _).alloc _
  have xB : Blk y (w.heap.size + 1) #[.bool nb, .slice co lb.length cc, .slice eo db.length ec] := by
    rw [hy]
    have := Blk.new (w.alloc (.cells #[.bool na, .slice ao la.length ac, .slice bo da.length bc] 26)) #[.bool nb, .slice co lb.length cc, .slice eo db.length ec] 26
    rwa [Deep.nblk_alloc] at this
  obtain ⟨gB, e2⟩ : ∃ g, g = w.heap.size + 1 := ⟨_, rfl⟩
  obtain ⟨gA, e1⟩ : ∃ g, g = w.heap.size := ⟨_, rfl⟩
  rw [← e2] at xB; rw [← e1] at xA
  have HY := hid hy.symm; have E1 := hid e1.symm; have E2 := hid e2.symm
  have HBel := hid b
  have HSA := hid (fun (w' : World) (h : Below y.heap.size y w') => fr_sign ((ha.below b).below h))
  have HSB := hid (fun (w' : World) (h : Below y.heap.size y w') => fr_sign ((hb.below b).below h))
  have HQA := hid (ha.below b); have HQB := hid (hb.below b)
  have HXA := hid xA; have HXB := hid xB
  generalize hs : sgnQ na la da = s at *
  generalize ht : sgnQ nb lb db = u at *
  have hsr : s = -1 ∨ s = 0 ∨ s = 1 := by
    rw [← hs, sgnQ_plain]; unfold sgnI; split; simp; split <;> simp
  have hur : u = -1 ∨ u = 0 ∨ u = 1 := by
    rw [← ht, sgnQ_plain]; unfold sgnI; split; simp; split <;> simp
  generalize cmpQ (qnum (zval na la) (val da)) (qden (zval na la) (val da)) (qnum (zval nb lb) (val db)) (qden (zval nb lb) (val db)) = c at *
  have HSG := hid hsg; have HCR := hid hcr; have HS0 := hid hs0; have HT0 := hid ht0; have HSR := hid hsr; have HUR := hid hur
  have HY0 := hid (Below.refl y.heap.size y).drew
  have DXA := hid (xA.below HY0.out); have DXB := hid (xB.below HY0.out)
  obtain ⟨c0, c1, c2, -, -, -⟩ := DXA.out.open3
  obtain ⟨d0, d1, d2, -, -, -⟩ := DXB.out.open3
  clear hy e1 e2 xA xB b ha hb hs ht hsg hcr hs0 ht0 hsr hur
  go_enter Tryz.func33, Tryz.ntmps33
  go_wp2_with fail
  rw [HY.out, E2.out, E1.out]
  clear HY E1 E2
  go_region_held3 (fun w' => w'.cell? ⟨gA, 0, none⟩ = some (.bool na) ∧ w'.cell? ⟨gA, 1, none⟩ = some (.slice ao la.length ac) ∧ w'.cell? ⟨gA, 2, none⟩ = some (.slice bo da.length bc) ∧ w'.cell? ⟨gB, 0, none⟩ = some (.bool nb) ∧ w'.cell? ⟨gB, 1, none⟩ = some (.slice co lb.length cc) ∧ w'.cell? ⟨gB, 2, none⟩ = some (.slice eo db.length ec)) (first | (with_reducible exact cellsQ DXA.out DXB.out) | (with_reducible exact cellsQ XA3.out XB3.out) | (with_reducible exact cellsQ XA4.out XB4.out)) (first
    | (go_at_call 27
       refine (HSA.out _ (by with_reducible exact HY0.out)).mono ?_
       rintro e w3 ⟨rfl, hb3⟩
       have HW3 := hid (step_below HY0.out hb3)
       have XA3 := hid (HXA.out.below HW3.out); have XB3 := hid (HXB.out.below HW3.out)
       clear hb3 HSA)
    | (go_at_call 27
       refine (HSB.out _ (by with_reducible exact HW3.out)).mono ?_
       rintro e w4 ⟨rfl, hb4⟩
       have HW4 := hid (step_below HW3.out hb4)
       have XA4 := hid (HXA.out.below HW4.out); have XB4 := hid (HXB.out.below HW4.out)
       clear hb4 HSB))
  have HWW := hid (HBel.out.trans (HW4.out.mono HBel.out.size))
  clear c0 c1 c2 d0 d1 d2
  by_cases k1 : s < u
  · have hc := HSG.out.1 k1
    have HC := hid hc
    clear hc
    go_wp2_with fail
    go_ret
    exact ⟨by rw [HC.out]; rfl, HWW.out⟩
  by_cases k2 : s > u
  · have hc := HSG.out.2.1 k2
    have HC := hid hc
    clear hc
    go_wp2_with fail
    go_ret
    exact ⟨by rw [HC.out]; rfl, HWW.out⟩
  by_cases k3 : s = 0
  · have k4 : u = 0 := by omega
    have hc := HSG.out.2.2 k3 k4
    have HC := hid hc
    subst k3
    clear hc k4
    go_wp2_with fail
    go_ret
    exact ⟨by rw [HC.out]; rfl, HWW.out⟩
  have k4 : ¬ u = 0 := by omega
  have hcc := HCR.out (HS0.out k3) (HT0.out k4)
  have HCC := hid hcc
  have k5 : (s == 0) = false := by simpa using k3
  clear hcc k4 HCR HS0 HT0 HSG HSR HUR
  have HV0 := hid HW4.out.drew
  have EXA := hid (HXA.out.below HV0.out); have EXB := hid (HXB.out.below HV0.out)
  obtain ⟨c0, c1, c2, -, -, -⟩ := EXA.out.open3
  obtain ⟨d0, d1, d2, -, -, -⟩ := EXB.out.open3
  have HNA := hid (fun (w' : World) (h : Below y.heap.size y w') => fr_times ((HQA.out.below h).num2.1) ((HQB.out.below h).num2.2) (by omega) (by omega))
  have HNB := hid (fun (w' : World) (h : Below y.heap.size y w') => fr_times ((HQB.out.below h).num2.1) ((HQA.out.below h).num2.2) (by omega) (by omega))
  go_wp2_with fail
  go_region_held3 (fun w' => w'.cell? ⟨gA, 0, none⟩ = some (.bool na) ∧ w'.cell? ⟨gA, 1, none⟩ = some (.slice ao la.length ac) ∧ w'.cell? ⟨gA, 2, none⟩ = some (.slice bo da.length bc) ∧ w'.cell? ⟨gB, 0, none⟩ = some (.bool nb) ∧ w'.cell? ⟨gB, 1, none⟩ = some (.slice co lb.length cc) ∧ w'.cell? ⟨gB, 2, none⟩ = some (.slice eo db.length ec)) (first | (with_reducible exact cellsQ EXA.out EXB.out) | (with_reducible exact cellsQ XA5.out XB5.out) | (with_reducible exact cellsQ XA6.out XB6.out) | (with_reducible exact cellsQ XA7.out XB7.out)) (first
    | (go_at_call 73
       refine (HNA.out _ (by with_reducible exact HV0.out)).mono ?_
       rintro e w5 ⟨v5, rfl, hz5, hb5⟩
       have HW5 := hid (step_below HV0.out hb5)
       have XA5 := hid (HXA.out.below HW5.out); have XB5 := hid (HXB.out.below HW5.out)
       have HZ5 := hid hz5
       clear hz5 hb5 HNA)
    | (go_at_call 73
       refine (HNB.out _ (by with_reducible exact HW5.out)).mono ?_
       rintro e w6 ⟨v6, rfl, hz6, hb6⟩
       have HW6 := hid (step_below HW5.out hb6)
       have XA6 := hid (HXA.out.below HW6.out); have XB6 := hid (HXB.out.below HW6.out)
       have HZ6 := hid hz6; have HZ56 := hid (HZ5.out.below hb6)
       clear hz6 hb6 HNB)
    | (go_at_call 72
       refine (whole_cmp HZ56.out.sees HZ6.out.sees).mono ?_
       rw [zval_plain, zval_plain]
       rintro e w7 ⟨rfl, hb7⟩
       have HW7 := hid (step_below HW6.out hb7)
       have XA7 := hid (HXA.out.below HW7.out); have XB7 := hid (HXB.out.below HW7.out)
       clear hb7))
  all_goals
    have HWE := hid (HBel.out.trans (HW7.out.mono HBel.out.size))
    go_wp2_with fail
    go_ret
    exact ⟨by rw [← HCC.out]; rfl, HWE.out⟩
end Go.Proofs.YtjnbonellgpjnaaGreat
