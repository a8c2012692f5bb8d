/- For all fractions x, y of 6 limbs at most and the prime that is picked for p: the rest of x times that of its denominator is that of its numerator, or the prime divides the denominator; of the product it is the product of the rests. Conditions: none. -/
import Derived.Test.YtcogldhjkjiodaaPmN
import Derived.Test.YtcogldhjkjiodaaRm
import Derived.Test.YtcogldhjkjiodaaOq
import Derived.Test.YtcogldhjkjiodaaKB
import Derived.HandedShaped
set_option linter.unusedVariables false
set_option linter.unusedSimpArgs false
namespace Go.Proofs.Ytcogldhjkjiodaa.primeFractions
open Go.ChangeShapes Go.WideShapes Go.ChangeAt Go.RowKit

theorem zlim_mul {A B : Int} {m n : Nat} (hA : (zlim A).length ≤ m) (hB : (zlim B).length ≤ n) : (zlim (A * B)).length ≤ m + n := by
  refine limbs_length_le ?_
  have a1 := Nat.lt_of_lt_of_le (val_lt (zlim_ok A)) (Nat.pow_le_pow_right (by decide : 0 < 4294967296) hA)
  have a2 := Nat.lt_of_lt_of_le (val_lt (zlim_ok B)) (Nat.pow_le_pow_right (by decide : 0 < 4294967296) hB)
  rw [val_zlim] at a1 a2
  rw [Int.natAbs_mul, Nat.pow_add]
  exact Nat.mul_lt_mul'' a1 a2
theorem limbs_mul {A B : Nat} {m n : Nat} (hA : (limbs A).length ≤ m) (hB : (limbs B).length ≤ n) : (limbs (A * B)).length ≤ m + n := by
  refine limbs_length_le ?_
  have a1 := Nat.lt_of_lt_of_le (val_lt (limbs_ok A)) (Nat.pow_le_pow_right (by decide : 0 < 4294967296) hA)
  have a2 := Nat.lt_of_lt_of_le (val_lt (limbs_ok B)) (Nat.pow_le_pow_right (by decide : 0 < 4294967296) hB)
  rw [val_limbs] at a1 a2
  rw [Nat.pow_add]
  exact Nat.mul_lt_mul'' a1 a2
theorem qnum_len' (z : Int) (d : Nat) : (zlim (qnum z d)).length ≤ (zlim z).length := by
  refine limbs_length_le (Nat.lt_of_le_of_lt (qnum_abs z d) ?_)
  have := val_lt (zlim_ok z); rwa [val_zlim] at this
theorem qden_len' (z : Int) (d : Nat) : (limbs (qden z d)).length ≤ (limbs d).length + 1 := by
  refine limbs_length_le (Nat.lt_of_le_of_lt (qden_le z d) ?_)
  have h1 := val_lt (limbs_ok d)
  rw [val_limbs] at h1
  have h2 : 0 < 4294967296 ^ (limbs d).length := Nat.pow_pos (by decide)
  rw [Nat.pow_succ]
  generalize 4294967296 ^ (limbs d).length = P at *
  omega
theorem modP_of {q : Nat} (hq : IsP q) (z : Int) : modP z q = z % q := by simp [modP, isP_of hq]
theorem errP_of {q : Nat} (hq : IsP q) : errP q = 0 := by simp [errP, isP_of hq]
theorem ofE_zero {q D : Nat} (hq : IsP q) (h : (D : Int) % (q : Int) = 0) : ofE D q = 30 := by unfold ofE; rw [if_pos (isP_of hq), if_pos h]
theorem ofE_ok {q D : Nat} (hq : IsP q) (h : ¬ (D : Int) % (q : Int) = 0) : ofE D q = 0 := by unfold ofE; rw [if_pos (isP_of hq), if_neg h]
theorem ofV_zero {q D : Nat} {N : Int} (h : (D : Int) % (q : Int) = 0) : ofV N D q = 0 := by unfold ofV; rw [if_neg (fun k => k.2 h)]
theorem not_dvd {q : Nat} {D : Int} (h : ¬ D % (q : Int) = 0) : ¬ (q : Int) ∣ D := fun k => h (Int.emod_eq_zero_of_dvd k)

set_option maxRecDepth 100000 in
set_option maxHeartbeats 8000000 in
theorem walk {va vb : Value} {na nb : Bool} {la da lb db : List Nat} {p : Int} {w : World} (ha : SeesQ w va na la da) (hla : la.length ≤ 35184372087808) (hda : da.length ≤ 35184372087808) (hb : SeesQ w vb nb lb db) (hlb : lb.length ≤ 35184372087808) (hdb : db.length ≤ 35184372087808) (hp : (Lit.int .i64 p).wf = true) :
    Calls Try.prog 5 #[va, vb, .int .i64 p] w fun e w' => e = .returned (.bool true) ∧ Below w.heap.size w w' := by
  obtain ⟨p1, p2⟩ := int_bounds5 hp
  have C0 := hid awake5
  have CP := hid (law_pick p p1 p2)
  have HMA := hid ha; have HMB := hid hb
  have KA1 := hid (show Ok la from by obtain ⟨_, _, _, h1, _⟩ := ha; exact h1.ok)
  have KA2 := hid (show Ok da from by obtain ⟨_, _, _, _, h1⟩ := ha; exact h1.ok)
  have KB1 := hid (show Ok lb from by obtain ⟨_, _, _, h1, _⟩ := hb; exact h1.ok)
  have KB2 := hid (show Ok db from by obtain ⟨_, _, _, _, h1⟩ := hb; exact h1.ok)
  obtain ⟨ao, ac, bo, bc, rfl⟩ := ha.form
  obtain ⟨co, cc, eo, ec, rfl⟩ := hb.form
  obtain ⟨y, hy⟩ : ∃ y, y = (w.alloc (.cells #[.bool na, .slice ao la.length ac, .slice bo da.length bc] 26)).alloc (.cells #[.bool nb, .slice co lb.length cc, .slice eo db.length ec] 26) := ⟨_, rfl⟩
  have b : Below w.heap.size w y := by rw [hy]; exact ((Below.refl _ w).alloc (Nat.le_refl _) _).alloc (by simp) _
  have xA : Blk y w.heap.size #[.bool na, .slice ao la.length ac, .slice bo da.length bc] := by rw [hy]; exact (Blk.new w _ _).alloc _
  have xB : Blk y (w.heap.size + 1) #[.bool nb, .slice co lb.length cc, .slice eo db.length ec] := by
    rw [hy]
    have := Blk.new (w.alloc (.cells #[.bool na, .slice ao la.length ac, .slice bo da.length bc] 26)) #[.bool nb, .slice co lb.length cc, .slice eo db.length ec] 26
    rwa [Deep.nblk_alloc] at this
  obtain ⟨gB, e2⟩ : ∃ g, g = w.heap.size + 1 := ⟨_, rfl⟩
  obtain ⟨gA, e1⟩ : ∃ g, g = w.heap.size := ⟨_, rfl⟩
  rw [← e2] at xB; rw [← e1] at xA
  have HY := hid hy.symm; have E1 := hid e1.symm; have E2 := hid e2.symm
  have XA := hid xA; have XB := hid xB
  have HBel := hid b
  have HA := hid (HMA.out.below b)
  have HB := hid (HMB.out.below b)
  clear hy e1 e2 xA xB b HMA HMB hp p1 p2 ha hb
  go_enter Try.func5, Try.ntmps5
  go_wp2_with fail
  rw [HY.out, E2.out, E1.out]
  clear HY E1 E2
  refine (C0.out _).mono ?_
  rintro e w0 ⟨rfl, hb0⟩
  have N1 := hid (XA.out.below hb0); have N2 := hid (XB.out.below hb0); have N3 := hid (HA.out.below hb0); have N4 := hid (HB.out.below hb0); have N5 := hid (HBel.out.trans (hb0.mono HBel.out.size))
  clear XA XB HA HB HBel hb0
  have XA := N1; have XB := N2; have HA := N3; have HB := N4; have HBel := N5
  clear N1 N2 N3 N4 N5
  go_wp2_with fail
  refine (CP.out _).mono ?_
  rintro e w1 ⟨q, rfl, hq, hb1⟩
  have N1 := hid (XA.out.below hb1); have N2 := hid (XB.out.below hb1); have N3 := hid (HA.out.below hb1); have N4 := hid (HB.out.below hb1); have N5 := hid (HBel.out.trans (hb1.mono HBel.out.size))
  clear XA XB HA HB HBel hb1
  have XA := N1; have XB := N2; have HA := N3; have HB := N4; have HBel := N5
  clear N1 N2 N3 N4 N5
  have HQ := hid hq
  have q1 : -9223372036854775808 ≤ (q : Int) := by omega
  have q2 : (q : Int) < 9223372036854775808 := by have := hq.2.1; omega
  have HM : Hid (∀ (w : World) (v : Value) (n : Bool) (l : List Nat), SeesZ w v n l → l.length ≤ 100 → Calls Try.prog 7 #[v, .int .i64 q] w fun e w' => e = .returned (.tuple #[.int .i64 (zval n l % (q : Int)), .int .i64 0]) ∧ Below w.heap.size w w') := fun w v n l h hl => by
    have := prime_mod h (by omega) (q : Int) q1 q2
    simp only [IsMod] at this
    rwa [modP_of hq, errP_of hq] at this
  have HO : Hid (∀ (w : World) (v : Value) (n : Bool) (l d : List Nat), SeesQ w v n l d → l.length ≤ 100 → d.length ≤ 100 → Calls Try.prog 9 #[v, .int .i64 q] w fun e w' => e = .returned (.tuple #[.int .i64 (ofV (qnum (zval n l) (val d)) (qden (zval n l) (val d)) q), .int .i64 (ofE (qden (zval n l) (val d)) q)]) ∧ Below w.heap.size w w') := fun w v n l d h hl hd =>
    prime_of h (by omega) (by omega) (q : Int) q1 q2
  have DM := hid (fun x y => prime_mul x y (q : Int) q1 q2)
  clear hq q1 q2
  by_cases la6 : la.length > 6
  · clear HM HO DM C0 CP
    obtain ⟨a0, a1, a2, -, -, -⟩ := XA.out.open3
    obtain ⟨b0, b1, b2, -, -, -⟩ := XB.out.open3
    go_wp2_with fail
    go_ret
    exact ⟨rfl, HBel.out⟩
  by_cases da6 : da.length > 6
  · clear HM HO DM C0 CP
    obtain ⟨a0, a1, a2, -, -, -⟩ := XA.out.open3
    obtain ⟨b0, b1, b2, -, -, -⟩ := XB.out.open3
    go_wp2_with fail
    go_ret
    exact ⟨rfl, HBel.out⟩
  by_cases lb6 : lb.length > 6
  · clear HM HO DM C0 CP
    obtain ⟨a0, a1, a2, -, -, -⟩ := XA.out.open3
    obtain ⟨b0, b1, b2, -, -, -⟩ := XB.out.open3
    go_wp2_with fail
    go_ret
    exact ⟨rfl, HBel.out⟩
  by_cases db6 : db.length > 6
  · clear HM HO DM C0 CP
    obtain ⟨a0, a1, a2, -, -, -⟩ := XA.out.open3
    obtain ⟨b0, b1, b2, -, -, -⟩ := XB.out.open3
    go_wp2_with fail
    go_ret
    exact ⟨rfl, HBel.out⟩
  have lA := qnum_len (n := na) KA1.out (val da)
  have lC := qden_len KA2.out (zval na la)
  have lB := qnum_len (n := nb) KB1.out (val db)
  have lD := qden_len KB2.out (zval nb lb)
  have zC := qden_ne (zval na la) (val da)
  have zD := qden_ne (zval nb lb) (val db)
  obtain ⟨A, hA⟩ : ∃ z, qnum (zval na la) (val da) = z := ⟨_, rfl⟩
  obtain ⟨C, hC⟩ : ∃ z, qden (zval na la) (val da) = z := ⟨_, rfl⟩
  obtain ⟨B, hB⟩ : ∃ z, qnum (zval nb lb) (val db) = z := ⟨_, rfl⟩
  obtain ⟨D, hD⟩ : ∃ z, qden (zval nb lb) (val db) = z := ⟨_, rfl⟩
  have LA := hid hA; have LC := hid hC; have LB := hid hB; have LD := hid hD
  rw [hA] at lA; rw [hC] at lC zC; rw [hB] at lB; rw [hD] at lD zD
  have ZC := hid zC; have ZD := hid zD
  clear hA hC hB hD zC zD
  have M1 := hid (HO.out _ _ _ _ _ HA.out (by omega) (by omega))
  rw [LA.out, LC.out] at M1
  have M2 := hid (fun w' (h : Below w1.heap.size w1 w') => HO.out w' _ _ _ _ (HB.out.below h) (by omega) (by omega))
  rw [LB.out, LD.out] at M2
  obtain ⟨av, hav⟩ : ∃ z, ofV A C q = z := ⟨_, rfl⟩
  obtain ⟨ae, hae⟩ : ∃ z, ofE C q = z := ⟨_, rfl⟩
  obtain ⟨bv, hbv⟩ : ∃ z, ofV B D q = z := ⟨_, rfl⟩
  obtain ⟨be, hbe⟩ : ∃ z, ofE D q = z := ⟨_, rfl⟩
  have AV := hid hav; have AE := hid hae; have BV := hid hbv; have BE := hid hbe
  rw [hav, hae] at M1; rw [hbv, hbe] at M2
  clear hav hae hbv hbe
  obtain ⟨a0, a1, a2, -, -, -⟩ := XA.out.open3
  obtain ⟨b0, b1, b2, -, -, -⟩ := XB.out.open3
  go_wp2_with fail
  refine M1.out.mono ?_
  rintro e w2 ⟨rfl, hb2⟩
  have M2' := hid (M2.out w2 hb2)
  clear M1 M2 a0 a1 a2 b0 b1 b2
  have N1 := hid (XA.out.below hb2); have N2 := hid (XB.out.below hb2); have N3 := hid (HA.out.below hb2); have N4 := hid (HB.out.below hb2); have N5 := hid (HBel.out.trans (hb2.mono HBel.out.size))
  clear XA XB HA HB HBel hb2
  have XA := N1; have XB := N2; have HA := N3; have HB := N4; have HBel := N5
  clear N1 N2 N3 N4 N5
  obtain ⟨a0, a1, a2, -, -, -⟩ := XA.out.open3
  obtain ⟨b0, b1, b2, -, -, -⟩ := XB.out.open3
  go_wp2_with fail
  refine M2'.out.mono ?_
  rintro e w3 ⟨rfl, hb3⟩
  clear M2' a0 a1 a2 b0 b1 b2
  have N1 := hid (XA.out.below hb3); have N2 := hid (XB.out.below hb3); have N3 := hid (HA.out.below hb3); have N4 := hid (HB.out.below hb3); have N5 := hid (HBel.out.trans (hb3.mono HBel.out.size))
  clear XA XB HA HB HBel hb3
  have XA := N1; have XB := N2; have HA := N3; have HB := N4; have HBel := N5
  clear N1 N2 N3 N4 N5
  have M3 := hid (ref_plainQ HA.out (by omega) (by omega))
  rw [LA.out, LC.out] at M3
  obtain ⟨a0, a1, a2, -, -, -⟩ := XA.out.open3
  obtain ⟨b0, b1, b2, -, -, -⟩ := XB.out.open3
  go_wp2_with fail
  refine M3.out.mono ?_
  rintro e w4 ⟨v4, rfl, hq4, hb4⟩
  clear M3 a0 a1 a2 b0 b1 b2
  have N1 := hid (XA.out.below hb4); have N2 := hid (XB.out.below hb4); have N3 := hid (HA.out.below hb4); have N4 := hid (HB.out.below hb4); have N5 := hid (HBel.out.trans (hb4.mono HBel.out.size))
  clear XA XB HA HB HBel hb4
  have XA := N1; have XB := N2; have HA := N3; have HB := N4; have HBel := N5
  clear N1 N2 N3 N4 N5
  obtain ⟨r1, r2, r3, r4, rfl⟩ := hq4.form
  obtain ⟨w5, hw5⟩ : ∃ x, x = w4.alloc (.cells #[.bool (zneg A), .slice r1 (zlim A).length r2, .slice r3 (limbs C).length r4] 26) := ⟨_, rfl⟩
  have hb5 : Below w4.heap.size w4 w5 := by rw [hw5]; exact (Below.refl _ w4).alloc (Nat.le_refl _) _
  have xQ : Blk w5 w4.heap.size #[.bool (zneg A), .slice r1 (zlim A).length r2, .slice r3 (limbs C).length r4] := by rw [hw5]; exact Blk.new ..
  obtain ⟨gQ, eQ⟩ : ∃ g, g = w4.heap.size := ⟨_, rfl⟩
  rw [← eQ] at xQ
  have XQ := hid xQ; have EQ := hid eQ.symm; have HW5 := hid hw5.symm
  have HNQ := hid ((hq4.below hb5).num.1); have HDQ := hid ((hq4.below hb5).num.2)
  clear hq4 xQ eQ hw5
  have N1 := hid (XA.out.below hb5); have N2 := hid (XB.out.below hb5); have N3 := hid (HA.out.below hb5); have N4 := hid (HB.out.below hb5); have N5 := hid (HBel.out.trans (hb5.mono HBel.out.size))
  clear XA XB HA HB HBel hb5
  have XA := N1; have XB := N2; have HA := N3; have HB := N4; have HBel := N5
  clear N1 N2 N3 N4 N5
  have M4 := hid (HM.out _ _ _ _ HNQ.out (by omega))
  rw [zval_plain] at M4
  have M5 := hid (fun w' (h : Below w5.heap.size w5 w') => HM.out w' (.agg #[.bool false, .slice r3 (limbs C).length r4]) false (limbs C) ⟨_, rfl, HDQ.out.below h⟩ (by omega))
  rw [zval_false, val_limbs] at M5
  obtain ⟨nv, hnv⟩ : ∃ z, A % (q : Int) = z := ⟨_, rfl⟩
  obtain ⟨dv, hdv⟩ : ∃ z, (C : Int) % (q : Int) = z := ⟨_, rfl⟩
  have NV := hid hnv; have DV := hid hdv
  rw [hnv] at M4; rw [hdv] at M5
  clear hnv hdv HNQ HDQ
  obtain ⟨z0, z1, z2, -, -, -⟩ := XQ.out.open3
  go_wp2_with fail
  rw [HW5.out, EQ.out]
  clear HW5 EQ
  refine M4.out.mono ?_
  rintro e w6 ⟨rfl, hb6⟩
  have M5' := hid (M5.out w6 hb6)
  have XQ6 := hid (XQ.out.below hb6)
  clear M4 M5 XQ z0 z1 z2
  have N1 := hid (XA.out.below hb6); have N2 := hid (XB.out.below hb6); have N3 := hid (HA.out.below hb6); have N4 := hid (HB.out.below hb6); have N5 := hid (HBel.out.trans (hb6.mono HBel.out.size))
  clear XA XB HA HB HBel hb6
  have XA := N1; have XB := N2; have HA := N3; have HB := N4; have HBel := N5
  clear N1 N2 N3 N4 N5
  obtain ⟨z0, z1, z2, -, -, -⟩ := XQ6.out.open3
  go_wp2_with fail
  refine M5'.out.mono ?_
  rintro e w7 ⟨rfl, hb7⟩
  clear M5' XQ6 z0 z1 z2
  have N1 := hid (XA.out.below hb7); have N2 := hid (XB.out.below hb7); have N3 := hid (HA.out.below hb7); have N4 := hid (HB.out.below hb7); have N5 := hid (HBel.out.trans (hb7.mono HBel.out.size))
  clear XA XB HA HB HBel hb7
  have XA := N1; have XB := N2; have HA := N3; have HB := N4; have HBel := N5
  clear N1 N2 N3 N4 N5
  by_cases hz : (C : Int) % (q : Int) = 0
  · have i1 : ae = 30 := by rw [← AE.out]; exact ofE_zero HQ.out hz
    have i2 : av = 0 := by rw [← AV.out]; exact ofV_zero hz
    have i3 : dv = 0 := by rw [← DV.out]; exact hz
    clear AV AE BV BE NV DV LA LB LC LD HM HO DM hz C0 CP
    subst i1; subst i2; subst i3
    go_wp2_with fail
    go_ret
    exact ⟨rfl, HBel.out⟩
  · have i1 : ae = 0 := by rw [← AE.out]; exact ofE_ok HQ.out hz
    have i3 : (dv == 0) = false := by rw [← DV.out]; simpa using hz
    have i4 : mulP av dv q = nv := by rw [← AV.out, ← DV.out, ← NV.out]; exact ofV_mul HQ.out (not_dvd hz)
    have hzC := hid (not_dvd hz)
    have D1 := hid (DM.out av dv)
    rw [i4] at D1
    have hlAB := zlim_mul (A := A) (B := B) (m := 6) (n := 6) (by omega) (by omega)
    have hlCD := limbs_mul (A := C) (B := D) (m := 7) (n := 7) (by omega) (by omega)
    have hpos : 0 < C * D := Nat.mul_pos (Nat.pos_of_ne_zero ZC.out) (Nat.pos_of_ne_zero ZD.out)
    have hlN := qnum_len' (A * B) (C * D)
    have hlE := qden_len' (A * B) (C * D)
    have M6 := hid (ref_mulQ HA.out HB.out (by omega) (by omega) (by omega) (by omega) A B C D LA.out LC.out LB.out LD.out (by omega) (by omega) (by omega) (by omega) (by omega) (by omega) hpos)
    obtain ⟨N, hN⟩ : ∃ z, qnum (A * B) (C * D) = z := ⟨_, rfl⟩
    obtain ⟨E, hE⟩ : ∃ z, qden (A * B) (C * D) = z := ⟨_, rfl⟩
    rw [hN, hE] at M6
    rw [hN] at hlN; rw [hE] at hlE
    have HN := hid hN; have HE := hid hE
    have hlN2 := hid (show (zlim N).length ≤ 12 by omega); have hlE2 := hid (show (limbs E).length ≤ 15 by omega)
    clear hN hE hlAB hlCD hpos hlN hlE hz i4
    subst i1
    obtain ⟨a0, a1, a2, -, -, -⟩ := XA.out.open3
    obtain ⟨b0, b1, b2, -, -, -⟩ := XB.out.open3
    go_wp2_with fail
    refine M6.out.mono ?_
    rintro e w8 ⟨v8, rfl, hq8, hb8⟩
    have M7 := hid (HO.out _ _ _ _ _ hq8 (by have := hlN2.out; omega) (by have := hlE2.out; omega))
    rw [zval_plain, val_limbs] at M7
    obtain ⟨s1, s2, s3, s4, rfl⟩ := hq8.form
    have H8 := hid (HBel.out.trans (hb8.mono HBel.out.size))
    clear M6 hq8 hb8 a0 a1 a2 b0 b1 b2 XA XB HA HB HBel
    by_cases hzd : (D : Int) % (q : Int) = 0
    · have j1 : be = 30 := by rw [← BE.out]; exact ofE_zero HQ.out hzd
      subst j1
      generalize ofV (qnum N E) (qden N E) (q : Int) = cv at *
      generalize ofE (qden N E) (q : Int) = ce at *
      clear hzd
      go_wp2_with fail
      refine M7.out.mono ?_
      rintro e w9 ⟨rfl, hb9⟩
      have H9 := hid (H8.out.trans (hb9.mono H8.out.size))
      clear hb9
      go_wp2_with fail
      refine (D1.out _).mono ?_
      rintro e w10 ⟨rfl, hb10⟩
      have H10 := hid (H9.out.trans (hb10.mono H9.out.size))
      clear hb10
      go_wp2_with fail
      go_ret
      exact ⟨rfl, H10.out⟩
    · have j1 : be = 0 := by rw [← BE.out]; exact ofE_ok HQ.out hzd
      obtain ⟨k1, k2⟩ := ofV_prod HQ.out (N1 := A) (N2 := B) hzC.out (not_dvd hzd) ZC.out ZD.out HN.out HE.out
      rw [AV.out, BV.out] at k2
      have k3 : ofE (qden N E) q = 0 := ofE_ok HQ.out (fun h => k1 (Int.dvd_of_emod_eq_zero h))
      have D2 := hid (DM.out av bv)
      rw [k2, k3] at M7
      generalize mulP av bv q = cv at *
      subst j1
      clear hzd k1 k2 k3
      go_wp2_with fail
      refine M7.out.mono ?_
      rintro e w9 ⟨rfl, hb9⟩
      have H9 := hid (H8.out.trans (hb9.mono H8.out.size))
      clear hb9
      go_wp2_with fail
      refine (D1.out _).mono ?_
      rintro e w10 ⟨rfl, hb10⟩
      have H10 := hid (H9.out.trans (hb10.mono H9.out.size))
      clear hb10
      go_wp2_with fail
      refine (D2.out _).mono ?_
      rintro e w11 ⟨rfl, hb11⟩
      have H11 := hid (H10.out.trans (hb11.mono H10.out.size))
      clear hb11
      go_wp2_with fail
      go_ret
      exact ⟨rfl, H11.out⟩

/-! ### The row's step -/
set_option maxRecDepth 100000 in
theorem contract (H : Type) (enc : TypeId × Value → H) (W : World) (base : Nat) (args : Array Value) (ds gs : List (DataW H)) (before : List MemPlace)
    (hval0 : ∀ (j : Nat) t v, Try.f5.params[j]? = some t → args[j]? = some v → Value.okWide Try.prog W .any base t v)
    (hW : DataW.Whole enc Try.prog Try.f5.params.toList Rows.primeFractionsSpec.vars false W args.toList ds gs before)
    (hsz0 : (DataW.weightsEach Try.prog (Try.f5.params.toList ++ Rows.primeFractionsSpec.plain.varTypes Try.prog) (ds ++ gs)).all (· ≤ reachBytes) = true) :
    Calls Try.prog 5 args W fun e W' => ∃ v, e = .returned v ∧ Rows.primeFractionsSpec.post enc Try.prog Try.f5 false true false false W args v W' := by
  have hW' := hW
  obtain ⟨p, q, hA0, hV, rfl, hfz, hnd⟩ := hW
  have hA : DataW.TrodAll enc Try.prog W 0 (fun _ => true) true Try.f5.params.toList args.toList ds p := hA0
  have hval : ∀ (j : Nat) t v, Try.f5.params[j]? = some t → args[j]? = some v → Value.okWide Try.prog W .any base t v := hval0
  have hsz : (DataW.weightsEach Try.prog (Try.f5.params.toList ++ []) (ds ++ gs)).all (· ≤ reachBytes) = true := hsz0
  rw [Try.params5] at hA hval hsz
  obtain ⟨v0, vs0, d0, ds0, p0, q0, hargs, rfl, rfl, h0, r0⟩ := trodAll_cons hA
  obtain ⟨v1, vs1, d1, ds1, p1, q1, rfl, rfl, rfl, h1, r1⟩ := trodAll_cons r0
  obtain ⟨v2, vs2, d2, ds2, p2, q2, rfl, rfl, rfl, h2, r2⟩ := trodAll_cons r1
  obtain ⟨rfl, rfl, rfl⟩ := trodAll_nil r2
  obtain rfl : args = #[v0, v1, v2] := by cases args; simp_all
  obtain ⟨rfl, rfl⟩ := trodVars_none hV
  obtain ⟨g0, l0, m0, s0, bl0, bm0⟩ := open_q (hval 0 26 v0 rfl rfl) h0 (sized_arg hsz (j := 0) (t := 26) rfl rfl)
  obtain ⟨g1, l1, m1, s1, bl1, bm1⟩ := open_q (hval 1 26 v1 rfl rfl) h1 (sized_arg hsz (j := 1) (t := 26) rfl rfl)
  have k2 := h2
  obtain ⟨n2, rfl, rfl, rfl, wn2⟩ := open_int Try.underlying3 (hval 2 3 v2 rfl rfl) h2
  refine (walk s0 bl0 bm0 s1 bl1 bm1 wn2).mono fun e W' ⟨he, hb⟩ => ?_
  subst he
  exact ⟨_, rfl, _, _, _, _, _, _, hW', trodAll_cons_mk (shut_bool Try.underlying4 _) trodAll_mk0, trodAll_cons_mk (Below.trod laidOut (by kernel_rfl) (of_decide_eq_true (by kernel_rfl)) h0 hb (fun x hx => by first | cases hx; done | (have := hW'.lt x (by simp [hx]); simpa using this))) (trodAll_cons_mk (Below.trod laidOut (by kernel_rfl) (of_decide_eq_true (by kernel_rfl)) h1 hb (fun x hx => by first | cases hx; done | (have := hW'.lt x (by simp [hx]); simpa using this))) (trodAll_cons_mk (Below.trod laidOut (by kernel_rfl) (of_decide_eq_true (by kernel_rfl)) k2 hb (fun x hx => by first | cases hx; done | (have := hW'.lt x (by simp [hx]); simpa using this))) (trodAll_mk0))), rfl, hb.frame _, fun h => by cases h⟩

set_option maxRecDepth 100000 in
theorem lifted (os : Os) (started : os.Started) (H : Type) (enc : TypeId × Value → H) :
    ReturnsInHanded {} Try.checked os 5 .any (Rows.primeFractionsSpec.pre6 enc Try.prog Try.f5 Rows.primeFractionsRow.domain false) (Rows.primeFractionsSpec.post enc Try.prog Try.f5 false true false false) := by
  refine returnsInHanded_of_change_shaped (C := Try.checked) own started (by kernel_rfl) Try.func5
    (ChangeSpec.witness6 (enc := enc) (C := Try.checked) false ⟨#[], #[.agg #[.bool false, .slice none 0 0, .slice none 0 0], .agg #[.bool false, .slice none 0 0, .slice none 0 0], .int .i64 0], []⟩ 8 (by kernel_rfl) (by kernel_rfl) (by kernel_rfl) (by kernel_rfl)) ?_
  intro W base args ds gs before hval0 hW _ hsz _ _
  exact contract H enc W base args ds gs before hval0 hW hsz

theorem holds : Rows.PrimeFractionsSaid :=
  OpenClaim.holds_of_wide 5 Try.f5 rfl rfl rfl rfl rfl rfl rfl ⟨rfl, rfl, rfl, rfl, rfl⟩ rfl rfl rfl rfl rfl (by kernel_rfl) Try.func5 (by kernel_rfl)
    (of_decide_eq_true (by kernel_rfl)) (by unfold Func.isWrapper; first | (rw [if_pos (by decide +kernel)]; kernel_rfl) | (rw [if_neg (by decide +kernel)]; exact ⟨rfl, rfl⟩))
    (fun os started H enc _ => lifted os started H enc)
end Go.Proofs.Ytcogldhjkjiodaa.primeFractions
