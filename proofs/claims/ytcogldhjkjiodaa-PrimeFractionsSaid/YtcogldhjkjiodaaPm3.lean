/- prime.Of and the document's Of of layer 5 by their contracts. -/
import Derived.Test.YtcogldhjkjiodaaPm2
import Derived.Test.YtcogldhjkjiodaaPr6
import Derived.Test.YtcogldhjkjiodaaKQ
set_option linter.unusedVariables false
set_option linter.unusedSimpArgs false
namespace Go.Proofs.Ytcogldhjkjiodaa
open Go.RowKit

/-- What Of tells of the fraction N / D, plain. -/
def ofV (N : Int) (D : Nat) (p : Int) : Int := if isP p ∧ (D : Int) % p ≠ 0 then mulP N (invP D p) p else 0
def ofE (D : Nat) (p : Int) : Int := if isP p then (if (D : Int) % p = 0 then 30 else 0) else 50
def IsOf (w : World) (N : Int) (D : Nat) (p : Int) (e : Ending) (w' : World) : Prop := e = .returned (.tuple #[.int .i64 (ofV N D p), .int .i64 (ofE D p)]) ∧ Below w.heap.size w w'

theorem qnum_abs (z : Int) (d : Nat) : (qnum z d).natAbs ≤ z.natAbs := by
  unfold qnum
  split
  · simp
  · rw [Int.natAbs_ediv_of_dvd (Int.ofNat_dvd_left.2 (Nat.gcd_dvd_left _ _))]
    exact Nat.div_le_self _ _
theorem qden_le (z : Int) (d : Nat) : qden z d ≤ max 1 d := by
  unfold qden
  split
  · omega
  · have := Nat.div_le_self d (Nat.gcd z.natAbs d); omega
theorem qden_ne (z : Int) (d : Nat) : qden z d ≠ 0 := by
  unfold qden
  split
  · decide
  · rename_i h
    have := Nat.div_pos (Nat.le_of_dvd (by omega) (Nat.gcd_dvd_right z.natAbs d)) (Nat.gcd_pos_of_pos_right _ (by omega))
    omega
theorem qnum_len {n : Bool} {l : List Nat} (h : Ok l) (d : Nat) : (zlim (qnum (zval n l) d)).length ≤ l.length := by
  refine limbs_length_le (Nat.lt_of_le_of_lt (qnum_abs _ d) ?_)
  rw [zval_abs]; exact val_lt h
theorem qden_len {m : List Nat} (h : Ok m) (z : Int) : (limbs (qden z (val m))).length ≤ m.length + 1 := by
  refine limbs_length_le (Nat.lt_of_le_of_lt (qden_le z _) ?_)
  have h1 := val_lt h
  have h2 : 0 < 4294967296 ^ m.length := Nat.pow_pos (by decide)
  rw [Nat.pow_succ]
  generalize 4294967296 ^ m.length = P at *
  omega

theorem ofV_pos {q : Nat} (hq : IsP q) {N : Int} {D x y : Nat} (ex : N % (q : Int) = x) (ey : (D : Int) % (q : Int) = y) (h0 : y ≠ 0) : ofV N D q = ((x * (if y = 0 then 0 else y ^ (q - 2) % q) % q : Nat) : Int) := by
  have hy : (D : Int) % (q : Int) ≠ 0 := by rw [ey]; omega
  unfold ofV
  rw [if_pos ⟨isP_of hq, hy⟩]
  unfold mulP
  rw [if_pos (isP_of hq), invP_nat (isP_of hq) ey hq.1, ex]
  have h2 := hq.1
  rw [if_neg h0]
  have : (((y ^ (q - 2) % q : Nat) : Int)) % (q : Int) = ((y ^ (q - 2) % q : Nat) : Int) := by
    rw [← Int.natCast_emod, Nat.mod_mod]
  rw [this]; norm_cast

set_option maxRecDepth 100000 in
set_option maxHeartbeats 2000000 in
theorem prime_of {v : Value} {n : Bool} {l d : List Nat} {w : World} (h : SeesQ w v n l d) (hl : l.length ≤ 1000) (hd : d.length ≤ 1000) (p : Int) (h1 : -9223372036854775808 ≤ p) (h2 : p < 9223372036854775808) :
    Calls Try.prog 9 #[v, .int .i64 p] w fun e w' => IsOf w (qnum (zval n l) (val d)) (qden (zval n l) (val d)) p e w' := by
  have HI := hid (prime_is p h1 h2)
  have HOK1 := hid (show Ok l from by obtain ⟨_, _, _, h1, _⟩ := h; exact h1.ok)
  have HOK2 := hid (show Ok d from by obtain ⟨_, _, _, _, h1⟩ := h; exact h1.ok)
  have hlN := qnum_len (n := n) HOK1.out (val d)
  have hlD := qden_len HOK2.out (zval n l)
  obtain ⟨ao, ac, bo, bc, rfl⟩ := id h.form
  obtain ⟨w0, hw0⟩ : ∃ x, x = w.alloc (.cells #[.bool n, .slice ao l.length ac, .slice bo d.length bc] 26) := ⟨_, rfl⟩
  have hb0 : Below w.heap.size w w0 := by rw [hw0]; exact (Below.refl _ w).alloc (Nat.le_refl _) _
  have hx0 : Blk w0 w.heap.size #[.bool n, .slice ao l.length ac, .slice bo d.length bc] := by rw [hw0]; exact Blk.new ..
  have HP0 := hid (h.below hb0)
  have HB0 := hid hb0; have HX0 := hid hx0; have HW := hid hw0.symm
  obtain ⟨g, hg⟩ : ∃ g, g = w.heap.size := ⟨_, rfl⟩
  rw [← hg] at HX0
  have HG := hid hg.symm
  obtain ⟨N, hN⟩ : ∃ N, qnum (zval n l) (val d) = N := ⟨_, rfl⟩
  obtain ⟨D, hD⟩ : ∃ D, qden (zval n l) (val d) = D := ⟨_, rfl⟩
  rw [hN] at hlN
  rw [hD] at hlD
  rw [hN, hD]
  clear hb0 hx0 hw0 hg h h1 h2
  go_enter Try.func9, Try.ntmps9
  go_wp2_with fail
  rw [HW.out, HG.out]
  refine (HI.out _).mono ?_
  cases hp : isP p with
  | false =>
    have HZ : Hid (ofV N D p = 0 ∧ ofE D p = 50) := by show _ ∧ _; simp [ofV, ofE, hp]
    rintro e w1 ⟨rfl, hb1⟩
    have HB1 := hid (HB0.out.trans (hb1.mono HB0.out.size))
    clear hb1 hp hN hD HP0
    go_wp2_with fail
    go_ret2
    exact ⟨by rw [HZ.out.1, HZ.out.2]; rfl, HB1.out⟩
  | true =>
  obtain ⟨q, rfl, hq⟩ := isP_true hp
  have hq2 := hq.1
  have hq3 := hq.2.1
  have HQ := hid hq
  clear hq hp HI
  rintro e w1 ⟨rfl, hb1⟩
  have HB1 := hid (HB0.out.trans (hb1.mono HB0.out.size)); have HX1 := hid (HX0.out.below hb1); have HP1 := hid (HP0.out.below hb1)
  clear hb1 HB0 HX0 HP0 HW
  have HC := hid (fr_plain HP1.out (by omega) (by omega))
  rw [hN, hD] at HC
  clear hN hD
  obtain ⟨c0, c1, c2, f0, f1, f2⟩ := HX1.out.open3
  go_wp2_with fail
  refine HC.out.mono ?_
  rintro e w2 ⟨v2, rfl, hq2, hb2⟩
  have HB2 := hid (HB1.out.trans (hb2.mono HB1.out.size)); have HX2 := hid (HX1.out.below hb2)
  obtain ⟨co, cc, eo, ec, rfl⟩ := hq2.form
  obtain ⟨ws, hws, hqs, hbs, k0, k1, k2⟩ := store3 HB2.out (by rw [HG.out]; exact Nat.le_refl _) HX2.out hq2
  have hys : Blk ws g #[.bool (zneg N), .slice co (zlim N).length cc, .slice eo (limbs D).length ec] := by rw [← hws]; exact st3_blk HX2.out _ _ _
  have HYs := hid hys; have HBs := hid hbs; have HWs := hid hws
  obtain ⟨ms, us, e2, hms, hus⟩ := hqs
  simp only [Value.agg.injEq, Array.mk.injEq, List.cons.injEq, and_true, true_and] at e2
  obtain ⟨e3, e4⟩ := e2
  subst e3; subst e4
  have HMs := hid hms; have HUs := hid hus
  clear c0 c1 c2 f0 f1 f2 hws hbs hq2 hb2 hys hms hus HC k0 k1 k2 HB1 HX1 HP1
  have HNs := hid (show SeesZ ws (.agg #[.bool (zneg N), .slice co (zlim N).length cc]) (zneg N) (zlim N) from ⟨_, rfl, HMs.out⟩)
  have HDs := hid (show SeesZ ws (.agg #[.bool false, .slice eo (limbs D).length ec]) false (limbs D) from ⟨_, rfl, HUs.out⟩)
  obtain ⟨c0, c1, c2, f0, f1, f2⟩ := HX2.out.open3
  have hlt := HX2.out.lt
  have hzN := zval_plain N
  have hzD : zval false (limbs D) = (D : Int) := by rw [zval_false, val_limbs]
  have HzN := hid hzN; have HzD := hid hzD
  clear hzN hzD
  generalize hnb : zneg N = nb at *
  generalize hlb : zlim N = lb at *
  generalize hld : limbs D = ld at *
  have HL3 := hid hld
  clear hnb hlb hld
  go_wp2_with fail
  rw [HWs.out]
  clear c0 c1 c2 f0 f1 f2 hlt HWs HX2 HB2
  obtain ⟨d0, d1, d2, j0, j1, j2⟩ := HYs.out.open3
  have hltS := HYs.out.lt
  have HR1 := hid (prime_wholeResidue HDs.out (by omega) q (by omega) hq3)
  rw [HzD.out] at HR1
  obtain ⟨y, ey, hy⟩ := emod_natAbs_small (D : Int) q (by omega) hq3
  obtain ⟨x, ex, hx⟩ := emod_natAbs_small N q (by omega) hq3
  rw [ey] at HR1
  have EX := hid ex; have EY := hid ey
  clear ex ey
  go_wp2_with fail
  refine HR1.out.mono ?_
  rintro e w5 ⟨rfl, hb5⟩
  have HB5 := hid (HBs.out.trans (hb5.mono HBs.out.size)); have HX5 := hid (HYs.out.below hb5); have HN5 := hid (HNs.out.below hb5)
  clear hb5 HR1 d0 d1 d2 j0 j1 j2 hltS HBs HYs HNs HDs HMs HUs
  obtain ⟨d0, d1, d2, j0, j1, j2⟩ := HX5.out.open3
  have hlt5 := HX5.out.lt
  by_cases hy0 : y = 0
  · subst hy0
    have HZ : Hid (ofV N D q = 0 ∧ ofE D q = 30) := by
      have := EY.out
      show _ ∧ _; simp [ofV, ofE, isP_of HQ.out, this]
    go_wp2_with fail
    go_ret2
    exact ⟨by rw [HZ.out.1, HZ.out.2]; rfl, HB5.out⟩
  · have hy1 : ((y : Int) == 0) = false := by simpa using hy0
    have HZ : Hid (ofV N D q = ((x * (if y = 0 then 0 else y ^ (q - 2) % q) % q : Nat) : Int) ∧ ofE D q = 0) := by
      refine ⟨ofV_pos HQ.out EX.out EY.out hy0, ?_⟩
      have := EY.out
      unfold ofE; rw [if_pos (isP_of HQ.out), if_neg (by rw [this]; omega)]
    have HR2 := hid (prime_wholeResidue HN5.out (by omega) q (by omega) hq3)
    rw [HzN.out, EX.out] at HR2
    have HV := hid (prime_inverse y q (by omega) hq2 hq3)
    obtain ⟨E, hE⟩ : ∃ E, (if y = 0 then 0 else y ^ (q - 2) % q) = E := ⟨_, rfl⟩
    have hEq : E < q := by rw [← hE]; split; omega; exact Nat.mod_lt _ (by omega)
    rw [hE] at HZ HV
    have HM := hid (prime_product x E q (by omega) (by omega) (by omega) hq3)
    obtain ⟨R, hR⟩ : ∃ R, x * E % q = R := ⟨_, rfl⟩
    rw [hR] at HM HZ
    clear hE hR
    go_wp2_with fail
    refine HR2.out.mono ?_
    rintro e w6 ⟨rfl, hb6⟩
    have HB6 := hid (HB5.out.trans (hb6.mono HB5.out.size))
    clear hb6
    go_wp2_with fail
    refine (HV.out _).mono ?_
    rintro e w7 ⟨rfl, hb7⟩
    have HB7 := hid (HB6.out.trans (hb7.mono HB6.out.size))
    clear hb7
    go_wp2_with fail
    refine (HM.out _).mono ?_
    rintro e w8 ⟨rfl, hb8⟩
    have HB8 := hid (HB7.out.trans (hb8.mono HB7.out.size))
    clear hb8
    go_wp2_with fail
    go_ret2
    exact ⟨by rw [HZ.out.1, HZ.out.2]; rfl, HB8.out⟩

set_option maxRecDepth 100000 in
set_option maxHeartbeats 2000000 in
theorem ref5_of {v : Value} {n : Bool} {l d : List Nat} {w : World} (h : SeesQ w v n l d) (hl : l.length ≤ 1000) (hd : d.length ≤ 1000) (p : Int) (h1 : -9223372036854775808 ≤ p) (h2 : p < 9223372036854775808) :
    Calls Try.prog 10 #[v, .int .i64 p] w fun e w' => IsOf w (qnum (zval n l) (val d)) (qden (zval n l) (val d)) p e w' := by
  have HOK1 := hid (show Ok l from by obtain ⟨_, _, _, h1, _⟩ := h; exact h1.ok)
  have HOK2 := hid (show Ok d from by obtain ⟨_, _, _, _, h1⟩ := h; exact h1.ok)
  have hlN := qnum_len (n := n) HOK1.out (val d)
  have hlD := qden_len HOK2.out (zval n l)
  obtain ⟨ao, ac, bo, bc, rfl⟩ := id h.form
  obtain ⟨w0, hw0⟩ : ∃ x, x = w.alloc (.cells #[.bool n, .slice ao l.length ac, .slice bo d.length bc] 26) := ⟨_, rfl⟩
  have hb0 : Below w.heap.size w w0 := by rw [hw0]; exact (Below.refl _ w).alloc (Nat.le_refl _) _
  have hx0 : Blk w0 w.heap.size #[.bool n, .slice ao l.length ac, .slice bo d.length bc] := by rw [hw0]; exact Blk.new ..
  have HP0 := hid (h.below hb0)
  have HB0 := hid hb0; have HX0 := hid hx0; have HW := hid hw0.symm
  obtain ⟨g, hg⟩ : ∃ g, g = w.heap.size := ⟨_, rfl⟩
  rw [← hg] at HX0
  have HG := hid hg.symm
  obtain ⟨N, hN⟩ : ∃ N, qnum (zval n l) (val d) = N := ⟨_, rfl⟩
  obtain ⟨D, hD⟩ : ∃ D, qden (zval n l) (val d) = D := ⟨_, rfl⟩
  rw [hN] at hlN
  rw [hD] at hlD
  rw [hN, hD]
  have HINV := hid (fun (a : Int) => ref5_inv a p h1 h2)
  have HMOD : Hid (∀ (w : World) (v : Value) (n : Bool) (l : List Nat), SeesZ w v n l → l.length ≤ 100000 → Calls Try.prog 8 #[v, .int .i64 p] w fun e w' => IsMod w (zval n l) p e w') := fun w v n l h hl => ref5_mod h hl p h1 h2
  clear hb0 hx0 hw0 hg h h1 h2
  obtain ⟨c0, c1, c2, f0, f1, f2⟩ := HX0.out.open3
  go_enter Try.func10, Try.ntmps10
  go_wp2_with fail
  rw [HW.out, HG.out]
  clear HW
  have HC := hid (ref_plainQ HP0.out (by omega) (by omega))
  rw [hN, hD] at HC
  clear hN hD
  refine HC.out.mono ?_
  rintro e w2 ⟨v2, rfl, hq2, hb2⟩
  have HB2 := hid (HB0.out.trans (hb2.mono HB0.out.size)); have HX2 := hid (HX0.out.below hb2)
  obtain ⟨co, cc, eo, ec, rfl⟩ := hq2.form
  obtain ⟨ws, hws, hqs, hbs, k0, k1, k2⟩ := store3 HB2.out (by rw [HG.out]; exact Nat.le_refl _) HX2.out hq2
  have hys : Blk ws g #[.bool (zneg N), .slice co (zlim N).length cc, .slice eo (limbs D).length ec] := by rw [← hws]; exact st3_blk HX2.out _ _ _
  have HYs := hid hys; have HBs := hid hbs; have HWs := hid hws
  obtain ⟨ms, us, e2, hms, hus⟩ := hqs
  simp only [Value.agg.injEq, Array.mk.injEq, List.cons.injEq, and_true, true_and] at e2
  obtain ⟨e3, e4⟩ := e2
  subst e3; subst e4
  have HMs := hid hms; have HUs := hid hus
  clear c0 c1 c2 f0 f1 f2 hws hbs hq2 hb2 hys hms hus HC k0 k1 k2 HB0 HX0 HP0
  have HNs := hid (show SeesZ ws (.agg #[.bool (zneg N), .slice co (zlim N).length cc]) (zneg N) (zlim N) from ⟨_, rfl, HMs.out⟩)
  have HDs := hid (show SeesZ ws (.agg #[.bool false, .slice eo (limbs D).length ec]) false (limbs D) from ⟨_, rfl, HUs.out⟩)
  obtain ⟨c0, c1, c2, f0, f1, f2⟩ := HX2.out.open3
  have hlt := HX2.out.lt
  have hzN := zval_plain N
  have hzD : zval false (limbs D) = (D : Int) := by rw [zval_false, val_limbs]
  have HzN := hid hzN; have HzD := hid hzD
  clear hzN hzD
  generalize hnb : zneg N = nb at *
  generalize hlb : zlim N = lb at *
  generalize hld : limbs D = ld at *
  have HL3 := hid hld
  clear hnb hlb hld
  go_wp2_with fail
  rw [HWs.out]
  clear c0 c1 c2 f0 f1 f2 hlt HWs HX2 HB2
  obtain ⟨d0, d1, d2, j0, j1, j2⟩ := HYs.out.open3
  have hltS := HYs.out.lt
  have HM1 := hid (HMOD.out _ _ _ _ HNs.out (by omega))
  simp only [IsMod] at HM1
  rw [HzN.out] at HM1
  go_wp2_with fail
  refine HM1.out.mono ?_
  rintro e w5 ⟨rfl, hb5⟩
  have HB5 := hid (HBs.out.trans (hb5.mono HBs.out.size)); have HX5 := hid (HYs.out.below hb5); have HU5 := hid (HUs.out.below hb5)
  clear hb5 HM1 d0 d1 d2 j0 j1 j2 hltS HBs HYs HNs HDs HMs HUs
  obtain ⟨d0, d1, d2, j0, j1, j2⟩ := HX5.out.open3
  have hlt5 := HX5.out.lt
  cases hp : isP p with
  | false =>
    have HZ : Hid (ofV N D p = 0 ∧ ofE D p = 50) := by show _ ∧ _; simp [ofV, ofE, hp]
    have z1 : modP N p = 0 := by simp [modP, hp]
    have z2 : errP p = 50 := by simp [errP, hp]
    clear hp
    go_wp2_with fail
    go_ret2
    exact ⟨by rw [HZ.out.1, HZ.out.2]; rfl, HB5.out⟩
  | true =>
  obtain ⟨q, rfl, hq⟩ := isP_true hp
  have hq2 := hq.1
  have hq3 := hq.2.1
  have HQ := hid hq
  obtain ⟨y, ey, hy⟩ := emod_natAbs_small (D : Int) q (by omega) hq3
  obtain ⟨x, ex, hx⟩ := emod_natAbs_small N q (by omega) hq3
  have z1 : modP N q = (x : Int) := by simp [modP, hp, ex]
  have z2 : errP q = 0 := by simp [errP, hp]
  have HMK := hid (ref_make' (w := w5) false D (m := .slice eo ld.length ec) (by rw [HL3.out]; exact HU5.out) (by rw [HL3.out]; omega) (D : Int) rfl)
  have EX := hid ex; have EY := hid ey
  clear ex ey hp hq
  go_wp2_with fail
  refine HMK.out.mono ?_
  rintro e w6 ⟨v6, rfl, hz6, hb6⟩
  have HM2 := hid (HMOD.out _ _ _ _ hz6.sees (by
    have : zlim (D : Int) = ld := by rw [← HL3.out]; rfl
    rw [this]; omega))
  simp only [IsMod] at HM2
  rw [zval_plain, show modP (D : Int) q = (y : Int) from by simp [modP, isP_of HQ.out, EY.out], z2] at HM2
  obtain ⟨so, sc, rfl⟩ := hz6.form
  have HB6 := hid (HB5.out.trans (hb6.mono HB5.out.size))
  clear hz6 hb6 HMK z1 z2 d0 d1 d2 j0 j1 j2
  go_wp2_with fail
  refine HM2.out.mono ?_
  rintro e w7 ⟨rfl, hb7⟩
  have HB7 := hid (HB6.out.trans (hb7.mono HB6.out.size))
  clear hb7 HM2
  by_cases hy0 : y = 0
  · subst hy0
    have HZ : Hid (ofV N D q = 0 ∧ ofE D q = 30) := by
      have := EY.out
      show _ ∧ _; simp [ofV, ofE, isP_of HQ.out, this]
    go_wp2_with fail
    go_ret2
    exact ⟨by rw [HZ.out.1, HZ.out.2]; rfl, HB7.out⟩
  · have hy1 : ((y : Int) == 0) = false := by simpa using hy0
    have HZ : Hid (ofV N D q = ((x * (if y = 0 then 0 else y ^ (q - 2) % q) % q : Nat) : Int) ∧ ofE D q = 0) := by
      refine ⟨ofV_pos HQ.out EX.out EY.out hy0, ?_⟩
      have := EY.out
      unfold ofE; rw [if_pos (isP_of HQ.out), if_neg (by rw [this]; omega)]
    have HV := hid (HINV.out (y : Int))
    rw [invP_nat (a := (y : Int)) (isP_of HQ.out) (show (y : Int) % (q : Int) = (y : Int) from Int.emod_eq_of_lt (by omega) (by omega)) hq2] at HV
    obtain ⟨E, hE⟩ : ∃ E, (if y = 0 then 0 else y ^ (q - 2) % q) = E := ⟨_, rfl⟩
    have hEq : E < q := by rw [← hE]; split; omega; exact Nat.mod_lt _ (by omega)
    rw [hE] at HZ HV
    have hf := prod_fits (show x < 2147483648 by omega) (show E < 2147483648 by omega)
    have HM := hid (fun w => ref_rest ((x * E : Nat) : Int) q (by omega) (by omega) w)
    have e3 : ((x * E : Nat) : Int) % (q : Int) = ((x * E % q : Nat) : Int) := by norm_cast
    rw [e3] at HM
    have ws2 : (x : Int) * (E : Int) = ((x * E : Nat) : Int) := (Int.natCast_mul x E).symm
    obtain ⟨R, hR⟩ : ∃ R, x * E % q = R := ⟨_, rfl⟩
    rw [hR] at HM HZ
    obtain ⟨S, hS⟩ : ∃ S, x * E = S := ⟨_, rfl⟩
    rw [hS] at HM ws2 hf
    have ws3 : IntKind.i64.wrap (S : Int) = (S : Int) := by rw [IntKind.wrap_i64]; omega
    clear hE hR hS e3
    go_wp2_with fail
    refine (HV.out _).mono ?_
    rintro e w8 ⟨rfl, hb8⟩
    have HB8 := hid (HB7.out.trans (hb8.mono HB7.out.size))
    clear hb8
    go_wp2_with fail
    refine (HM.out _).mono ?_
    rintro e w9 ⟨rfl, hb9⟩
    have HB9 := hid (HB8.out.trans (hb9.mono HB8.out.size))
    clear hb9
    go_wp2_with fail
    go_ret2
    exact ⟨by rw [HZ.out.1, HZ.out.2]; rfl, HB9.out⟩
end Go.Proofs.Ytcogldhjkjiodaa
