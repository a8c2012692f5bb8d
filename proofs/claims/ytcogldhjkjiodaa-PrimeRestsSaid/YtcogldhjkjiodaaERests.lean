/- For all whole numbers a and b and the prime that is picked for p: if both have 20 limbs at most, the rest of their sum is the sum of their rests, and that of their product the product. Conditions: none. -/
import Derived.Test.YtcogldhjkjiodaaPm2
import Derived.Test.YtcogldhjkjiodaaPr6
import Derived.Test.YtcogldhjkjiodaaKL
import Derived.Test.YtcogldhjkjiodaaKW
import Derived.Test.YtcogldhjkjiodaaKB
import Derived.HandedShaped
set_option linter.unusedVariables false
set_option linter.unusedSimpArgs false
namespace Go.Proofs.Ytcogldhjkjiodaa.primeRests
open Go.ChangeShapes Go.WideShapes Go.ChangeAt Go.RowKit

theorem len_of {z : Int} {N : Nat} (h : z.natAbs < 4294967296 ^ N) : (zlim z).length ≤ N := limbs_length_le h
theorem sum_small {n k : Bool} {l m : List Nat} (hl : Ok l) (hm : Ok m) (h1 : l.length ≤ 20) (h2 : m.length ≤ 20) : (zlim (zval n l + zval k m)).length ≤ 21 := by
  refine len_of ?_
  have a1 := val_lt hl
  have a2 := val_lt hm
  have b1 : 4294967296 ^ l.length ≤ 4294967296 ^ 20 := Nat.pow_le_pow_right (by decide) h1
  have b2 : 4294967296 ^ m.length ≤ 4294967296 ^ 20 := Nat.pow_le_pow_right (by decide) h2
  have c1 := zval_abs n l
  have c2 := zval_abs k m
  obtain ⟨B, hB⟩ : ∃ B, B = 4294967296 ^ 20 := ⟨_, rfl⟩
  have e : 4294967296 ^ 21 = B * 4294967296 := by rw [hB]
  rw [e]
  rw [← hB] at b1 b2
  generalize 4294967296 ^ l.length = p1 at *
  generalize 4294967296 ^ m.length = p2 at *
  clear hB e
  omega
theorem prod_small {n k : Bool} {l m : List Nat} (hl : Ok l) (hm : Ok m) (h1 : l.length ≤ 20) (h2 : m.length ≤ 20) : (zlim (zval n l * zval k m)).length ≤ 40 := by
  refine len_of ?_
  rw [Int.natAbs_mul, zval_abs, zval_abs]
  have a1 := Nat.lt_of_lt_of_le (val_lt hl) (Nat.pow_le_pow_right (by decide : 0 < 4294967296) h1)
  have a2 := Nat.lt_of_lt_of_le (val_lt hm) (Nat.pow_le_pow_right (by decide : 0 < 4294967296) h2)
  calc val l * val m < 4294967296 ^ 20 * 4294967296 ^ 20 := Nat.mul_lt_mul'' a1 a2
    _ = 4294967296 ^ 40 := by rw [← Nat.pow_add]

theorem modP_of {q : Nat} (hq : IsP q) (z : Int) : modP z q = z % q := by simp [modP, isP_of hq]
theorem errP_of {q : Nat} (hq : IsP q) : errP q = 0 := by simp [errP, isP_of hq]
theorem add_rests {q : Nat} (hq : IsP q) (x y : Int) : addP (x % q) (y % q) q = (x + y) % q := by rw [addP_eq hq, ← Int.add_emod]
theorem mul_rests {q : Nat} (hq : IsP q) (x y : Int) : mulP (x % q) (y % q) q = (x * y) % q := by rw [mulP_eq hq, ← Int.mul_emod]

set_option maxRecDepth 100000 in
set_option maxHeartbeats 4000000 in
theorem walk {va vb : Value} {na nb : Bool} {la lb : List Nat} {p : Int} {w : World} (ha : SeesZ w va na la) (hla : la.length ≤ 35184372087808) (hb : SeesZ w vb nb lb) (hlb : lb.length ≤ 35184372087808) (hp : (Lit.int .i64 p).wf = true) :
    Calls Try.prog 4 #[va, vb, .int .i64 p] w fun e w' => e = .returned (.bool true) ∧ Below w.heap.size w w' := by
  obtain ⟨p1, p2⟩ := int_bounds5 hp
  have C0 := hid awake5
  have CP := hid (law_pick p p1 p2)
  obtain ⟨ma, rfl, hma⟩ := ha
  obtain ⟨mb, rfl, hmb⟩ := hb
  have HMA := hid hma; have HMB := hid hmb
  obtain ⟨ao, ca, rfl, -, -, -, -, -⟩ := hma
  obtain ⟨bo, cb, rfl, -, -, -, -, -⟩ := hmb
  obtain ⟨y, gA, gB, hy, b, e1, e2, xA, xB⟩ := two_boxes w (.bool na) (.slice ao la.length ca) (.bool nb) (.slice bo lb.length cb) 24
  have HY := hid hy.symm; have E1 := hid e1.symm; have E2 := hid e2.symm
  have XA := hid xA; have XB := hid xB
  have HBel := hid b
  have HA : Hid (SeesZ y (.agg #[.bool na, .slice ao la.length ca]) na la) := hid ⟨_, rfl, HMA.out.below b⟩
  have HB : Hid (SeesZ y (.agg #[.bool nb, .slice bo lb.length cb]) nb lb) := hid ⟨_, rfl, HMB.out.below b⟩
  have HOKA := hid HMA.out.ok; have HOKB := hid HMB.out.ok
  clear hy e1 e2 xA xB b HMA HMB hp p1 p2
  go_enter Try.func4, Try.ntmps4
  go_wp2_with fail
  rw [HY.out, E2.out, E1.out]
  clear HY E1 E2
  refine (C0.out _).mono ?_
  rintro e w0 ⟨rfl, hb0⟩
  have N1 := hid (XA.out.below hb0); have N2 := hid (XB.out.below hb0); have N3 := hid (HA.out.below hb0); have N4 := hid (HB.out.below hb0); have N5 := hid (HBel.out.trans (hb0.mono HBel.out.size))
  clear XA XB HA HB HBel hb0
  have XA := N1; have XB := N2; have HA := N3; have HB := N4; have HBel := N5
  clear N1 N2 N3 N4 N5
  go_wp2_with fail
  refine (CP.out _).mono ?_
  rintro e w1 ⟨q, rfl, hq, hb1⟩
  have N1 := hid (XA.out.below hb1); have N2 := hid (XB.out.below hb1); have N3 := hid (HA.out.below hb1); have N4 := hid (HB.out.below hb1); have N5 := hid (HBel.out.trans (hb1.mono HBel.out.size))
  clear XA XB HA HB HBel hb1
  have XA := N1; have XB := N2; have HA := N3; have HB := N4; have HBel := N5
  clear N1 N2 N3 N4 N5
  have HQ := hid hq
  have q1 : -9223372036854775808 ≤ (q : Int) := by omega
  have q2 : (q : Int) < 9223372036854775808 := by have := hq.2.1; omega
  have HM : Hid (∀ (w : World) (v : Value) (n : Bool) (l : List Nat), SeesZ w v n l → l.length ≤ 100 → Calls Try.prog 7 #[v, .int .i64 q] w fun e w' => e = .returned (.tuple #[.int .i64 (zval n l % (q : Int)), .int .i64 0]) ∧ Below w.heap.size w w') := fun w v n l h hl => by
    have := prime_mod h (by omega) (q : Int) q1 q2
    simp only [IsMod] at this
    rwa [modP_of hq, errP_of hq] at this
  have DA := hid (fun x y => prime_add x y (q : Int) q1 q2)
  have DM := hid (fun x y => prime_mul x y (q : Int) q1 q2)
  clear hq q1 q2
  by_cases la20 : la.length > 20
  · obtain ⟨a0, a1, -, -⟩ := XA.out.cells
    obtain ⟨b0, b1, -, -⟩ := XB.out.cells
    go_wp2_with fail
    go_ret
    exact ⟨rfl, HBel.out⟩
  by_cases lb20 : lb.length > 20
  · obtain ⟨a0, a1, -, -⟩ := XA.out.cells
    obtain ⟨b0, b1, -, -⟩ := XB.out.cells
    go_wp2_with fail
    go_ret
    exact ⟨rfl, HBel.out⟩
  have hsl := sum_small (n := na) (k := nb) HOKA.out HOKB.out (by omega) (by omega)
  have hpl := prod_small (n := na) (k := nb) HOKA.out HOKB.out (by omega) (by omega)
  have HSL := hid hsl; have HPL := hid hpl
  have S1 := hid (add_rests HQ.out (zval na la) (zval nb lb)); have S2 := hid (mul_rests HQ.out (zval na la) (zval nb lb))
  obtain ⟨A, hA⟩ : ∃ z, zval na la = z := ⟨_, rfl⟩
  obtain ⟨B, hB⟩ : ∃ z, zval nb lb = z := ⟨_, rfl⟩
  have KA := hid hA; have KB := hid hB
  rw [hA, hB] at HSL HPL S1 S2
  clear hsl hpl hA hB
  have M1 := hid (HM.out _ _ _ _ HA.out (by omega))
  rw [KA.out] at M1
  obtain ⟨a0, a1, -, -⟩ := XA.out.cells
  obtain ⟨b0, b1, -, -⟩ := XB.out.cells
  go_wp2_with fail
  refine M1.out.mono ?_
  rintro e w2 ⟨rfl, hb2⟩
  clear M1 a0 a1 b0 b1
  have N1 := hid (XA.out.below hb2); have N2 := hid (XB.out.below hb2); have N3 := hid (HA.out.below hb2); have N4 := hid (HB.out.below hb2); have N5 := hid (HBel.out.trans (hb2.mono HBel.out.size))
  clear XA XB HA HB HBel hb2
  have XA := N1; have XB := N2; have HA := N3; have HB := N4; have HBel := N5
  clear N1 N2 N3 N4 N5
  have M2 := hid (HM.out _ _ _ _ HB.out (by omega))
  rw [KB.out] at M2
  obtain ⟨a0, a1, -, -⟩ := XA.out.cells
  obtain ⟨b0, b1, -, -⟩ := XB.out.cells
  go_wp2_with fail
  refine M2.out.mono ?_
  rintro e w3 ⟨rfl, hb3⟩
  clear M2 a0 a1 b0 b1
  have N1 := hid (XA.out.below hb3); have N2 := hid (XB.out.below hb3); have N3 := hid (HA.out.below hb3); have N4 := hid (HB.out.below hb3); have N5 := hid (HBel.out.trans (hb3.mono HBel.out.size))
  clear XA XB HA HB HBel hb3
  have XA := N1; have XB := N2; have HA := N3; have HB := N4; have HBel := N5
  clear N1 N2 N3 N4 N5
  have M3 := hid (ref_addZ HA.out HB.out (by omega) (by omega))
  rw [KA.out, KB.out] at M3
  obtain ⟨a0, a1, -, -⟩ := XA.out.cells
  obtain ⟨b0, b1, -, -⟩ := XB.out.cells
  go_wp2_with fail
  refine M3.out.mono ?_
  rintro e w4 ⟨v4, rfl, hz4, hb4⟩
  clear M3 a0 a1 b0 b1
  have N1 := hid (XA.out.below hb4); have N2 := hid (XB.out.below hb4); have N3 := hid (HA.out.below hb4); have N4 := hid (HB.out.below hb4); have N5 := hid (HBel.out.trans (hb4.mono HBel.out.size))
  clear XA XB HA HB HBel hb4
  have XA := N1; have XB := N2; have HA := N3; have HB := N4; have HBel := N5
  clear N1 N2 N3 N4 N5
  have M4 := hid (HM.out _ _ _ _ hz4.sees (by have := HSL.out; omega))
  rw [zval_plain] at M4
  obtain ⟨so, sc, rfl⟩ := hz4.form
  clear hz4
  obtain ⟨a0, a1, -, -⟩ := XA.out.cells
  obtain ⟨b0, b1, -, -⟩ := XB.out.cells
  go_wp2_with fail
  refine M4.out.mono ?_
  rintro e w5 ⟨rfl, hb5⟩
  clear M4 a0 a1 b0 b1
  have N1 := hid (XA.out.below hb5); have N2 := hid (XB.out.below hb5); have N3 := hid (HA.out.below hb5); have N4 := hid (HB.out.below hb5); have N5 := hid (HBel.out.trans (hb5.mono HBel.out.size))
  clear XA XB HA HB HBel hb5
  have XA := N1; have XB := N2; have HA := N3; have HB := N4; have HBel := N5
  clear N1 N2 N3 N4 N5
  have M5 := hid (ref_mulZ HA.out HB.out (by omega) (by omega))
  rw [KA.out, KB.out] at M5
  obtain ⟨a0, a1, -, -⟩ := XA.out.cells
  obtain ⟨b0, b1, -, -⟩ := XB.out.cells
  go_wp2_with fail
  refine M5.out.mono ?_
  rintro e w6 ⟨v6, rfl, hz6, hb6⟩
  clear M5 a0 a1 b0 b1
  have N1 := hid (XA.out.below hb6); have N2 := hid (XB.out.below hb6); have N3 := hid (HA.out.below hb6); have N4 := hid (HB.out.below hb6); have N5 := hid (HBel.out.trans (hb6.mono HBel.out.size))
  clear XA XB HA HB HBel hb6
  have XA := N1; have XB := N2; have HA := N3; have HB := N4; have HBel := N5
  clear N1 N2 N3 N4 N5
  have M6 := hid (HM.out _ _ _ _ hz6.sees (by have := HPL.out; omega))
  rw [zval_plain] at M6
  obtain ⟨to, tc, rfl⟩ := hz6.form
  clear hz6
  obtain ⟨a0, a1, -, -⟩ := XA.out.cells
  obtain ⟨b0, b1, -, -⟩ := XB.out.cells
  go_wp2_with fail
  refine M6.out.mono ?_
  rintro e w7 ⟨rfl, hb7⟩
  clear M6 a0 a1 b0 b1
  have N1 := hid (XA.out.below hb7); have N2 := hid (XB.out.below hb7); have N3 := hid (HA.out.below hb7); have N4 := hid (HB.out.below hb7); have N5 := hid (HBel.out.trans (hb7.mono HBel.out.size))
  clear XA XB HA HB HBel hb7
  have XA := N1; have XB := N2; have HA := N3; have HB := N4; have HBel := N5
  clear N1 N2 N3 N4 N5
  have M7 := hid (DA.out (A % (q : Int)) (B % (q : Int))); have M8 := hid (DM.out (A % (q : Int)) (B % (q : Int)))
  rw [S1.out] at M7; rw [S2.out] at M8
  clear S1 S2 DA DM HM KA KB
  generalize (A + B) % (q : Int) = SS at *
  generalize A * B % (q : Int) = PP at *
  generalize A % (q : Int) = RA at *
  generalize B % (q : Int) = RB at *
  go_wp2_with fail
  refine (M7.out _).mono ?_
  rintro e w8 ⟨rfl, hb8⟩
  have H8 := hid (HBel.out.trans (hb8.mono HBel.out.size))
  clear hb8
  go_wp2_with fail
  refine (M8.out _).mono ?_
  rintro e w9 ⟨rfl, hb9⟩
  have H9 := hid (H8.out.trans (hb9.mono H8.out.size))
  clear hb9
  go_wp2_with fail
  go_ret
  exact ⟨rfl, H9.out⟩

/-! ### The row's step -/
set_option maxRecDepth 100000 in
theorem contract (H : Type) (enc : TypeId × Value → H) (W : World) (base : Nat) (args : Array Value) (ds gs : List (DataW H)) (before : List MemPlace)
    (hval0 : ∀ (j : Nat) t v, Try.f4.params[j]? = some t → args[j]? = some v → Value.okWide Try.prog W .any base t v)
    (hW : DataW.Whole enc Try.prog Try.f4.params.toList Rows.primeRestsSpec.vars false W args.toList ds gs before)
    (hsz0 : (DataW.weightsEach Try.prog (Try.f4.params.toList ++ Rows.primeRestsSpec.plain.varTypes Try.prog) (ds ++ gs)).all (· ≤ reachBytes) = true) :
    Calls Try.prog 4 args W fun e W' => ∃ v, e = .returned v ∧ Rows.primeRestsSpec.post enc Try.prog Try.f4 false true false false W args v W' := by
  have hW' := hW
  obtain ⟨p, q, hA0, hV, rfl, hfz, hnd⟩ := hW
  have hA : DataW.TrodAll enc Try.prog W 0 (fun _ => true) true Try.f4.params.toList args.toList ds p := hA0
  have hval : ∀ (j : Nat) t v, Try.f4.params[j]? = some t → args[j]? = some v → Value.okWide Try.prog W .any base t v := hval0
  have hsz : (DataW.weightsEach Try.prog (Try.f4.params.toList ++ []) (ds ++ gs)).all (· ≤ reachBytes) = true := hsz0
  rw [Try.params4] at hA hval hsz
  obtain ⟨v0, vs0, d0, ds0, p0, q0, hargs, rfl, rfl, h0, r0⟩ := trodAll_cons hA
  obtain ⟨v1, vs1, d1, ds1, p1, q1, rfl, rfl, rfl, h1, r1⟩ := trodAll_cons r0
  obtain ⟨v2, vs2, d2, ds2, p2, q2, rfl, rfl, rfl, h2, r2⟩ := trodAll_cons r1
  obtain ⟨rfl, rfl, rfl⟩ := trodAll_nil r2
  obtain rfl : args = #[v0, v1, v2] := by cases args; simp_all
  obtain ⟨rfl, rfl⟩ := trodVars_none hV
  obtain ⟨g0, l0, s0, b0⟩ := open_z (hval 0 24 v0 rfl rfl) h0 (fun parts e => by subst e; exact sized_part hsz (j := 0) (t := 24) rfl rfl)
  obtain ⟨g1, l1, s1, b1⟩ := open_z (hval 1 24 v1 rfl rfl) h1 (fun parts e => by subst e; exact sized_part hsz (j := 1) (t := 24) rfl rfl)
  have k2 := h2
  obtain ⟨n2, rfl, rfl, rfl, wn2⟩ := open_int Try.underlying3 (hval 2 3 v2 rfl rfl) h2
  refine (walk s0 b0 s1 b1 wn2).mono fun e W' ⟨he, hb⟩ => ?_
  subst he
  exact ⟨_, rfl, _, _, _, _, _, _, hW', trodAll_cons_mk (shut_bool Try.underlying4 _) trodAll_mk0, trodAll_cons_mk (Below.trod laidOut (by kernel_rfl) (of_decide_eq_true (by kernel_rfl)) h0 hb (fun x hx => by first | cases hx; done | (have := hW'.lt x (by simp [hx]); simpa using this))) (trodAll_cons_mk (Below.trod laidOut (by kernel_rfl) (of_decide_eq_true (by kernel_rfl)) h1 hb (fun x hx => by first | cases hx; done | (have := hW'.lt x (by simp [hx]); simpa using this))) (trodAll_cons_mk (Below.trod laidOut (by kernel_rfl) (of_decide_eq_true (by kernel_rfl)) k2 hb (fun x hx => by first | cases hx; done | (have := hW'.lt x (by simp [hx]); simpa using this))) (trodAll_mk0))), rfl, hb.frame _, fun h => by cases h⟩

set_option maxRecDepth 100000 in
theorem lifted (os : Os) (started : os.Started) (H : Type) (enc : TypeId × Value → H) :
    ReturnsInHanded {} Try.checked os 4 .any (Rows.primeRestsSpec.pre6 enc Try.prog Try.f4 Rows.primeRestsRow.domain false) (Rows.primeRestsSpec.post enc Try.prog Try.f4 false true false false) := by
  refine returnsInHanded_of_change_shaped (C := Try.checked) own started (by kernel_rfl) Try.func4
    (ChangeSpec.witness6 (enc := enc) (C := Try.checked) false ⟨#[], #[.agg #[.bool false, .slice none 0 0], .agg #[.bool false, .slice none 0 0], .int .i64 0], []⟩ 8 (by kernel_rfl) (by kernel_rfl) (by kernel_rfl) (by kernel_rfl)) ?_
  intro W base args ds gs before hval0 hW _ hsz _ _
  exact contract H enc W base args ds gs before hval0 hW hsz

theorem holds : Rows.PrimeRestsSaid :=
  OpenClaim.holds_of_wide 4 Try.f4 rfl rfl rfl rfl rfl rfl rfl ⟨rfl, rfl, rfl, rfl, rfl⟩ rfl rfl rfl rfl rfl (by kernel_rfl) Try.func4 (by kernel_rfl)
    (of_decide_eq_true (by kernel_rfl)) (by unfold Func.isWrapper; first | (rw [if_pos (by decide +kernel)]; kernel_rfl) | (rw [if_neg (by decide +kernel)]; exact ⟨rfl, rfl⟩))
    (fun os started H enc _ => lifted os started H enc)
end Go.Proofs.Ytcogldhjkjiodaa.primeRests
