/- primroselaw01.NatHalves answers true for every list of limbs that may be in memory and every int: shifted up and down again a number is the same; by one place it is its double (of the first 100 limbs, at most 1000 places). No condition beyond the row's own (the listed tables of the library are as its text lays them). -/
import Derived.Test.YtgcgifehpbjglabDoorVal
import Derived.Test.YtgcgifehpbjglabDoorSame
import Derived.Test.YtgcgifehpbjglabDoorShift5
set_option linter.unusedVariables false
set_option linter.unusedSimpArgs false
namespace Go.Proofs.YtgcgifehpbjglabDoor.natHalves
open Go.ChangeShapes Go.WideShapes Go.ChangeAt Go.RowKit

theorem shift_back (V m : Nat) : shiftZ (V * 2 ^ m) (-(m : Int)) = V := by
  unfold shiftZ
  by_cases h : (0 : Int) ≤ -(m : Int)
  · obtain rfl : m = 0 := by omega
    rw [if_pos h]; simp
  · rw [if_neg h, Int.neg_neg, Int.toNat_natCast, Nat.mul_div_cancel _ (Nat.two_pow_pos m)]
theorem shift_up (V m : Nat) : shiftZ V (m : Int) = V * 2 ^ m := by
  unfold shiftZ
  rw [if_pos (by omega), Int.toNat_natCast]
theorem shift_one (V : Nat) : shiftZ V 1 = V + V := by
  have := shift_up V 1
  rw [show ((1 : Nat) : Int) = 1 from rfl] at this
  rw [this]; omega
theorem bits_up (V m : Nat) (h : 0 < V) : bitsN (V * 2 ^ m) = m + bitsN V := by
  have := bitsN_mul m 0 V h (Nat.two_pow_pos m)
  rw [Nat.zero_add, Nat.mul_comm] at this
  exact this
theorem bits_pos {V : Nat} (h : 0 < V) : 0 < bitsN V := by
  unfold bitsN; rw [if_neg (by omega)]; omega
theorem bits_zero : bitsN 0 = 0 := rfl
theorem pow_limbs_le (m k : Nat) (h : m ≤ 32 * k) : 2 ^ m ≤ 4294967296 ^ k := by
  rw [show (4294967296 : Nat) = 2 ^ 32 from rfl, ← Nat.pow_mul]
  exact Nat.pow_le_pow_right (by decide) h
theorem ret_bool {a b : Bool} (h : a = b) : Ending.returned (.bool a) = Ending.returned (.bool b) := by rw [h]

set_option maxRecDepth 100000 in
set_option maxHeartbeats 4000000 in
theorem walk_low {va : Value} {la : List Nat} {w : World} (ha : Sees w va la) (hla : la.length ≤ 35184372087808) (n : Int) (hn : n < 0) :
    Calls Tryd.prog 5 #[va, .int .i64 n] w fun e w' => e = .returned (.bool true) ∧ Below w.heap.size w w' := by
  have HA := hid ha
  clear ha
  go_enter Tryd.func5, Tryd.ntmps5
  go_wp2_with fail
  refine (awake_any _).mono ?_
  rintro e w1 ⟨rfl, hb⟩
  have HBx := hid (hb)
  have HBel := HBx
  clear HBx
  replace HA := hid (HA.out.below hb)
  clear hb
  have hka : (la.take 100).length ≤ 100 := by simp; omega
  go_wp2_with fail
  refine (law_short va la 100 _ HA.out (by omega)).mono ?_
  rintro e w' ⟨⟨sa, rfl, hs⟩, rfl⟩
  obtain ⟨pa, hp⟩ : ∃ p, p = la.take 100 := ⟨_, rfl⟩
  rw [← hp] at hs hka
  clear HA hp hla
  have HA := hid hs
  clear hs
  go_wp2
  go_ret
  exact ⟨rfl, HBel.out⟩

set_option maxRecDepth 100000 in
set_option maxHeartbeats 4000000 in
theorem walk_high {va : Value} {la : List Nat} {w : World} (ha : Sees w va la) (hla : la.length ≤ 35184372087808) (n : Int) (hn : 1000 < n) :
    Calls Tryd.prog 5 #[va, .int .i64 n] w fun e w' => e = .returned (.bool true) ∧ Below w.heap.size w w' := by
  have HA := hid ha
  clear ha
  have h0 : ¬ n < 0 := by omega
  go_enter Tryd.func5, Tryd.ntmps5
  go_wp2_with fail
  refine (awake_any _).mono ?_
  rintro e w1 ⟨rfl, hb⟩
  have HBx := hid (hb)
  have HBel := HBx
  clear HBx
  replace HA := hid (HA.out.below hb)
  clear hb
  have hka : (la.take 100).length ≤ 100 := by simp; omega
  go_wp2_with fail
  refine (law_short va la 100 _ HA.out (by omega)).mono ?_
  rintro e w' ⟨⟨sa, rfl, hs⟩, rfl⟩
  obtain ⟨pa, hp⟩ : ∃ p, p = la.take 100 := ⟨_, rfl⟩
  rw [← hp] at hs hka
  clear HA hp hla
  have HA := hid hs
  clear hs
  go_wp2
  go_ret
  exact ⟨rfl, HBel.out⟩

set_option maxRecDepth 100000 in
set_option maxHeartbeats 4000000 in
theorem walk_zero {va : Value} {la : List Nat} {w : World} (ha : Sees w va la) (hla : la.length ≤ 35184372087808) (m : Nat) (hm : m ≤ 1000) (hc : val (la.take 100) = 0) :
    Calls Tryd.prog 5 #[va, .int .i64 (m : Nat)] w fun e w' => e = .returned (.bool true) ∧ Below w.heap.size w w' := by
  have HA := hid ha
  clear ha
  have HC := hid hc
  clear hc
  go_enter Tryd.func5, Tryd.ntmps5
  go_wp2_with fail
  refine (awake_any _).mono ?_
  rintro e w1 ⟨rfl, hb⟩
  have HBx := hid (hb)
  have HBel := HBx
  clear HBx
  replace HA := hid (HA.out.below hb)
  clear hb
  have hka : (la.take 100).length ≤ 100 := by simp; omega
  go_wp2_with fail
  refine (law_short va la 100 _ HA.out (by omega)).mono ?_
  rintro e w' ⟨⟨sa, rfl, hs⟩, rfl⟩
  obtain ⟨pa, hp⟩ : ∃ p, p = la.take 100 := ⟨_, rfl⟩
  rw [← hp] at hs hka
  rw [← hp] at HC
  clear HA hp hla
  have HA := hid hs
  clear hs
  have hlu : (limbs (val pa * 2 ^ m)).length ≤ 132 := by
    apply limbs_length_le
    have h1 := Nat.lt_of_lt_of_le (val_lt HA.out.ok) (Nat.pow_le_pow_right (by decide) hka : 4294967296 ^ pa.length ≤ 4294967296 ^ 100)
    have h2 : 2 ^ m ≤ 4294967296 ^ 32 := pow_limbs_le m 32 (by omega)
    rw [show 132 = 100 + 32 from rfl, Nat.pow_add]
    exact Nat.lt_of_lt_of_le ((Nat.mul_lt_mul_right (Nat.two_pow_pos m)).2 h1) (Nat.mul_le_mul_left _ h2)
  go_wp2_with fail
  refine (nat_shift_ok (m : Int) HA.out (by omega) (by omega) (by omega)).mono ?_
  rw [shift_up]
  rintro e w2 ⟨v2, rfl, hs, hb⟩
  have HBx := hid (step_below HBel.out hb)
  clear HBel
  have HBel := HBx
  clear HBx
  replace HA := hid (HA.out.below hb)
  clear hb
  have HU := hid hs
  clear hs
  go_wp2_with fail
  refine (nat_shift_ok (-(m : Int)) HU.out (by omega) (by omega) (by omega)).mono ?_
  rw [val_limbs, shift_back]
  rintro e w3 ⟨v3, rfl, hs, hb⟩
  have HBx := hid (step_below HBel.out hb)
  clear HBel
  have HBel := HBx
  clear HBx
  replace HA := hid (HA.out.below hb)
  replace HU := hid (HU.out.below hb)
  clear hb
  have HD := hid hs
  clear hs
  go_wp2_with fail
  refine (nat_shift_ok 1 HA.out (by omega) (by omega) (by omega)).mono ?_
  rw [shift_one]
  rintro e w4 ⟨v4, rfl, hs, hb⟩
  have HBx := hid (step_below HBel.out hb)
  clear HBel
  have HBel := HBx
  clear HBx
  replace HA := hid (HA.out.below hb)
  replace HU := hid (HU.out.below hb)
  replace HD := hid (HD.out.below hb)
  clear hb
  have HE := hid hs
  clear hs
  go_wp2_with fail
  refine (nat_plain' HA.out (by omega)).mono ?_
  rintro e w5 ⟨v5, rfl, hs, hb⟩
  have HBx := hid (step_below HBel.out hb)
  clear HBel
  have HBel := HBx
  clear HBx
  replace HA := hid (HA.out.below hb)
  replace HU := hid (HU.out.below hb)
  replace HD := hid (HD.out.below hb)
  replace HE := hid (HE.out.below hb)
  clear hb
  have HP := hid hs
  clear hs
  go_wp2_with fail
  refine (law_same _ _ _ _ HD.out HP.out).mono ?_
  rintro e w6 ⟨rfl, hb⟩
  have HBx := hid (step_below HBel.out hb)
  clear HBel
  have HBel := HBx
  clear HBx
  replace HA := hid (HA.out.below hb)
  replace HU := hid (HU.out.below hb)
  replace HE := hid (HE.out.below hb)
  clear hb
  clear HD HP
  go_wp2_with fail
  refine (nat_add' HA.out HA.out (by omega) (by omega)).mono ?_
  rintro e w7 ⟨v6, rfl, hs, hb⟩
  have HBx := hid (step_below HBel.out hb)
  clear HBel
  have HBel := HBx
  clear HBx
  replace HA := hid (HA.out.below hb)
  replace HU := hid (HU.out.below hb)
  replace HE := hid (HE.out.below hb)
  clear hb
  have HS := hid hs
  clear hs
  go_wp2_with fail
  refine (law_same _ _ _ _ HE.out HS.out).mono ?_
  rintro e w8 ⟨rfl, hb⟩
  have HBx := hid (step_below HBel.out hb)
  clear HBel
  have HBel := HBx
  clear HBx
  replace HA := hid (HA.out.below hb)
  replace HU := hid (HU.out.below hb)
  clear hb
  clear HE HS
  go_wp2_with fail
  refine (nat_bits' HA.out).mono ?_
  rw [HC.out, bits_zero]
  rintro e w9 ⟨rfl, rfl⟩
  go_wp2_with fail
  refine (nat_bits' HU.out).mono ?_
  rw [val_limbs, HC.out, Nat.zero_mul, bits_zero]
  rintro e w10 ⟨rfl, rfl⟩
  go_wp2
  go_ret
  exact ⟨rfl, HBel.out⟩

set_option maxRecDepth 100000 in
set_option maxHeartbeats 4000000 in
theorem walk_pos {va : Value} {la : List Nat} {w : World} (ha : Sees w va la) (hla : la.length ≤ 35184372087808) (m : Nat) (hm : m ≤ 1000) (hc : 0 < val (la.take 100)) :
    Calls Tryd.prog 5 #[va, .int .i64 (m : Nat)] w fun e w' => e = .returned (.bool true) ∧ Below w.heap.size w w' := by
  have HA := hid ha
  clear ha
  have HC := hid hc
  clear hc
  go_enter Tryd.func5, Tryd.ntmps5
  go_wp2_with fail
  refine (awake_any _).mono ?_
  rintro e w1 ⟨rfl, hb⟩
  have HBx := hid (hb)
  have HBel := HBx
  clear HBx
  replace HA := hid (HA.out.below hb)
  clear hb
  have hka : (la.take 100).length ≤ 100 := by simp; omega
  go_wp2_with fail
  refine (law_short va la 100 _ HA.out (by omega)).mono ?_
  rintro e w' ⟨⟨sa, rfl, hs⟩, rfl⟩
  obtain ⟨pa, hp⟩ : ∃ p, p = la.take 100 := ⟨_, rfl⟩
  rw [← hp] at hs hka
  rw [← hp] at HC
  clear HA hp hla
  have HA := hid hs
  clear hs
  have hlu : (limbs (val pa * 2 ^ m)).length ≤ 132 := by
    apply limbs_length_le
    have h1 := Nat.lt_of_lt_of_le (val_lt HA.out.ok) (Nat.pow_le_pow_right (by decide) hka : 4294967296 ^ pa.length ≤ 4294967296 ^ 100)
    have h2 : 2 ^ m ≤ 4294967296 ^ 32 := pow_limbs_le m 32 (by omega)
    rw [show 132 = 100 + 32 from rfl, Nat.pow_add]
    exact Nat.lt_of_lt_of_le ((Nat.mul_lt_mul_right (Nat.two_pow_pos m)).2 h1) (Nat.mul_le_mul_left _ h2)
  go_wp2_with fail
  refine (nat_shift_ok (m : Int) HA.out (by omega) (by omega) (by omega)).mono ?_
  rw [shift_up]
  rintro e w2 ⟨v2, rfl, hs, hb⟩
  have HBx := hid (step_below HBel.out hb)
  clear HBel
  have HBel := HBx
  clear HBx
  replace HA := hid (HA.out.below hb)
  clear hb
  have HU := hid hs
  clear hs
  go_wp2_with fail
  refine (nat_shift_ok (-(m : Int)) HU.out (by omega) (by omega) (by omega)).mono ?_
  rw [val_limbs, shift_back]
  rintro e w3 ⟨v3, rfl, hs, hb⟩
  have HBx := hid (step_below HBel.out hb)
  clear HBel
  have HBel := HBx
  clear HBx
  replace HA := hid (HA.out.below hb)
  replace HU := hid (HU.out.below hb)
  clear hb
  have HD := hid hs
  clear hs
  go_wp2_with fail
  refine (nat_shift_ok 1 HA.out (by omega) (by omega) (by omega)).mono ?_
  rw [shift_one]
  rintro e w4 ⟨v4, rfl, hs, hb⟩
  have HBx := hid (step_below HBel.out hb)
  clear HBel
  have HBel := HBx
  clear HBx
  replace HA := hid (HA.out.below hb)
  replace HU := hid (HU.out.below hb)
  replace HD := hid (HD.out.below hb)
  clear hb
  have HE := hid hs
  clear hs
  go_wp2_with fail
  refine (nat_plain' HA.out (by omega)).mono ?_
  rintro e w5 ⟨v5, rfl, hs, hb⟩
  have HBx := hid (step_below HBel.out hb)
  clear HBel
  have HBel := HBx
  clear HBx
  replace HA := hid (HA.out.below hb)
  replace HU := hid (HU.out.below hb)
  replace HD := hid (HD.out.below hb)
  replace HE := hid (HE.out.below hb)
  clear hb
  have HP := hid hs
  clear hs
  go_wp2_with fail
  refine (law_same _ _ _ _ HD.out HP.out).mono ?_
  rintro e w6 ⟨rfl, hb⟩
  have HBx := hid (step_below HBel.out hb)
  clear HBel
  have HBel := HBx
  clear HBx
  replace HA := hid (HA.out.below hb)
  replace HU := hid (HU.out.below hb)
  replace HE := hid (HE.out.below hb)
  clear hb
  clear HD HP
  go_wp2_with fail
  refine (nat_add' HA.out HA.out (by omega) (by omega)).mono ?_
  rintro e w7 ⟨v6, rfl, hs, hb⟩
  have HBx := hid (step_below HBel.out hb)
  clear HBel
  have HBel := HBx
  clear HBx
  replace HA := hid (HA.out.below hb)
  replace HU := hid (HU.out.below hb)
  replace HE := hid (HE.out.below hb)
  clear hb
  have HS := hid hs
  clear hs
  go_wp2_with fail
  refine (law_same _ _ _ _ HE.out HS.out).mono ?_
  rintro e w8 ⟨rfl, hb⟩
  have HBx := hid (step_below HBel.out hb)
  clear HBel
  have HBel := HBx
  clear HBx
  replace HA := hid (HA.out.below hb)
  replace HU := hid (HU.out.below hb)
  clear hb
  clear HE HS
  obtain ⟨x, hx⟩ : ∃ x, x = bitsN (val pa) := ⟨_, rfl⟩
  have hx0 := bits_pos HC.out
  rw [← hx] at hx0
  obtain ⟨y, hy⟩ : ∃ y, y = m + x := ⟨_, rfl⟩
  have hyb := bits_up (val pa) m HC.out
  rw [← hx, ← hy] at hyb
  have HXB := hid hx.symm; have HYB := hid hyb
  have hxl : x ≤ 3200 := by
    rw [hx]
    have h3 := bitsN_limbs HC.out
    have h4 := bitsN_le ((limbs_ok (val pa)).getD ((limbs (val pa)).length - 1))
    have h5 := (limbs_last HC.out).1
    have h6 := (limbs_prefix HA.out.ok).2
    omega
  clear hx hyb
  go_wp2_with fail
  refine (nat_bits' HA.out).mono ?_
  rw [HXB.out]
  rintro e w9 ⟨rfl, rfl⟩
  go_wp2_with fail
  refine (nat_bits' HU.out).mono ?_
  rw [val_limbs, HYB.out]
  rintro e w10 ⟨rfl, rfl⟩
  go_wp2_with fail
  refine (nat_bits' HA.out).mono ?_
  rw [HXB.out]
  rintro e w11 ⟨rfl, rfl⟩
  go_wp2
  go_ret
  exact ⟨ret_bool (by simp [Int.add_comm]), HBel.out⟩

theorem int_bounds {n : Int} (h : (Lit.int .i64 n).wf = true) : -9223372036854775808 ≤ n ∧ n < 9223372036854775808 := by
  simp [Lit.wf, IntKind.min, IntKind.max, IntKind.signed, IntKind.bits] at h
  omega
theorem walk {va : Value} {la : List Nat} {w : World} (ha : Sees w va la) (hla : la.length ≤ 35184372087808) (n : Int) (wn : (Lit.int .i64 n).wf = true) :
    Calls Tryd.prog 5 #[va, .int .i64 n] w fun e w' => e = .returned (.bool true) ∧ Below w.heap.size w w' := by
  rcases Int.lt_or_le n 0 with h | h
  · exact walk_low ha hla n h
  · rcases Int.lt_or_le 1000 n with h2 | h2
    · exact walk_high ha hla n h2
    · obtain ⟨m, rfl⟩ := Int.eq_ofNat_of_zero_le h
      rcases Nat.eq_zero_or_pos (val (la.take 100)) with hv | hv
      · exact walk_zero ha hla m (by omega) hv
      · exact walk_pos ha hla m (by omega) hv

/-! ### The row's step and the card -/
theorem contract (H : Type) (enc : TypeId × Value → H) (W : World) (base : Nat) (args : Array Value) (ds gs : List (DataW H)) (before : List MemPlace)
    (hval0 : ∀ (j : Nat) t v, Tryd.f5.params[j]? = some t → args[j]? = some v → Value.okWide Tryd.prog W .any base t v)
    (hW : DataW.Whole enc Tryd.prog Tryd.f5.params.toList Rows.natHalvesSpec.vars false W args.toList ds gs before)
    (hsz0 : (DataW.weightsEach Tryd.prog (Tryd.f5.params.toList ++ Rows.natHalvesSpec.plain.varTypes Tryd.prog) (ds ++ gs)).all (· ≤ reachBytes) = true) :
    Calls Tryd.prog 5 args W fun e W' => ∃ v, e = .returned v ∧ Rows.natHalvesSpec.post enc Tryd.prog Tryd.f5 false true false false W args v W' := by
  have hW' := hW
  obtain ⟨p, q, hA0, hV, rfl, hfz, hnd⟩ := hW
  have hA : DataW.TrodAll enc Tryd.prog W 0 (fun _ => true) true Tryd.f5.params.toList args.toList ds p := hA0
  have hval : ∀ (j : Nat) t v, Tryd.f5.params[j]? = some t → args[j]? = some v → Value.okWide Tryd.prog W .any base t v := hval0
  have hsz : (DataW.weightsEach Tryd.prog (Tryd.f5.params.toList ++ []) (ds ++ gs)).all (· ≤ reachBytes) = true := hsz0
  rw [Tryd.params5] at hA hval hsz
  obtain ⟨v0, vs0, d0, ds0, p0, q0, hargs, rfl, rfl, h0, r0⟩ := trodAll_cons hA
  obtain ⟨v1, vs1, d1, ds1, p1, q1, rfl, rfl, rfl, h1, r1⟩ := trodAll_cons r0
  obtain ⟨rfl, rfl, rfl⟩ := trodAll_nil r1
  obtain rfl : args = #[v0, v1] := by cases args; simp_all
  obtain ⟨rfl, rfl⟩ := trodVars_none hV
  obtain ⟨l0, s0, b0⟩ := open_limbs (hval 0 22 v0 rfl rfl) h0 (fun elems spare e => by subst e; exact sized_slice hsz (j := 0) (t := 22) (e := 40) rfl rfl Tryd.underlying22)
  have k1 := h1
  obtain ⟨n1, rfl, rfl, rfl, wn1⟩ := open_int Tryd.underlying3 (hval 1 3 v1 rfl rfl) h1
  refine (walk s0 b0 n1 wn1).mono fun e W' ⟨he, hb⟩ => ?_
  subst he
  exact ⟨_, rfl, _, _, _, _, _, _, hW', trodAll_cons_mk (shut_bool Tryd.underlying4 _) trodAll_mk0, trodAll_cons_mk (Below.trod laidOut (by kernel_rfl) (of_decide_eq_true (by kernel_rfl)) h0 hb (fun x hx => by first | cases hx; done | (have := hW'.lt x (by simp [hx]); simpa using this))) (trodAll_cons_mk (Below.trod laidOut (by kernel_rfl) (of_decide_eq_true (by kernel_rfl)) k1 hb (fun x hx => by first | cases hx; done | (have := hW'.lt x (by simp [hx]); simpa using this))) (trodAll_mk0)), rfl, hb.frame _, fun h => by cases h⟩

set_option maxRecDepth 100000 in
theorem lifted (os : Os) (started : os.Started) (H : Type) (enc : TypeId × Value → H) :
    ReturnsInHanded {} Tryd.checked os 5 .any (fun w args => (Rows.natHalvesSpec.pre enc Tryd.prog Tryd.f5 [] false w args ∧ laidMetH Tryd.prog laidList w) ∧ sizedMet enc Tryd.prog Tryd.f5 (OpenSpec.ofChange Rows.natHalvesSpec) false w args)
      (Rows.natHalvesSpec.post enc Tryd.prog Tryd.f5 false true false false) := by
  refine returnsInHanded_of_change_and (C := Tryd.checked) (X := fun w _ => laidMetH Tryd.prog laidList w) (fun _ _ _ hh h => h.of_heap hh) own started (by kernel_rfl) Tryd.func5
    (ChangeSpec.witness_shaped (enc := enc) (C := Tryd.checked) (os := os) (X := fun w _ => laidMetH Tryd.prog laidList w) false (World.laidAll Tryd.prog os laidList) #[.slice none 0 0, .int .i64 0] 8 (World.laidAll_os _ _ _)
      (World.shaped_of_ZipB (by kernel_rfl) (by kernel_rfl)) (by kernel_rfl) (by kernel_rfl) (by kernel_rfl) (laid_met os _)) ?_
  intro W base args ds gs before hval0 hW _ hsz _ _
  exact contract H enc W base args ds gs before hval0 hW hsz

theorem said : Rows.NatHalvesSaid :=
  OpenClaim.holds_of_wide 5 Tryd.f5 rfl rfl rfl rfl rfl rfl rfl ⟨rfl, rfl, rfl, rfl, rfl⟩ rfl rfl rfl rfl rfl (by kernel_rfl) Tryd.func5 (by kernel_rfl)
    (of_decide_eq_true (by kernel_rfl)) (by unfold Func.isWrapper; first | (rw [if_pos (by decide +kernel)]; kernel_rfl) | (rw [if_neg (by decide +kernel)]; exact ⟨rfl, rfl⟩))
    (fun os started H enc _ => lifted os started H enc)

theorem plain (f : FuncId) (fn : Func) (hf : Tryd.pinned.checked.prog.funcNamed "primrose/primroselaw01.NatHalves" = some f) (hfn : Tryd.pinned.checked.prog.funcs[f]? = some fn) :
    false = Tryd.pinned.checked.prog.looks [] ∧ ∀ (j : Nat) t, fn.params[j]? = some t → Tryd.pinned.checked.prog.wantsStandIn t = false := by
  obtain rfl : f = 5 := Option.some.inj ((show Tryd.prog.funcNamed "primrose/primroselaw01.NatHalves" = some 5 by kernel_rfl).symm.trans hf) |>.symm
  obtain rfl : fn = Tryd.f5 := (Option.some.inj (Tryd.func5.symm.trans hfn)).symm
  refine ⟨by kernel_rfl, fun j t ht => ?_⟩
  rw [Tryd.params5] at ht
  have hm : t ∈ [22, 3] := by simpa using Array.mem_of_getElem? ht
  have hall : ([22, 3].all fun u => !Tryd.prog.wantsStandIn u) = true := by kernel_rfl
  exact (show Tryd.prog.wantsStandIn t = false by simpa using List.all_eq_true.1 hall t hm)

/-- THE CARD. -/
theorem card : Rows.NatHalvesCardSaid :=
  Claim7.holds_tied_plain_at .later [] _ _ _ _ said (fun _ h => by cases h) (by kernel_rfl) (fun _ h => by cases h) natHalves_row_tie rfl ⟨rfl, rfl⟩ (by kernel_rfl) rfl plain (by kernel_rfl)
end Go.Proofs.YtgcgifehpbjglabDoor.natHalves
