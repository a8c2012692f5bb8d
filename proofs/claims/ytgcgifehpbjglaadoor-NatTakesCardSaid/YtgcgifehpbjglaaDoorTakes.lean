/- primroselaw01.NatTakes answers true for every two lists of limbs that may be in memory: what was added can be taken away; of two numbers just one can be taken from the other one, unless they are the same. No condition beyond the row's own (the listed tables of the library are as its text lays them). -/
import Derived.Test.YtgcgifehpbjglaaDoorVal
set_option linter.unusedVariables false
set_option linter.unusedSimpArgs false
namespace Go.Proofs.YtgcgifehpbjglaaDoor.natTakes
open Go.ChangeShapes Go.WideShapes Go.ChangeAt Go.RowKit

set_option maxRecDepth 100000 in
set_option maxHeartbeats 4000000 in
theorem walk_lt {va vb : Value} {l m : List Nat} {w : World} (ha : Sees w va l) (hl : l.length ≤ 35184372087808) (hb : Sees w vb m) (hm : m.length ≤ 35184372087808) (hc : val l < val m) :
    Calls Tryd.prog 14 #[va, vb] w fun e w' => e = .returned (.bool true) ∧ Below w.heap.size w w' := by
  have hsum := sum_length ha.ok hb.ok 35184372087808 hl hm
  have HC := hid hc
  clear hc
  have HA := hid ha; have HB := hid hb
  clear ha hb
  go_enter Tryd.func14, Tryd.ntmps14
  go_wp2_with fail
  refine (awake_any _).mono ?_
  rintro e w1 ⟨rfl, hb⟩
  have HBx := hid (hb)
  have HBel := HBx
  clear HBx
  replace HA := hid (HA.out.below hb)
  replace HB := hid (HB.out.below hb)
  clear hb
  go_wp2_with fail
  refine (nat_add' HA.out HB.out (by omega) (by omega)).mono ?_
  rintro e w2 ⟨v2, rfl, hs, hb⟩
  have HBx := hid (step_below HBel.out hb)
  clear HBel
  have HBel := HBx
  clear HBx
  replace HA := hid (HA.out.below hb)
  replace HB := hid (HB.out.below hb)
  clear hb
  have HS := hid hs
  clear hs
  go_wp2_with fail
  refine (nat_sub_ok' HS.out HB.out (by omega) (by rw [val_limbs]; omega)).mono ?_
  rw [val_limbs, Nat.add_sub_cancel]
  rintro e w3 ⟨v3, rfl, hd, hb⟩
  have HBx := hid (step_below HBel.out hb)
  clear HBel
  have HBel := HBx
  clear HBx
  replace HA := hid (HA.out.below hb)
  replace HB := hid (HB.out.below hb)
  clear hb
  clear HS
  have HD := hid hd
  clear hd
  go_wp2_with fail
  refine (nat_sub_no' HA.out HB.out HC.out).mono ?_
  rintro e w4 ⟨rfl, hb⟩
  have HBx := hid (step_below HBel.out hb)
  clear HBel
  have HBel := HBx
  clear HBx
  replace HA := hid (HA.out.below hb)
  replace HB := hid (HB.out.below hb)
  replace HD := hid (HD.out.below hb)
  clear hb
  go_wp2_with fail
  refine (nat_sub_ok' HB.out HA.out (by omega) (Nat.le_of_lt HC.out)).mono ?_
  rintro e w5 ⟨v5, rfl, hy, hb⟩
  have HBx := hid (step_below HBel.out hb)
  clear HBel
  have HBel := HBx
  clear HBx
  replace HA := hid (HA.out.below hb)
  replace HB := hid (HB.out.below hb)
  replace HD := hid (HD.out.below hb)
  clear hb
  clear hy
  go_wp2_with fail
  refine (nat_cmp' HA.out HB.out).mono ?_
  rw [cmpI_lt HC.out]
  rintro e w6 ⟨rfl, hb⟩
  have HBx := hid (step_below HBel.out hb)
  clear HBel
  have HBel := HBx
  clear HBx
  replace HA := hid (HA.out.below hb)
  replace HB := hid (HB.out.below hb)
  replace HD := hid (HD.out.below hb)
  clear hb
  go_wp2_with fail
  refine (nat_plain' HA.out (by omega)).mono ?_
  rintro e w7 ⟨v7, rfl, hp, hb⟩
  have HBx := hid (step_below HBel.out hb)
  clear HBel
  have HBel := HBx
  clear HBx
  replace HA := hid (HA.out.below hb)
  replace HB := hid (HB.out.below hb)
  replace HD := hid (HD.out.below hb)
  clear hb
  have HP := hid hp
  clear hp
  go_wp2_with fail
  refine (law_same _ _ _ _ HD.out HP.out).mono ?_
  rintro e w8 ⟨rfl, hb⟩
  have HBx := hid (step_below HBel.out hb)
  clear HBel
  have HBel := HBx
  clear HBx
  replace HA := hid (HA.out.below hb)
  replace HB := hid (HB.out.below hb)
  clear hb
  clear HD HP
  go_wp2_with fail
  refine (nat_cmp' HB.out HA.out).mono ?_
  rw [cmpI_gt HC.out]
  rintro e w9 ⟨rfl, hb⟩
  have HBx := hid (step_below HBel.out hb)
  clear HBel
  have HBel := HBx
  clear HBx
  replace HA := hid (HA.out.below hb)
  replace HB := hid (HB.out.below hb)
  clear hb
  go_wp2
  go_ret
  exact ⟨rfl, HBel.out⟩

set_option maxRecDepth 100000 in
set_option maxHeartbeats 4000000 in
theorem walk_gt {va vb : Value} {l m : List Nat} {w : World} (ha : Sees w va l) (hl : l.length ≤ 35184372087808) (hb : Sees w vb m) (hm : m.length ≤ 35184372087808) (hc : val m < val l) :
    Calls Tryd.prog 14 #[va, vb] w fun e w' => e = .returned (.bool true) ∧ Below w.heap.size w w' := by
  have hsum := sum_length ha.ok hb.ok 35184372087808 hl hm
  have HC := hid hc
  clear hc
  have HA := hid ha; have HB := hid hb
  clear ha hb
  go_enter Tryd.func14, Tryd.ntmps14
  go_wp2_with fail
  refine (awake_any _).mono ?_
  rintro e w1 ⟨rfl, hb⟩
  have HBx := hid (hb)
  have HBel := HBx
  clear HBx
  replace HA := hid (HA.out.below hb)
  replace HB := hid (HB.out.below hb)
  clear hb
  go_wp2_with fail
  refine (nat_add' HA.out HB.out (by omega) (by omega)).mono ?_
  rintro e w2 ⟨v2, rfl, hs, hb⟩
  have HBx := hid (step_below HBel.out hb)
  clear HBel
  have HBel := HBx
  clear HBx
  replace HA := hid (HA.out.below hb)
  replace HB := hid (HB.out.below hb)
  clear hb
  have HS := hid hs
  clear hs
  go_wp2_with fail
  refine (nat_sub_ok' HS.out HB.out (by omega) (by rw [val_limbs]; omega)).mono ?_
  rw [val_limbs, Nat.add_sub_cancel]
  rintro e w3 ⟨v3, rfl, hd, hb⟩
  have HBx := hid (step_below HBel.out hb)
  clear HBel
  have HBel := HBx
  clear HBx
  replace HA := hid (HA.out.below hb)
  replace HB := hid (HB.out.below hb)
  clear hb
  clear HS
  have HD := hid hd
  clear hd
  go_wp2_with fail
  refine (nat_sub_ok' HA.out HB.out (by omega) (Nat.le_of_lt HC.out)).mono ?_
  rintro e w4 ⟨v4, rfl, hx, hb⟩
  have HBx := hid (step_below HBel.out hb)
  clear HBel
  have HBel := HBx
  clear HBx
  replace HA := hid (HA.out.below hb)
  replace HB := hid (HB.out.below hb)
  replace HD := hid (HD.out.below hb)
  clear hb
  have HX := hid hx
  clear hx
  go_wp2_with fail
  refine (nat_sub_no' HB.out HA.out HC.out).mono ?_
  rintro e w5 ⟨rfl, hb⟩
  have HBx := hid (step_below HBel.out hb)
  clear HBel
  have HBel := HBx
  clear HBx
  replace HA := hid (HA.out.below hb)
  replace HB := hid (HB.out.below hb)
  replace HD := hid (HD.out.below hb)
  replace HX := hid (HX.out.below hb)
  clear hb
  go_wp2_with fail
  refine (nat_cmp' HA.out HB.out).mono ?_
  rw [cmpI_gt HC.out]
  rintro e w6 ⟨rfl, hb⟩
  have HBx := hid (step_below HBel.out hb)
  clear HBel
  have HBel := HBx
  clear HBx
  replace HA := hid (HA.out.below hb)
  replace HB := hid (HB.out.below hb)
  replace HD := hid (HD.out.below hb)
  replace HX := hid (HX.out.below hb)
  clear hb
  go_wp2_with fail
  refine (nat_plain' HA.out (by omega)).mono ?_
  rintro e w7 ⟨v7, rfl, hp, hb⟩
  have HBx := hid (step_below HBel.out hb)
  clear HBel
  have HBel := HBx
  clear HBx
  replace HA := hid (HA.out.below hb)
  replace HB := hid (HB.out.below hb)
  replace HD := hid (HD.out.below hb)
  replace HX := hid (HX.out.below hb)
  clear hb
  have HP := hid hp
  clear hp
  go_wp2_with fail
  refine (law_same _ _ _ _ HD.out HP.out).mono ?_
  rintro e w8 ⟨rfl, hb⟩
  have HBx := hid (step_below HBel.out hb)
  clear HBel
  have HBel := HBx
  clear HBx
  replace HA := hid (HA.out.below hb)
  replace HB := hid (HB.out.below hb)
  replace HX := hid (HX.out.below hb)
  clear hb
  clear HD HP
  go_wp2_with fail
  refine (nat_cmp' HB.out HA.out).mono ?_
  rw [cmpI_lt HC.out]
  rintro e w9 ⟨rfl, hb⟩
  have HBx := hid (step_below HBel.out hb)
  clear HBel
  have HBel := HBx
  clear HBx
  replace HA := hid (HA.out.below hb)
  replace HB := hid (HB.out.below hb)
  replace HX := hid (HX.out.below hb)
  clear hb
  have hxl : (limbs (val l - val m)).length ≤ 35184372087808 := sub_length HA.out.ok _ hl _
  go_wp2_with fail
  refine (nat_add' HB.out HX.out (by omega) (by omega)).mono ?_
  rw [val_limbs, Nat.add_sub_of_le (Nat.le_of_lt HC.out)]
  rintro e w10 ⟨v10, rfl, hs, hb⟩
  have HBx := hid (step_below HBel.out hb)
  clear HBel
  have HBel := HBx
  clear HBx
  replace HA := hid (HA.out.below hb)
  replace HB := hid (HB.out.below hb)
  clear hb
  clear HX
  have HS := hid hs
  clear hs
  go_wp2_with fail
  refine (nat_plain' HA.out (by omega)).mono ?_
  rintro e w11 ⟨v11, rfl, hp, hb⟩
  have HBx := hid (step_below HBel.out hb)
  clear HBel
  have HBel := HBx
  clear HBx
  replace HA := hid (HA.out.below hb)
  replace HB := hid (HB.out.below hb)
  replace HS := hid (HS.out.below hb)
  clear hb
  have HP := hid hp
  clear hp
  go_wp2_with fail
  refine (law_same _ _ _ _ HS.out HP.out).mono ?_
  rintro e w12 ⟨rfl, hb⟩
  have HBx := hid (step_below HBel.out hb)
  clear HBel
  have HBel := HBx
  clear HBx
  replace HA := hid (HA.out.below hb)
  replace HB := hid (HB.out.below hb)
  clear hb
  clear HS HP
  go_wp2
  go_ret
  exact ⟨rfl, HBel.out⟩

set_option maxRecDepth 100000 in
set_option maxHeartbeats 4000000 in
theorem walk_eq {va vb : Value} {l m : List Nat} {w : World} (ha : Sees w va l) (hl : l.length ≤ 35184372087808) (hb : Sees w vb m) (hm : m.length ≤ 35184372087808) (hc : val l = val m) :
    Calls Tryd.prog 14 #[va, vb] w fun e w' => e = .returned (.bool true) ∧ Below w.heap.size w w' := by
  have hsum := sum_length ha.ok hb.ok 35184372087808 hl hm
  have HC := hid hc
  clear hc
  have HA := hid ha; have HB := hid hb
  clear ha hb
  go_enter Tryd.func14, Tryd.ntmps14
  go_wp2_with fail
  refine (awake_any _).mono ?_
  rintro e w1 ⟨rfl, hb⟩
  have HBx := hid (hb)
  have HBel := HBx
  clear HBx
  replace HA := hid (HA.out.below hb)
  replace HB := hid (HB.out.below hb)
  clear hb
  go_wp2_with fail
  refine (nat_add' HA.out HB.out (by omega) (by omega)).mono ?_
  rintro e w2 ⟨v2, rfl, hs, hb⟩
  have HBx := hid (step_below HBel.out hb)
  clear HBel
  have HBel := HBx
  clear HBx
  replace HA := hid (HA.out.below hb)
  replace HB := hid (HB.out.below hb)
  clear hb
  have HS := hid hs
  clear hs
  go_wp2_with fail
  refine (nat_sub_ok' HS.out HB.out (by omega) (by rw [val_limbs]; omega)).mono ?_
  rw [val_limbs, Nat.add_sub_cancel]
  rintro e w3 ⟨v3, rfl, hd, hb⟩
  have HBx := hid (step_below HBel.out hb)
  clear HBel
  have HBel := HBx
  clear HBx
  replace HA := hid (HA.out.below hb)
  replace HB := hid (HB.out.below hb)
  clear hb
  clear HS
  have HD := hid hd
  clear hd
  go_wp2_with fail
  refine (nat_sub_ok' HA.out HB.out (by omega) (Nat.le_of_eq HC.out.symm)).mono ?_
  rw [HC.out, Nat.sub_self, limbs_zero]
  rintro e w4 ⟨v4, rfl, hx, hb⟩
  obtain ⟨X, xc, rfl, -, -, -, -, -⟩ := hx
  simp only [List.length_nil]
  have HBx := hid (step_below HBel.out hb)
  clear HBel
  have HBel := HBx
  clear HBx
  replace HA := hid (HA.out.below hb)
  replace HB := hid (HB.out.below hb)
  replace HD := hid (HD.out.below hb)
  clear hb
  go_wp2_with fail
  refine (nat_sub_ok' HB.out HA.out (by omega) (Nat.le_of_eq HC.out)).mono ?_
  rw [HC.out, Nat.sub_self, limbs_zero]
  rintro e w5 ⟨v5, rfl, hy, hb⟩
  obtain ⟨Y, yc, rfl, -, -, -, -, -⟩ := hy
  simp only [List.length_nil]
  have HBx := hid (step_below HBel.out hb)
  clear HBel
  have HBel := HBx
  clear HBx
  replace HA := hid (HA.out.below hb)
  replace HB := hid (HB.out.below hb)
  replace HD := hid (HD.out.below hb)
  clear hb
  go_wp2_with fail
  refine (nat_cmp' HA.out HB.out).mono ?_
  rw [cmpI_eq HC.out]
  rintro e w6 ⟨rfl, hb⟩
  have HBx := hid (step_below HBel.out hb)
  clear HBel
  have HBel := HBx
  clear HBx
  replace HA := hid (HA.out.below hb)
  replace HB := hid (HB.out.below hb)
  replace HD := hid (HD.out.below hb)
  clear hb
  go_wp2_with fail
  refine (nat_plain' HA.out (by omega)).mono ?_
  rintro e w7 ⟨v7, rfl, hp, hb⟩
  have HBx := hid (step_below HBel.out hb)
  clear HBel
  have HBel := HBx
  clear HBx
  replace HA := hid (HA.out.below hb)
  replace HB := hid (HB.out.below hb)
  replace HD := hid (HD.out.below hb)
  clear hb
  have HP := hid hp
  clear hp
  go_wp2_with fail
  refine (law_same _ _ _ _ HD.out HP.out).mono ?_
  rintro e w8 ⟨rfl, hb⟩
  have HBx := hid (step_below HBel.out hb)
  clear HBel
  have HBel := HBx
  clear HBx
  replace HA := hid (HA.out.below hb)
  replace HB := hid (HB.out.below hb)
  clear hb
  clear HD HP
  go_wp2
  go_ret
  exact ⟨rfl, HBel.out⟩

theorem walk {va vb : Value} {l m : List Nat} {w : World} (ha : Sees w va l) (hl : l.length ≤ 35184372087808) (hb : Sees w vb m) (hm : m.length ≤ 35184372087808) :
    Calls Tryd.prog 14 #[va, vb] w fun e w' => e = .returned (.bool true) ∧ Below w.heap.size w w' := by
  rcases Nat.lt_trichotomy (val l) (val m) with h | h | h
  · exact walk_lt ha hl hb hm h
  · exact walk_eq ha hl hb hm h
  · exact walk_gt ha hl hb hm h

/-! ### The row's step and the card -/
theorem contract (H : Type) (enc : TypeId × Value → H) (W : World) (base : Nat) (args : Array Value) (ds gs : List (DataW H)) (before : List MemPlace)
    (hval0 : ∀ (j : Nat) t v, Tryd.f14.params[j]? = some t → args[j]? = some v → Value.okWide Tryd.prog W .any base t v)
    (hW : DataW.Whole enc Tryd.prog Tryd.f14.params.toList Rows.natTakesSpec.vars false W args.toList ds gs before)
    (hsz0 : (DataW.weightsEach Tryd.prog (Tryd.f14.params.toList ++ Rows.natTakesSpec.plain.varTypes Tryd.prog) (ds ++ gs)).all (· ≤ reachBytes) = true) :
    Calls Tryd.prog 14 args W fun e W' => ∃ v, e = .returned v ∧ Rows.natTakesSpec.post enc Tryd.prog Tryd.f14 false true false false W args v W' := by
  have hW' := hW
  obtain ⟨p, q, hA0, hV, rfl, hfz, hnd⟩ := hW
  have hA : DataW.TrodAll enc Tryd.prog W 0 (fun _ => true) true Tryd.f14.params.toList args.toList ds p := hA0
  have hval : ∀ (j : Nat) t v, Tryd.f14.params[j]? = some t → args[j]? = some v → Value.okWide Tryd.prog W .any base t v := hval0
  have hsz : (DataW.weightsEach Tryd.prog (Tryd.f14.params.toList ++ []) (ds ++ gs)).all (· ≤ reachBytes) = true := hsz0
  rw [Tryd.params14] at hA hval hsz
  obtain ⟨v0, vs0, d0, ds0, p0, q0, hargs, rfl, rfl, h0, r0⟩ := trodAll_cons hA
  obtain ⟨v1, vs1, d1, ds1, p1, q1, rfl, rfl, rfl, h1, r1⟩ := trodAll_cons r0
  obtain ⟨rfl, rfl, rfl⟩ := trodAll_nil r1
  obtain rfl : args = #[v0, v1] := by cases args; simp_all
  obtain ⟨rfl, rfl⟩ := trodVars_none hV
  obtain ⟨l0, s0, b0⟩ := open_limbs (hval 0 22 v0 rfl rfl) h0 (fun elems spare e => by subst e; exact sized_slice hsz (j := 0) (t := 22) (e := 47) rfl rfl Tryd.underlying22)
  obtain ⟨l1, s1, b1⟩ := open_limbs (hval 1 22 v1 rfl rfl) h1 (fun elems spare e => by subst e; exact sized_slice hsz (j := 1) (t := 22) (e := 47) rfl rfl Tryd.underlying22)
  refine (walk s0 b0 s1 b1).mono fun e W' ⟨he, hb⟩ => ?_
  subst he
  exact ⟨_, rfl, _, _, _, _, _, _, hW', trodAll_cons_mk (shut_bool Tryd.underlying4 _) trodAll_mk0, trodAll_cons_mk (Below.trod laidOut (by kernel_rfl) (of_decide_eq_true (by kernel_rfl)) h0 hb (fun x hx => by have := hW'.lt x (by simp [hx]); simpa using this)) (trodAll_cons_mk (Below.trod laidOut (by kernel_rfl) (of_decide_eq_true (by kernel_rfl)) h1 hb (fun x hx => by have := hW'.lt x (by simp [hx]); simpa using this)) (trodAll_mk0)), rfl, hb.frame _, fun h => by cases h⟩

set_option maxRecDepth 100000 in
theorem lifted (os : Os) (started : os.Started) (H : Type) (enc : TypeId × Value → H) :
    ReturnsInHanded {} Tryd.checked os 14 .any (fun w args => (Rows.natTakesSpec.pre enc Tryd.prog Tryd.f14 [] false w args ∧ laidMetH Tryd.prog laidList w) ∧ sizedMet enc Tryd.prog Tryd.f14 (OpenSpec.ofChange Rows.natTakesSpec) false w args)
      (Rows.natTakesSpec.post enc Tryd.prog Tryd.f14 false true false false) := by
  refine returnsInHanded_of_change_and (C := Tryd.checked) (X := fun w _ => laidMetH Tryd.prog laidList w) (fun _ _ _ hh h => h.of_heap hh) own started (by kernel_rfl) Tryd.func14
    (ChangeSpec.witness_shaped (enc := enc) (C := Tryd.checked) (os := os) (X := fun w _ => laidMetH Tryd.prog laidList w) false (World.laidAll Tryd.prog os laidList) #[.slice none 0 0, .slice none 0 0] 8 (World.laidAll_os _ _ _)
      (World.shaped_of_ZipB (by kernel_rfl) (by kernel_rfl)) (by kernel_rfl) (by kernel_rfl) (by kernel_rfl) (laid_met os _)) ?_
  intro W base args ds gs before hval0 hW _ hsz _ _
  exact contract H enc W base args ds gs before hval0 hW hsz

theorem said : Rows.NatTakesSaid :=
  OpenClaim.holds_of_wide 14 Tryd.f14 rfl rfl rfl rfl rfl rfl rfl ⟨rfl, rfl, rfl, rfl, rfl⟩ rfl rfl rfl rfl rfl (by kernel_rfl) Tryd.func14 (by kernel_rfl)
    (of_decide_eq_true (by kernel_rfl)) (by unfold Func.isWrapper; first | (rw [if_pos (by decide +kernel)]; kernel_rfl) | (rw [if_neg (by decide +kernel)]; exact ⟨rfl, rfl⟩))
    (fun os started H enc _ => lifted os started H enc)

theorem plain (f : FuncId) (fn : Func) (hf : Tryd.pinned.checked.prog.funcNamed "primrose/primroselaw01.NatTakes" = some f) (hfn : Tryd.pinned.checked.prog.funcs[f]? = some fn) :
    false = Tryd.pinned.checked.prog.looks [] ∧ ∀ (j : Nat) t, fn.params[j]? = some t → Tryd.pinned.checked.prog.wantsStandIn t = false := by
  obtain rfl : f = 14 := Option.some.inj ((show Tryd.prog.funcNamed "primrose/primroselaw01.NatTakes" = some 14 by kernel_rfl).symm.trans hf) |>.symm
  obtain rfl : fn = Tryd.f14 := (Option.some.inj (Tryd.func14.symm.trans hfn)).symm
  refine ⟨by kernel_rfl, fun j t ht => ?_⟩
  rw [Tryd.params14] at ht
  have hm : t ∈ [22, 22] := by simpa using Array.mem_of_getElem? ht
  have hall : ([22, 22].all fun u => !Tryd.prog.wantsStandIn u) = true := by kernel_rfl
  exact (show Tryd.prog.wantsStandIn t = false by simpa using List.all_eq_true.1 hall t hm)

/-- THE CARD. -/
theorem card : Rows.NatTakesCardSaid :=
  Claim7.holds_tied_plain_at .later [] _ _ _ _ said (fun _ h => by cases h) (by kernel_rfl) (fun _ h => by cases h) natTakes_row_tie rfl ⟨rfl, rfl⟩ (by kernel_rfl) rfl plain (by kernel_rfl)
end Go.Proofs.YtgcgifehpbjglaaDoor.natTakes
