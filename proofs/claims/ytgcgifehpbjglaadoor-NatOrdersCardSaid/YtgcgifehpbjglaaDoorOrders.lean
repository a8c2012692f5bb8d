/- primroselaw01.NatOrders answers true for every three lists of limbs that may be in memory: sums and products may be taken in any order, and products of sums apart (of the first 100 limbs of each). No condition beyond the row's own (the listed tables of the library are as its text lays them). -/
import Derived.Test.YtgcgifehpbjglaaDoorVal
import Derived.Test.YtgcgifehpbjglaaDoorRefText
import Derived.Test.YtgcgifehpbjglaaDoorMul
set_option linter.unusedVariables false
set_option linter.unusedSimpArgs false
namespace Go.Proofs.YtgcgifehpbjglaaDoor.natOrders
open Go.ChangeShapes Go.WideShapes Go.ChangeAt Go.RowKit

set_option maxRecDepth 100000 in
set_option maxHeartbeats 4000000 in
theorem walk {va vb vc : Value} {la lb lc : List Nat} {w : World} (ha : Sees w va la) (hla : la.length ≤ 35184372087808) (hb0 : Sees w vb lb) (hlb : lb.length ≤ 35184372087808) (hc0 : Sees w vc lc) (hlc : lc.length ≤ 35184372087808) :
    Calls Tryd.prog 12 #[va, vb, vc] w fun e w' => e = .returned (.bool true) ∧ Below w.heap.size w w' := by
  have HA := hid ha; have HB := hid hb0; have HC := hid hc0
  clear ha hb0 hc0
  go_enter Tryd.func12, Tryd.ntmps12
  go_wp2_with fail
  refine (awake_any _).mono ?_
  rintro e w1 ⟨rfl, hb⟩
  have HBx := hid (hb)
  have HBel := HBx
  clear HBx
  replace HA := hid (HA.out.below hb)
  replace HB := hid (HB.out.below hb)
  replace HC := hid (HC.out.below hb)
  clear hb
  have hka : (la.take 100).length ≤ 100 := by simp; omega
  go_wp2_with fail
  refine (law_short va la 100 _ HA.out (by omega)).mono ?_
  rintro e w' ⟨⟨sa, rfl, hs⟩, rfl⟩
  obtain ⟨pa, hp⟩ : ∃ p, p = la.take 100 := ⟨_, rfl⟩
  rw [← hp] at hs hka
  clear HA hp
  have HA := hid hs
  clear hs
  have hkb : (lb.take 100).length ≤ 100 := by simp; omega
  go_wp2_with fail
  refine (law_short vb lb 100 _ HB.out (by omega)).mono ?_
  rintro e w' ⟨⟨sb, rfl, hs⟩, rfl⟩
  obtain ⟨pb, hp⟩ : ∃ p, p = lb.take 100 := ⟨_, rfl⟩
  rw [← hp] at hs hkb
  clear HB hp
  have HB := hid hs
  clear hs
  have hkc : (lc.take 100).length ≤ 100 := by simp; omega
  go_wp2_with fail
  refine (law_short vc lc 100 _ HC.out (by omega)).mono ?_
  rintro e w' ⟨⟨sc, rfl, hs⟩, rfl⟩
  obtain ⟨pc, hp⟩ : ∃ p, p = lc.take 100 := ⟨_, rfl⟩
  rw [← hp] at hs hkc
  clear HC hp
  have HC := hid hs
  clear hs
  clear hla hlb hlc
  have hab := sum_length HA.out.ok HB.out.ok 100 hka hkb
  have hbc := sum_length HB.out.ok HC.out.ok 100 hkb hkc
  have mab := mul_length HA.out.ok HB.out.ok 100 100 hka hkb
  have mbc := mul_length HB.out.ok HC.out.ok 100 100 hkb hkc
  have mac := mul_length HA.out.ok HC.out.ok 100 100 hka hkc
  go_wp2_with fail
  refine (nat_add' HA.out HB.out (by omega) (by omega)).mono ?_
  rintro e w2 ⟨vS1, rfl, hs, hb⟩
  have HBx := hid (step_below HBel.out hb)
  clear HBel
  have HBel := HBx
  clear HBx
  replace HA := hid (HA.out.below hb)
  replace HB := hid (HB.out.below hb)
  replace HC := hid (HC.out.below hb)
  clear hb
  have HS1 := hid hs
  clear hs
  go_wp2_with fail
  refine (nat_add' HB.out HA.out (by omega) (by omega)).mono ?_
  rw [Nat.add_comm (val pb) (val pa)]
  rintro e w3 ⟨vS2, rfl, hs, hb⟩
  have HBx := hid (step_below HBel.out hb)
  clear HBel
  have HBel := HBx
  clear HBx
  replace HA := hid (HA.out.below hb)
  replace HB := hid (HB.out.below hb)
  replace HC := hid (HC.out.below hb)
  replace HS1 := hid (HS1.out.below hb)
  clear hb
  have HS2 := hid hs
  clear hs
  go_wp2_with fail
  refine (law_same _ _ _ _ HS1.out HS2.out).mono ?_
  rintro e w4 ⟨rfl, hb⟩
  have HBx := hid (step_below HBel.out hb)
  clear HBel
  have HBel := HBx
  clear HBx
  replace HA := hid (HA.out.below hb)
  replace HB := hid (HB.out.below hb)
  replace HC := hid (HC.out.below hb)
  replace HS1 := hid (HS1.out.below hb)
  clear hb
  clear HS2
  go_wp2_with fail
  refine (nat_add' HS1.out HC.out (by omega) (by omega)).mono ?_
  rw [val_limbs]
  rintro e w5 ⟨vS3, rfl, hs, hb⟩
  have HBx := hid (step_below HBel.out hb)
  clear HBel
  have HBel := HBx
  clear HBx
  replace HA := hid (HA.out.below hb)
  replace HB := hid (HB.out.below hb)
  replace HC := hid (HC.out.below hb)
  replace HS1 := hid (HS1.out.below hb)
  clear hb
  have HS3 := hid hs
  clear hs
  go_wp2_with fail
  refine (nat_add' HB.out HC.out (by omega) (by omega)).mono ?_
  rintro e w6 ⟨vS4, rfl, hs, hb⟩
  have HBx := hid (step_below HBel.out hb)
  clear HBel
  have HBel := HBx
  clear HBx
  replace HA := hid (HA.out.below hb)
  replace HB := hid (HB.out.below hb)
  replace HC := hid (HC.out.below hb)
  replace HS1 := hid (HS1.out.below hb)
  replace HS3 := hid (HS3.out.below hb)
  clear hb
  have HS4 := hid hs
  clear hs
  go_wp2_with fail
  refine (nat_add' HA.out HS4.out (by omega) (by omega)).mono ?_
  rw [val_limbs, ← Nat.add_assoc]
  rintro e w7 ⟨vS5, rfl, hs, hb⟩
  have HBx := hid (step_below HBel.out hb)
  clear HBel
  have HBel := HBx
  clear HBx
  replace HA := hid (HA.out.below hb)
  replace HB := hid (HB.out.below hb)
  replace HC := hid (HC.out.below hb)
  replace HS1 := hid (HS1.out.below hb)
  replace HS3 := hid (HS3.out.below hb)
  clear hb
  clear HS4
  have HS5 := hid hs
  clear hs
  go_wp2_with fail
  refine (law_same _ _ _ _ HS3.out HS5.out).mono ?_
  rintro e w8 ⟨rfl, hb⟩
  have HBx := hid (step_below HBel.out hb)
  clear HBel
  have HBel := HBx
  clear HBx
  replace HA := hid (HA.out.below hb)
  replace HB := hid (HB.out.below hb)
  replace HC := hid (HC.out.below hb)
  replace HS1 := hid (HS1.out.below hb)
  clear hb
  clear HS3 HS5
  go_wp2_with fail
  refine (nat_mul' HA.out HB.out (by omega) (by omega)).mono ?_
  rintro e w9 ⟨vM1, rfl, hs, hb⟩
  have HBx := hid (step_below HBel.out hb)
  clear HBel
  have HBel := HBx
  clear HBx
  replace HA := hid (HA.out.below hb)
  replace HB := hid (HB.out.below hb)
  replace HC := hid (HC.out.below hb)
  replace HS1 := hid (HS1.out.below hb)
  clear hb
  have HM1 := hid hs
  clear hs
  go_wp2_with fail
  refine (nat_mul' HB.out HA.out (by omega) (by omega)).mono ?_
  rw [Nat.mul_comm (val pb) (val pa)]
  rintro e w10 ⟨vM2, rfl, hs, hb⟩
  have HBx := hid (step_below HBel.out hb)
  clear HBel
  have HBel := HBx
  clear HBx
  replace HA := hid (HA.out.below hb)
  replace HB := hid (HB.out.below hb)
  replace HC := hid (HC.out.below hb)
  replace HS1 := hid (HS1.out.below hb)
  replace HM1 := hid (HM1.out.below hb)
  clear hb
  have HM2 := hid hs
  clear hs
  go_wp2_with fail
  refine (law_same _ _ _ _ HM1.out HM2.out).mono ?_
  rintro e w11 ⟨rfl, hb⟩
  have HBx := hid (step_below HBel.out hb)
  clear HBel
  have HBel := HBx
  clear HBx
  replace HA := hid (HA.out.below hb)
  replace HB := hid (HB.out.below hb)
  replace HC := hid (HC.out.below hb)
  replace HS1 := hid (HS1.out.below hb)
  replace HM1 := hid (HM1.out.below hb)
  clear hb
  clear HM2
  go_wp2_with fail
  refine (nat_mul' HM1.out HC.out (by omega) (by omega)).mono ?_
  rw [val_limbs]
  rintro e w12 ⟨vM3, rfl, hs, hb⟩
  have HBx := hid (step_below HBel.out hb)
  clear HBel
  have HBel := HBx
  clear HBx
  replace HA := hid (HA.out.below hb)
  replace HB := hid (HB.out.below hb)
  replace HC := hid (HC.out.below hb)
  replace HS1 := hid (HS1.out.below hb)
  clear hb
  clear HM1
  have HM3 := hid hs
  clear hs
  go_wp2_with fail
  refine (nat_mul' HB.out HC.out (by omega) (by omega)).mono ?_
  rintro e w13 ⟨vM4, rfl, hs, hb⟩
  have HBx := hid (step_below HBel.out hb)
  clear HBel
  have HBel := HBx
  clear HBx
  replace HA := hid (HA.out.below hb)
  replace HB := hid (HB.out.below hb)
  replace HC := hid (HC.out.below hb)
  replace HS1 := hid (HS1.out.below hb)
  replace HM3 := hid (HM3.out.below hb)
  clear hb
  have HM4 := hid hs
  clear hs
  go_wp2_with fail
  refine (nat_mul' HA.out HM4.out (by omega) (by omega)).mono ?_
  rw [val_limbs, ← Nat.mul_assoc]
  rintro e w14 ⟨vM5, rfl, hs, hb⟩
  have HBx := hid (step_below HBel.out hb)
  clear HBel
  have HBel := HBx
  clear HBx
  replace HA := hid (HA.out.below hb)
  replace HB := hid (HB.out.below hb)
  replace HC := hid (HC.out.below hb)
  replace HS1 := hid (HS1.out.below hb)
  replace HM3 := hid (HM3.out.below hb)
  clear hb
  clear HM4
  have HM5 := hid hs
  clear hs
  go_wp2_with fail
  refine (law_same _ _ _ _ HM3.out HM5.out).mono ?_
  rintro e w15 ⟨rfl, hb⟩
  have HBx := hid (step_below HBel.out hb)
  clear HBel
  have HBel := HBx
  clear HBx
  replace HA := hid (HA.out.below hb)
  replace HB := hid (HB.out.below hb)
  replace HC := hid (HC.out.below hb)
  replace HS1 := hid (HS1.out.below hb)
  clear hb
  clear HM3 HM5
  go_wp2_with fail
  refine (nat_mul' HS1.out HC.out (by omega) (by omega)).mono ?_
  rw [val_limbs, Nat.add_mul]
  rintro e w16 ⟨vM6, rfl, hs, hb⟩
  have HBx := hid (step_below HBel.out hb)
  clear HBel
  have HBel := HBx
  clear HBx
  replace HA := hid (HA.out.below hb)
  replace HB := hid (HB.out.below hb)
  replace HC := hid (HC.out.below hb)
  clear hb
  clear HS1
  have HM6 := hid hs
  clear hs
  go_wp2_with fail
  refine (nat_mul' HA.out HC.out (by omega) (by omega)).mono ?_
  rintro e w17 ⟨vM7, rfl, hs, hb⟩
  have HBx := hid (step_below HBel.out hb)
  clear HBel
  have HBel := HBx
  clear HBx
  replace HA := hid (HA.out.below hb)
  replace HB := hid (HB.out.below hb)
  replace HC := hid (HC.out.below hb)
  replace HM6 := hid (HM6.out.below hb)
  clear hb
  have HM7 := hid hs
  clear hs
  go_wp2_with fail
  refine (nat_mul' HB.out HC.out (by omega) (by omega)).mono ?_
  rintro e w18 ⟨vM8, rfl, hs, hb⟩
  have HBx := hid (step_below HBel.out hb)
  clear HBel
  have HBel := HBx
  clear HBx
  replace HA := hid (HA.out.below hb)
  replace HB := hid (HB.out.below hb)
  replace HC := hid (HC.out.below hb)
  replace HM6 := hid (HM6.out.below hb)
  replace HM7 := hid (HM7.out.below hb)
  clear hb
  have HM8 := hid hs
  clear hs
  go_wp2_with fail
  refine (nat_add' HM7.out HM8.out (by omega) (by omega)).mono ?_
  rw [val_limbs, val_limbs]
  rintro e w19 ⟨vS6, rfl, hs, hb⟩
  have HBx := hid (step_below HBel.out hb)
  clear HBel
  have HBel := HBx
  clear HBx
  replace HA := hid (HA.out.below hb)
  replace HB := hid (HB.out.below hb)
  replace HC := hid (HC.out.below hb)
  replace HM6 := hid (HM6.out.below hb)
  clear hb
  clear HM7 HM8
  have HS6 := hid hs
  clear hs
  go_wp2_with fail
  refine (law_same _ _ _ _ HM6.out HS6.out).mono ?_
  rintro e w20 ⟨rfl, hb⟩
  have HBx := hid (step_below HBel.out hb)
  clear HBel
  have HBel := HBx
  clear HBx
  replace HA := hid (HA.out.below hb)
  replace HB := hid (HB.out.below hb)
  replace HC := hid (HC.out.below hb)
  clear hb
  clear HM6 HS6
  go_wp2
  go_ret
  exact ⟨rfl, HBel.out⟩

/-! ### The row's step and the card -/
theorem contract (H : Type) (enc : TypeId × Value → H) (W : World) (base : Nat) (args : Array Value) (ds gs : List (DataW H)) (before : List MemPlace)
    (hval0 : ∀ (j : Nat) t v, Tryd.f12.params[j]? = some t → args[j]? = some v → Value.okWide Tryd.prog W .any base t v)
    (hW : DataW.Whole enc Tryd.prog Tryd.f12.params.toList Rows.natOrdersSpec.vars false W args.toList ds gs before)
    (hsz0 : (DataW.weightsEach Tryd.prog (Tryd.f12.params.toList ++ Rows.natOrdersSpec.plain.varTypes Tryd.prog) (ds ++ gs)).all (· ≤ reachBytes) = true) :
    Calls Tryd.prog 12 args W fun e W' => ∃ v, e = .returned v ∧ Rows.natOrdersSpec.post enc Tryd.prog Tryd.f12 false true false false W args v W' := by
  have hW' := hW
  obtain ⟨p, q, hA0, hV, rfl, hfz, hnd⟩ := hW
  have hA : DataW.TrodAll enc Tryd.prog W 0 (fun _ => true) true Tryd.f12.params.toList args.toList ds p := hA0
  have hval : ∀ (j : Nat) t v, Tryd.f12.params[j]? = some t → args[j]? = some v → Value.okWide Tryd.prog W .any base t v := hval0
  have hsz : (DataW.weightsEach Tryd.prog (Tryd.f12.params.toList ++ []) (ds ++ gs)).all (· ≤ reachBytes) = true := hsz0
  rw [Tryd.params12] at hA hval hsz
  obtain ⟨v0, vs0, d0, ds0, p0, q0, hargs, rfl, rfl, h0, r0⟩ := trodAll_cons hA
  obtain ⟨v1, vs1, d1, ds1, p1, q1, rfl, rfl, rfl, h1, r1⟩ := trodAll_cons r0
  obtain ⟨v2, vs2, d2, ds2, p2, q2, rfl, rfl, rfl, h2, r2⟩ := trodAll_cons r1
  obtain ⟨rfl, rfl, rfl⟩ := trodAll_nil r2
  obtain rfl : args = #[v0, v1, v2] := by cases args; simp_all
  obtain ⟨rfl, rfl⟩ := trodVars_none hV
  obtain ⟨l0, s0, b0⟩ := open_limbs (hval 0 22 v0 rfl rfl) h0 (fun elems spare e => by subst e; exact sized_slice hsz (j := 0) (t := 22) (e := 47) rfl rfl Tryd.underlying22)
  obtain ⟨l1, s1, b1⟩ := open_limbs (hval 1 22 v1 rfl rfl) h1 (fun elems spare e => by subst e; exact sized_slice hsz (j := 1) (t := 22) (e := 47) rfl rfl Tryd.underlying22)
  obtain ⟨l2, s2, b2⟩ := open_limbs (hval 2 22 v2 rfl rfl) h2 (fun elems spare e => by subst e; exact sized_slice hsz (j := 2) (t := 22) (e := 47) rfl rfl Tryd.underlying22)
  refine (walk s0 b0 s1 b1 s2 b2).mono fun e W' ⟨he, hb⟩ => ?_
  subst he
  exact ⟨_, rfl, _, _, _, _, _, _, hW', trodAll_cons_mk (shut_bool Tryd.underlying4 _) trodAll_mk0, trodAll_cons_mk (Below.trod laidOut (by kernel_rfl) (of_decide_eq_true (by kernel_rfl)) h0 hb (fun x hx => by have := hW'.lt x (by simp [hx]); simpa using this)) (trodAll_cons_mk (Below.trod laidOut (by kernel_rfl) (of_decide_eq_true (by kernel_rfl)) h1 hb (fun x hx => by have := hW'.lt x (by simp [hx]); simpa using this)) (trodAll_cons_mk (Below.trod laidOut (by kernel_rfl) (of_decide_eq_true (by kernel_rfl)) h2 hb (fun x hx => by have := hW'.lt x (by simp [hx]); simpa using this)) (trodAll_mk0))), rfl, hb.frame _, fun h => by cases h⟩

set_option maxRecDepth 100000 in
theorem lifted (os : Os) (started : os.Started) (H : Type) (enc : TypeId × Value → H) :
    ReturnsInHanded {} Tryd.checked os 12 .any (fun w args => (Rows.natOrdersSpec.pre enc Tryd.prog Tryd.f12 [] false w args ∧ laidMetH Tryd.prog laidList w) ∧ sizedMet enc Tryd.prog Tryd.f12 (OpenSpec.ofChange Rows.natOrdersSpec) false w args)
      (Rows.natOrdersSpec.post enc Tryd.prog Tryd.f12 false true false false) := by
  refine returnsInHanded_of_change_and (C := Tryd.checked) (X := fun w _ => laidMetH Tryd.prog laidList w) (fun _ _ _ hh h => h.of_heap hh) own started (by kernel_rfl) Tryd.func12
    (ChangeSpec.witness_shaped (enc := enc) (C := Tryd.checked) (os := os) (X := fun w _ => laidMetH Tryd.prog laidList w) false (World.laidAll Tryd.prog os laidList) #[.slice none 0 0, .slice none 0 0, .slice none 0 0] 8 (World.laidAll_os _ _ _)
      (World.shaped_of_ZipB (by kernel_rfl) (by kernel_rfl)) (by kernel_rfl) (by kernel_rfl) (by kernel_rfl) (laid_met os _)) ?_
  intro W base args ds gs before hval0 hW _ hsz _ _
  exact contract H enc W base args ds gs before hval0 hW hsz

theorem said : Rows.NatOrdersSaid :=
  OpenClaim.holds_of_wide 12 Tryd.f12 rfl rfl rfl rfl rfl rfl rfl ⟨rfl, rfl, rfl, rfl, rfl⟩ rfl rfl rfl rfl rfl (by kernel_rfl) Tryd.func12 (by kernel_rfl)
    (of_decide_eq_true (by kernel_rfl)) (by unfold Func.isWrapper; first | (rw [if_pos (by decide +kernel)]; kernel_rfl) | (rw [if_neg (by decide +kernel)]; exact ⟨rfl, rfl⟩))
    (fun os started H enc _ => lifted os started H enc)

theorem plain (f : FuncId) (fn : Func) (hf : Tryd.pinned.checked.prog.funcNamed "primrose/primroselaw01.NatOrders" = some f) (hfn : Tryd.pinned.checked.prog.funcs[f]? = some fn) :
    false = Tryd.pinned.checked.prog.looks [] ∧ ∀ (j : Nat) t, fn.params[j]? = some t → Tryd.pinned.checked.prog.wantsStandIn t = false := by
  obtain rfl : f = 12 := Option.some.inj ((show Tryd.prog.funcNamed "primrose/primroselaw01.NatOrders" = some 12 by kernel_rfl).symm.trans hf) |>.symm
  obtain rfl : fn = Tryd.f12 := (Option.some.inj (Tryd.func12.symm.trans hfn)).symm
  refine ⟨by kernel_rfl, fun j t ht => ?_⟩
  rw [Tryd.params12] at ht
  have hm : t ∈ [22, 22, 22] := by simpa using Array.mem_of_getElem? ht
  have hall : ([22, 22, 22].all fun u => !Tryd.prog.wantsStandIn u) = true := by kernel_rfl
  exact (show Tryd.prog.wantsStandIn t = false by simpa using List.all_eq_true.1 hall t hm)

/-- THE CARD. -/
theorem card : Rows.NatOrdersCardSaid :=
  Claim7.holds_tied_plain_at .later [] _ _ _ _ said (fun _ h => by cases h) (by kernel_rfl) (fun _ h => by cases h) natOrders_row_tie rfl ⟨rfl, rfl⟩ (by kernel_rfl) rfl plain (by kernel_rfl)
end Go.Proofs.YtgcgifehpbjglaaDoor.natOrders
