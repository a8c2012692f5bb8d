/- primroselaw01.NatShares answers true for every three lists of limbs that may be in memory: the greatest common divisor divides both, whichever comes first, and of two products by one factor it is the product by that factor (of the first 30 limbs of each). No condition beyond the row's own (the listed tables of the library are as its text lays them). -/
import Derived.Test.YtfjanomjmlcgaaaDoorVal
import Derived.Test.YtfjanomjmlcgaaaDoorRefText
import Derived.Test.YtfjanomjmlcgaaaDoorGcd5
set_option linter.unusedVariables false
set_option linter.unusedSimpArgs false
namespace Go.Proofs.YtfjanomjmlcgaaaDoor.natShares
open Go.ChangeShapes Go.WideShapes Go.ChangeAt Go.RowKit

set_option maxRecDepth 100000 in
set_option maxHeartbeats 8000000 in
theorem walk_zero {va vb vc : Value} {la lb lc : List Nat} {w : World} (ha : Sees w va la) (hla : la.length ≤ 35184372087808) (hb0 : Sees w vb lb) (hlb : lb.length ≤ 35184372087808) (hc : Sees w vc lc) (hlc : lc.length ≤ 35184372087808) (hcd : Nat.gcd (val (la.take 30)) (val (lb.take 30)) = 0) :
    Calls Tryd.prog 6 #[va, vb, vc] w fun e w' => e = .returned (.bool true) ∧ Below w.heap.size w w' := by
  have HA := hid ha; have HB := hid hb0; have HC := hid hc; have HCD := hid hcd
  clear ha hb0 hc hcd
  go_enter Tryd.func6, Tryd.ntmps6
  go_wp2_with fail
  refine (awake_any _).mono ?_
  rintro e w1 ⟨rfl, hb⟩
  have HBx := hid (hb)
  have HBel := HBx
  clear HBx
  replace HA := hid (HA.out.below hb)
  replace HB := hid (HB.out.below hb)
  replace HC := hid (HC.out.below hb)
  clear hb
  have hka : (la.take 30).length ≤ 30 := by simp; omega
  go_wp2_with fail
  refine (law_short va la 30 _ HA.out (by omega)).mono ?_
  rintro e w' ⟨⟨sa, rfl, hs⟩, rfl⟩
  obtain ⟨pa, hp⟩ : ∃ p, p = la.take 30 := ⟨_, rfl⟩
  rw [← hp] at hs hka HCD
  clear HA hp
  have HA := hid hs
  clear hs
  have hkb : (lb.take 30).length ≤ 30 := by simp; omega
  go_wp2_with fail
  refine (law_short vb lb 30 _ HB.out (by omega)).mono ?_
  rintro e w' ⟨⟨sb, rfl, hs⟩, rfl⟩
  obtain ⟨pb, hp⟩ : ∃ p, p = lb.take 30 := ⟨_, rfl⟩
  rw [← hp] at hs hkb HCD
  clear HB hp
  have HB := hid hs
  clear hs
  have hkc : (lc.take 30).length ≤ 30 := by simp; omega
  go_wp2_with fail
  refine (law_short vc lc 30 _ HC.out (by omega)).mono ?_
  rintro e w' ⟨⟨sc, rfl, hs⟩, rfl⟩
  obtain ⟨pc, hp⟩ : ∃ p, p = lc.take 30 := ⟨_, rfl⟩
  rw [← hp] at hs hkc
  clear HC hp
  have HC := hid hs
  clear hs
  clear hla hlb hlc
  have hz0 : bitsN (val (limbs (Nat.gcd (val pa) (val pb)))) = 0 := by rw [val_limbs, HCD.out]; rfl
  have hza : bitsN (val pa) = 0 := by rw [Nat.eq_zero_of_gcd_eq_zero_left HCD.out]; rfl
  have hzb : bitsN (val pb) = 0 := by rw [Nat.eq_zero_of_gcd_eq_zero_right HCD.out]; rfl
  have HZ := hid hz0; have HZA := hid hza; have HZB := hid hzb
  clear hz0 hza hzb
  go_wp2_with fail
  refine (nat_gcd HA.out HB.out (by omega) (by omega)).mono ?_
  rintro e w2 ⟨vg, rfl, hs, hb⟩
  have HBx := hid (step_below HBel.out hb)
  clear HBel
  have HBel := HBx
  clear HBx
  replace HA := hid (HA.out.below hb)
  replace HB := hid (HB.out.below hb)
  replace HC := hid (HC.out.below hb)
  clear hb
  have HG := hid hs
  clear hs
  go_wp2_with fail
  refine (nat_bits' HG.out).mono ?_
  rw [HZ.out]
  rintro e w' ⟨rfl, rfl⟩
  go_wp2_with fail
  refine (nat_bits' HA.out).mono ?_
  rw [HZA.out]
  rintro e w' ⟨rfl, rfl⟩
  go_wp2_with fail
  refine (nat_bits' HB.out).mono ?_
  rw [HZB.out]
  rintro e w' ⟨rfl, rfl⟩
  go_wp2
  go_ret
  exact ⟨rfl, HBel.out⟩

set_option maxRecDepth 100000 in
set_option maxHeartbeats 8000000 in
theorem walk_pos {va vb vc : Value} {la lb lc : List Nat} {w : World} (ha : Sees w va la) (hla : la.length ≤ 35184372087808) (hb0 : Sees w vb lb) (hlb : lb.length ≤ 35184372087808) (hc : Sees w vc lc) (hlc : lc.length ≤ 35184372087808) (hcd : 0 < Nat.gcd (val (la.take 30)) (val (lb.take 30))) :
    Calls Tryd.prog 6 #[va, vb, vc] w fun e w' => e = .returned (.bool true) ∧ Below w.heap.size w w' := by
  have HA := hid ha; have HB := hid hb0; have HC := hid hc; have HCD := hid hcd
  clear ha hb0 hc hcd
  go_enter Tryd.func6, Tryd.ntmps6
  go_wp2_with fail
  refine (awake_any _).mono ?_
  rintro e w1 ⟨rfl, hb⟩
  have HBx := hid (hb)
  have HBel := HBx
  clear HBx
  replace HA := hid (HA.out.below hb)
  replace HB := hid (HB.out.below hb)
  replace HC := hid (HC.out.below hb)
  clear hb
  have hka : (la.take 30).length ≤ 30 := by simp; omega
  go_wp2_with fail
  refine (law_short va la 30 _ HA.out (by omega)).mono ?_
  rintro e w' ⟨⟨sa, rfl, hs⟩, rfl⟩
  obtain ⟨pa, hp⟩ : ∃ p, p = la.take 30 := ⟨_, rfl⟩
  rw [← hp] at hs hka HCD
  clear HA hp
  have HA := hid hs
  clear hs
  have hkb : (lb.take 30).length ≤ 30 := by simp; omega
  go_wp2_with fail
  refine (law_short vb lb 30 _ HB.out (by omega)).mono ?_
  rintro e w' ⟨⟨sb, rfl, hs⟩, rfl⟩
  obtain ⟨pb, hp⟩ : ∃ p, p = lb.take 30 := ⟨_, rfl⟩
  rw [← hp] at hs hkb HCD
  clear HB hp
  have HB := hid hs
  clear hs
  have hkc : (lc.take 30).length ≤ 30 := by simp; omega
  go_wp2_with fail
  refine (law_short vc lc 30 _ HC.out (by omega)).mono ?_
  rintro e w' ⟨⟨sc, rfl, hs⟩, rfl⟩
  obtain ⟨pc, hp⟩ : ∃ p, p = lc.take 30 := ⟨_, rfl⟩
  rw [← hp] at hs hkc
  clear HC hp
  have HC := hid hs
  clear hs
  clear hla hlb hlc
  obtain ⟨G, hG⟩ : ∃ G, Nat.gcd (val pa) (val pb) = G := ⟨_, rfl⟩
  rw [hG] at HCD
  have hda : val pa % G = 0 := Nat.mod_eq_zero_of_dvd (by rw [← hG]; exact Nat.gcd_dvd_left _ _)
  have hdb : val pb % G = 0 := Nat.mod_eq_zero_of_dvd (by rw [← hG]; exact Nat.gcd_dvd_right _ _)
  obtain ⟨nb, hnb⟩ : ∃ n, bitsN (val (limbs G)) = n := ⟨_, rfl⟩
  have hn0 : 0 < nb := by rw [← hnb, val_limbs]; unfold bitsN; rw [if_neg (by have := HCD.out; omega)]; omega
  have hgl : (limbs G).length ≤ 60 := by
    rcases Nat.eq_zero_or_pos (val pa) with h0 | h0
    · have h1 : G ≤ val pb := Nat.le_of_dvd (Nat.pos_of_ne_zero fun h2 => by have h3 := HCD.out; rw [← hG, h0, h2] at h3; exact absurd h3 (by decide)) (by rw [← hG]; exact Nat.gcd_dvd_right _ _)
      exact limbs_length_le (Nat.lt_of_le_of_lt h1 (val_lt' HB.out.ok 60 (by omega)))
    · have h1 : G ≤ val pa := Nat.le_of_dvd h0 (by rw [← hG]; exact Nat.gcd_dvd_left _ _)
      exact limbs_length_le (Nat.lt_of_le_of_lt h1 (val_lt' HA.out.ok 60 (by omega)))
  have mac := mul_length HA.out.ok HC.out.ok 30 30 hka hkc
  have mbc := mul_length HB.out.ok HC.out.ok 30 30 hkb hkc
  have hG2 : Nat.gcd (val pb) (val pa) = G := by rw [Nat.gcd_comm]; exact hG
  have hG3 : Nat.gcd (val (limbs (val pa * val pc))) (val (limbs (val pb * val pc))) = G * val pc := by rw [val_limbs, val_limbs, Nat.gcd_mul_right, hG]
  have HNB := hid hnb; have HGE := hid hG; have HG2 := hid hG2; have HG3 := hid hG3; have HDA := hid hda; have HDB := hid hdb
  clear hnb hG hG2 hG3 hda hdb
  go_wp2_with fail
  refine (nat_gcd HA.out HB.out (by omega) (by omega)).mono ?_
  rw [HGE.out]
  rintro e w2 ⟨vg, rfl, hs, hb⟩
  have HBx := hid (step_below HBel.out hb)
  clear HBel
  have HBel := HBx
  clear HBx
  replace HA := hid (HA.out.below hb)
  replace HB := hid (HB.out.below hb)
  replace HC := hid (HC.out.below hb)
  clear hb
  have HG := hid hs
  clear hs
  go_wp2_with fail
  refine (nat_bits' HG.out).mono ?_
  rw [HNB.out]
  rintro e w' ⟨rfl, rfl⟩
  go_wp2_with fail
  refine (nat_divmod' HA.out HG.out (by omega) (by rw [val_limbs]; exact HCD.out)).mono ?_
  rw [val_limbs, HDA.out]
  rintro e w3 ⟨vqA, vR, rfl, hs, hs2, hb⟩
  have HBx := hid (step_below HBel.out hb)
  clear HBel
  have HBel := HBx
  clear HBx
  replace HA := hid (HA.out.below hb)
  replace HB := hid (HB.out.below hb)
  replace HC := hid (HC.out.below hb)
  replace HG := hid (HG.out.below hb)
  clear hb
  have HQA := hid hs
  clear hs
  rw [limbs_zero] at hs2
  obtain ⟨aoR, capR, rfl, -, -, -, -, -⟩ := hs2
  clear HQA
  go_wp2_with fail
  refine (nat_divmod' HB.out HG.out (by omega) (by rw [val_limbs]; exact HCD.out)).mono ?_
  rw [val_limbs, HDB.out]
  rintro e w4 ⟨vqB, vS, rfl, hs, hs2, hb⟩
  have HBx := hid (step_below HBel.out hb)
  clear HBel
  have HBel := HBx
  clear HBx
  replace HA := hid (HA.out.below hb)
  replace HB := hid (HB.out.below hb)
  replace HC := hid (HC.out.below hb)
  replace HG := hid (HG.out.below hb)
  clear hb
  have HQB := hid hs
  clear hs
  rw [limbs_zero] at hs2
  obtain ⟨aoS, capS, rfl, -, -, -, -, -⟩ := hs2
  clear HQB
  go_wp2_with fail
  refine (nat_gcd HB.out HA.out (by omega) (by omega)).mono ?_
  rw [HG2.out]
  rintro e w5 ⟨vg2, rfl, hs, hb⟩
  have HBx := hid (step_below HBel.out hb)
  clear HBel
  have HBel := HBx
  clear HBx
  replace HA := hid (HA.out.below hb)
  replace HB := hid (HB.out.below hb)
  replace HC := hid (HC.out.below hb)
  replace HG := hid (HG.out.below hb)
  clear hb
  have HGG := hid hs
  clear hs
  go_wp2_with fail
  refine (law_same _ _ _ _ HGG.out HG.out).mono ?_
  rintro e w6 ⟨rfl, hb⟩
  have HBx := hid (step_below HBel.out hb)
  clear HBel
  have HBel := HBx
  clear HBx
  replace HA := hid (HA.out.below hb)
  replace HB := hid (HB.out.below hb)
  replace HC := hid (HC.out.below hb)
  replace HG := hid (HG.out.below hb)
  clear hb
  clear HGG
  go_wp2_with fail
  refine (nat_mul' HA.out HC.out (by omega) (by omega)).mono ?_
  rintro e w7 ⟨vac, rfl, hs, hb⟩
  have HBx := hid (step_below HBel.out hb)
  clear HBel
  have HBel := HBx
  clear HBx
  replace HA := hid (HA.out.below hb)
  replace HB := hid (HB.out.below hb)
  replace HC := hid (HC.out.below hb)
  replace HG := hid (HG.out.below hb)
  clear hb
  have HAC := hid hs
  clear hs
  go_wp2_with fail
  refine (nat_mul' HB.out HC.out (by omega) (by omega)).mono ?_
  rintro e w8 ⟨vbc, rfl, hs, hb⟩
  have HBx := hid (step_below HBel.out hb)
  clear HBel
  have HBel := HBx
  clear HBx
  replace HA := hid (HA.out.below hb)
  replace HB := hid (HB.out.below hb)
  replace HC := hid (HC.out.below hb)
  replace HG := hid (HG.out.below hb)
  replace HAC := hid (HAC.out.below hb)
  clear hb
  have HBC := hid hs
  clear hs
  go_wp2_with fail
  refine (nat_gcd HAC.out HBC.out (by omega) (by omega)).mono ?_
  rw [HG3.out]
  rintro e w9 ⟨vg3, rfl, hs, hb⟩
  have HBx := hid (step_below HBel.out hb)
  clear HBel
  have HBel := HBx
  clear HBx
  replace HA := hid (HA.out.below hb)
  replace HB := hid (HB.out.below hb)
  replace HC := hid (HC.out.below hb)
  replace HG := hid (HG.out.below hb)
  clear hb
  clear HAC HBC
  have HGM := hid hs
  clear hs
  go_wp2_with fail
  refine (nat_mul' HG.out HC.out (by omega) (by omega)).mono ?_
  rw [val_limbs]
  rintro e w10 ⟨vgc, rfl, hs, hb⟩
  have HBx := hid (step_below HBel.out hb)
  clear HBel
  have HBel := HBx
  clear HBx
  replace HA := hid (HA.out.below hb)
  replace HB := hid (HB.out.below hb)
  replace HC := hid (HC.out.below hb)
  replace HG := hid (HG.out.below hb)
  replace HGM := hid (HGM.out.below hb)
  clear hb
  have HGC := hid hs
  clear hs
  go_wp2_with fail
  refine (law_same _ _ _ _ HGM.out HGC.out).mono ?_
  rintro e w11 ⟨rfl, hb⟩
  have HBx := hid (step_below HBel.out hb)
  clear HBel
  have HBel := HBx
  clear HBx
  replace HA := hid (HA.out.below hb)
  replace HB := hid (HB.out.below hb)
  replace HC := hid (HC.out.below hb)
  replace HG := hid (HG.out.below hb)
  clear hb
  clear HGM HGC
  go_wp2
  go_ret
  exact ⟨rfl, HBel.out⟩

theorem walk {va vb vc : Value} {la lb lc : List Nat} {w : World} (ha : Sees w va la) (hla : la.length ≤ 35184372087808) (hb0 : Sees w vb lb) (hlb : lb.length ≤ 35184372087808) (hc : Sees w vc lc) (hlc : lc.length ≤ 35184372087808) :
    Calls Tryd.prog 6 #[va, vb, vc] w fun e w' => e = .returned (.bool true) ∧ Below w.heap.size w w' := by
  rcases Nat.eq_zero_or_pos (Nat.gcd (val (la.take 30)) (val (lb.take 30))) with h | h
  · exact walk_zero ha hla hb0 hlb hc hlc h
  · exact walk_pos ha hla hb0 hlb hc hlc h

/-! ### The row's step and the card -/
set_option maxRecDepth 100000 in
theorem contract (H : Type) (enc : TypeId × Value → H) (W : World) (base : Nat) (args : Array Value) (ds gs : List (DataW H)) (before : List MemPlace)
    (hval0 : ∀ (j : Nat) t v, Tryd.f6.params[j]? = some t → args[j]? = some v → Value.okWide Tryd.prog W .any base t v)
    (hW : DataW.Whole enc Tryd.prog Tryd.f6.params.toList Rows.natSharesSpec.vars false W args.toList ds gs before)
    (hsz0 : (DataW.weightsEach Tryd.prog (Tryd.f6.params.toList ++ Rows.natSharesSpec.plain.varTypes Tryd.prog) (ds ++ gs)).all (· ≤ reachBytes) = true) :
    Calls Tryd.prog 6 args W fun e W' => ∃ v, e = .returned v ∧ Rows.natSharesSpec.post enc Tryd.prog Tryd.f6 false true false false W args v W' := by
  have hW' := hW
  obtain ⟨p, q, hA0, hV, rfl, hfz, hnd⟩ := hW
  have hA : DataW.TrodAll enc Tryd.prog W 0 (fun _ => true) true Tryd.f6.params.toList args.toList ds p := hA0
  have hval : ∀ (j : Nat) t v, Tryd.f6.params[j]? = some t → args[j]? = some v → Value.okWide Tryd.prog W .any base t v := hval0
  have hsz : (DataW.weightsEach Tryd.prog (Tryd.f6.params.toList ++ []) (ds ++ gs)).all (· ≤ reachBytes) = true := hsz0
  rw [Tryd.params6] at hA hval hsz
  obtain ⟨v0, vs0, d0, ds0, p0, q0, hargs, rfl, rfl, h0, r0⟩ := trodAll_cons hA
  obtain ⟨v1, vs1, d1, ds1, p1, q1, rfl, rfl, rfl, h1, r1⟩ := trodAll_cons r0
  obtain ⟨v2, vs2, d2, ds2, p2, q2, rfl, rfl, rfl, h2, r2⟩ := trodAll_cons r1
  obtain ⟨rfl, rfl, rfl⟩ := trodAll_nil r2
  obtain rfl : args = #[v0, v1, v2] := by cases args; simp_all
  obtain ⟨rfl, rfl⟩ := trodVars_none hV
  obtain ⟨l0, s0, b0⟩ := open_limbs (hval 0 22 v0 rfl rfl) h0 (fun elems spare e => by subst e; exact sized_slice hsz (j := 0) (t := 22) (e := 57) rfl rfl Tryd.underlying22)
  obtain ⟨l1, s1, b1⟩ := open_limbs (hval 1 22 v1 rfl rfl) h1 (fun elems spare e => by subst e; exact sized_slice hsz (j := 1) (t := 22) (e := 57) rfl rfl Tryd.underlying22)
  obtain ⟨l2, s2, b2⟩ := open_limbs (hval 2 22 v2 rfl rfl) h2 (fun elems spare e => by subst e; exact sized_slice hsz (j := 2) (t := 22) (e := 57) rfl rfl Tryd.underlying22)
  refine (walk s0 b0 s1 b1 s2 b2).mono fun e W' ⟨he, hb⟩ => ?_
  subst he
  exact ⟨_, rfl, _, _, _, _, _, _, hW', trodAll_cons_mk (shut_bool Tryd.underlying4 _) trodAll_mk0, trodAll_cons_mk (Below.trod laidOut (by kernel_rfl) (of_decide_eq_true (by kernel_rfl)) h0 hb (fun x hx => by first | cases hx; done | (have := hW'.lt x (by simp [hx]); simpa using this))) (trodAll_cons_mk (Below.trod laidOut (by kernel_rfl) (of_decide_eq_true (by kernel_rfl)) h1 hb (fun x hx => by first | cases hx; done | (have := hW'.lt x (by simp [hx]); simpa using this))) (trodAll_cons_mk (Below.trod laidOut (by kernel_rfl) (of_decide_eq_true (by kernel_rfl)) h2 hb (fun x hx => by first | cases hx; done | (have := hW'.lt x (by simp [hx]); simpa using this))) (trodAll_mk0))), rfl, hb.frame _, fun h => by cases h⟩

set_option maxRecDepth 100000 in
theorem lifted (os : Os) (started : os.Started) (H : Type) (enc : TypeId × Value → H) :
    ReturnsInHanded {} Tryd.checked os 6 .any (fun w args => (Rows.natSharesSpec.pre enc Tryd.prog Tryd.f6 [] false w args ∧ laidMetH Tryd.prog laidList w) ∧ sizedMet enc Tryd.prog Tryd.f6 (OpenSpec.ofChange Rows.natSharesSpec) false w args)
      (Rows.natSharesSpec.post enc Tryd.prog Tryd.f6 false true false false) := by
  refine returnsInHanded_of_change_and (C := Tryd.checked) (X := fun w _ => laidMetH Tryd.prog laidList w) (fun _ _ _ hh h => h.of_heap hh) own started (by kernel_rfl) Tryd.func6
    (ChangeSpec.witness_shaped (enc := enc) (C := Tryd.checked) (os := os) (X := fun w _ => laidMetH Tryd.prog laidList w) false (World.laidAll Tryd.prog os laidList) #[.slice none 0 0, .slice none 0 0, .slice none 0 0] 8 (World.laidAll_os _ _ _)
      (World.shaped_of_ZipB (by kernel_rfl) (by kernel_rfl)) (by kernel_rfl) (by kernel_rfl) (by kernel_rfl) (laid_met os _)) ?_
  intro W base args ds gs before hval0 hW _ hsz _ _
  exact contract H enc W base args ds gs before hval0 hW hsz

theorem said : Rows.NatSharesSaid :=
  OpenClaim.holds_of_wide 6 Tryd.f6 rfl rfl rfl rfl rfl rfl rfl ⟨rfl, rfl, rfl, rfl, rfl⟩ rfl rfl rfl rfl rfl (by kernel_rfl) Tryd.func6 (by kernel_rfl)
    (of_decide_eq_true (by kernel_rfl)) (by unfold Func.isWrapper; first | (rw [if_pos (by decide +kernel)]; kernel_rfl) | (rw [if_neg (by decide +kernel)]; exact ⟨rfl, rfl⟩))
    (fun os started H enc _ => lifted os started H enc)

theorem plain (f : FuncId) (fn : Func) (hf : Tryd.pinned.checked.prog.funcNamed "primrose/primroselaw01.NatShares" = some f) (hfn : Tryd.pinned.checked.prog.funcs[f]? = some fn) :
    false = Tryd.pinned.checked.prog.looks [] ∧ ∀ (j : Nat) t, fn.params[j]? = some t → Tryd.pinned.checked.prog.wantsStandIn t = false := by
  obtain rfl : f = 6 := Option.some.inj ((show Tryd.prog.funcNamed "primrose/primroselaw01.NatShares" = some 6 by kernel_rfl).symm.trans hf) |>.symm
  obtain rfl : fn = Tryd.f6 := (Option.some.inj (Tryd.func6.symm.trans hfn)).symm
  refine ⟨by kernel_rfl, fun j t ht => ?_⟩
  rw [Tryd.params6] at ht
  have hm : t ∈ [22, 22, 22] := by simpa using Array.mem_of_getElem? ht
  have hall : ([22, 22, 22].all fun u => !Tryd.prog.wantsStandIn u) = true := by kernel_rfl
  exact (show Tryd.prog.wantsStandIn t = false by simpa using List.all_eq_true.1 hall t hm)

/-- THE CARD. -/
theorem card : Rows.NatSharesCardSaid :=
  Claim7.holds_tied_plain_at .later [] _ _ _ _ said (fun _ h => by cases h) (by kernel_rfl) (fun _ h => by cases h) natShares_row_tie rfl ⟨rfl, rfl⟩ (by kernel_rfl) rfl plain (by kernel_rfl)
end Go.Proofs.YtfjanomjmlcgaaaDoor.natShares
