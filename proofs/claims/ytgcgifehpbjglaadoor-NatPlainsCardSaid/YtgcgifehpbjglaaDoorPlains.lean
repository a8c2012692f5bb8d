/- primroselaw01.NatPlains answers true for every two lists of limbs that may be in memory: nat.Plain, nat.Cmp and nat.Bits answer what the document's reference answers. No condition beyond the row's own (the listed tables of the library are as its text lays them). -/
import Derived.Test.YtgcgifehpbjglaaDoorFrame
set_option linter.unusedVariables false
set_option linter.unusedSimpArgs false
namespace Go.Proofs.YtgcgifehpbjglaaDoor.natPlains
open Go.ChangeShapes Go.WideShapes Go.ChangeAt Go.RowKit

set_option maxHeartbeats 1000000 in
theorem walk {va vb : Value} {l m : List Nat} {w : World} (ha : Sees w va l) (hl : l.length ≤ 35184372087808) (hb : Sees w vb m) (hm : m.length ≤ 35184372087808) :
    Calls Tryd.prog 3 #[va, vb] w fun e w' => e = .returned (.bool true) ∧ Below w.heap.size w w' := by
  have hpl := Nat.le_trans (limbs_prefix ha.ok).2 hl
  have HA := hid ha; have HB := hid hb
  obtain ⟨a, ca, rfl, -, -, -, -, -⟩ := ha
  obtain ⟨b, cb, rfl, -, -, -, -, -⟩ := hb
  go_enter Tryd.func3, Tryd.ntmps3
  go_wp2_with fail
  refine (awake_any _).mono ?_
  rintro e w1 ⟨rfl, hb1⟩
  have HB1 := hid hb1; have HA1 := hid (HA.out.below hb1); have HC1 := hid (HB.out.below hb1)
  clear hb1
  go_wp2_with fail
  refine (plain_any _ _ _ HA1.out (by omega)).mono ?_
  intro e w2 hp
  obtain ⟨v2, rfl, hs2, hb2⟩ := hp.sees (by omega)
  have HS2 := hid hs2; have HB2 := hid (step_below HB1.out hb2); have HA2 := hid (HA1.out.below hb2); have HC2 := hid (HC1.out.below hb2)
  clear hp hs2 hb2 HB1 HA1 HC1
  go_wp2_with fail
  refine (ref_plain _ _ _ HA2.out (by omega)).mono ?_
  intro e w3 hp
  obtain ⟨v3, rfl, hs3, hb3⟩ := hp.sees (by omega)
  have HS3 := hid hs3; have HS2' := hid (HS2.out.below hb3); have HB3 := hid (step_below HB2.out hb3); have HA3 := hid (HA2.out.below hb3); have HC3 := hid (HC2.out.below hb3)
  clear hp hs3 hb3 HB2 HA2 HC2 HS2
  go_wp2_with fail
  refine (law_same _ _ _ _ HS2'.out HS3.out).mono ?_
  rintro e w4 ⟨rfl, hb4⟩
  have HB4 := hid (step_below HB3.out hb4); have HA4 := hid (HA3.out.below hb4); have HC4 := hid (HC3.out.below hb4)
  clear hb4 HB3 HA3 HC3 HS2' HS3
  go_wp2_with fail
  refine (nat_cmp _ _ _ _ _ _ _ _ _ HA4.out HC4.out).mono ?_
  generalize hz : cmpI (val l) (val m) = z
  rintro e w5 ⟨rfl, hb5⟩
  have HZ := hid hz
  have HB5 := hid (step_below HB4.out hb5); have HA5 := hid (HA4.out.below hb5); have HC5 := hid (HC4.out.below hb5)
  clear hb5 HB4 HA4 HC4 hz
  go_wp2_with fail
  refine (ref_cmp _ _ _ _ _ _ _ HA5.out HC5.out).mono ?_
  rw [HZ.out]
  rintro e w6 ⟨rfl, rfl⟩
  clear HC5
  go_wp2_with fail
  refine (nat_bits _ _ _ _ _ HA5.out).mono ?_
  generalize hy : bitsN (val l) = y
  rintro e w7 ⟨rfl, rfl⟩
  have HY := hid hy; clear hy
  go_wp2_with fail
  refine (ref_bits _ _ _ HA5.out (by omega)).mono ?_
  rw [HY.out]
  rintro e w8 ⟨rfl, hb8⟩
  have HB8 := hid (step_below HB5.out hb8)
  clear hb8
  go_wp2
  go_ret
  exact ⟨rfl, HB8.out⟩

/-! ### The row's step and the card -/
theorem contract (H : Type) (enc : TypeId × Value → H) (W : World) (base : Nat) (args : Array Value) (ds gs : List (DataW H)) (before : List MemPlace)
    (hval0 : ∀ (j : Nat) t v, Tryd.f3.params[j]? = some t → args[j]? = some v → Value.okWide Tryd.prog W .any base t v)
    (hW : DataW.Whole enc Tryd.prog Tryd.f3.params.toList Rows.natPlainsSpec.vars false W args.toList ds gs before)
    (hsz0 : (DataW.weightsEach Tryd.prog (Tryd.f3.params.toList ++ Rows.natPlainsSpec.plain.varTypes Tryd.prog) (ds ++ gs)).all (· ≤ reachBytes) = true) :
    Calls Tryd.prog 3 args W fun e W' => ∃ v, e = .returned v ∧ Rows.natPlainsSpec.post enc Tryd.prog Tryd.f3 false true false false W args v W' := by
  have hW' := hW
  obtain ⟨p, q, hA0, hV, rfl, hfz, hnd⟩ := hW
  have hA : DataW.TrodAll enc Tryd.prog W 0 (fun _ => true) true Tryd.f3.params.toList args.toList ds p := hA0
  have hval : ∀ (j : Nat) t v, Tryd.f3.params[j]? = some t → args[j]? = some v → Value.okWide Tryd.prog W .any base t v := hval0
  have hsz : (DataW.weightsEach Tryd.prog (Tryd.f3.params.toList ++ []) (ds ++ gs)).all (· ≤ reachBytes) = true := hsz0
  rw [Tryd.params3] at hA hval hsz
  obtain ⟨v0, vs0, d0, ds0, p0, q0, hargs, rfl, rfl, h0, r0⟩ := trodAll_cons hA
  obtain ⟨v1, vs1, d1, ds1, p1, q1, rfl, rfl, rfl, h1, r1⟩ := trodAll_cons r0
  obtain ⟨rfl, rfl, rfl⟩ := trodAll_nil r1
  obtain rfl : args = #[v0, v1] := by cases args; simp_all
  obtain ⟨rfl, rfl⟩ := trodVars_none hV
  obtain ⟨l0, s0, b0⟩ := open_limbs (hval 0 22 v0 rfl rfl) h0 (fun elems spare e => by subst e; exact sized_slice hsz (j := 0) (t := 22) (e := 47) rfl rfl Tryd.underlying22)
  obtain ⟨l1, s1, b1⟩ := open_limbs (hval 1 22 v1 rfl rfl) h1 (fun elems spare e => by subst e; exact sized_slice hsz (j := 1) (t := 22) (e := 47) rfl rfl Tryd.underlying22)
  refine (walk s0 b0 s1 b1).mono fun e W' ⟨he, hb⟩ => ?_
  subst he
  exact ⟨_, rfl, _, _, _, _, _, _, hW', trodAll_cons_mk (shut_bool Tryd.underlying4 _) trodAll_mk0, trodAll_cons_mk (Below.trod laidOut (by kernel_rfl) (of_decide_eq_true (by kernel_rfl)) h0 hb (fun x hx => by have := hW'.lt x (by simp [hx]); simpa using this)) (trodAll_cons_mk (Below.trod laidOut (by kernel_rfl) (of_decide_eq_true (by kernel_rfl)) h1 hb (fun x hx => by have := hW'.lt x (by simp [hx]); simpa using this)) (trodAll_mk0)), rfl, hb.frame _, fun h => by cases h⟩

set_option maxRecDepth 100000 in
theorem lifted (os : Os) (started : os.Started) (H : Type) (enc : TypeId × Value → H) :
    ReturnsInHanded {} Tryd.checked os 3 .any (fun w args => (Rows.natPlainsSpec.pre enc Tryd.prog Tryd.f3 [] false w args ∧ laidMetH Tryd.prog laidList w) ∧ sizedMet enc Tryd.prog Tryd.f3 (OpenSpec.ofChange Rows.natPlainsSpec) false w args)
      (Rows.natPlainsSpec.post enc Tryd.prog Tryd.f3 false true false false) := by
  refine returnsInHanded_of_change_and (C := Tryd.checked) (X := fun w _ => laidMetH Tryd.prog laidList w) (fun _ _ _ hh h => h.of_heap hh) own started (by kernel_rfl) Tryd.func3
    (ChangeSpec.witness_shaped (enc := enc) (C := Tryd.checked) (os := os) (X := fun w _ => laidMetH Tryd.prog laidList w) false (World.laidAll Tryd.prog os laidList) #[.slice none 0 0, .slice none 0 0] 8 (World.laidAll_os _ _ _)
      (World.shaped_of_ZipB (by kernel_rfl) (by kernel_rfl)) (by kernel_rfl) (by kernel_rfl) (by kernel_rfl) (laid_met os _)) ?_
  intro W base args ds gs before hval0 hW _ hsz _ _
  exact contract H enc W base args ds gs before hval0 hW hsz

theorem said : Rows.NatPlainsSaid :=
  OpenClaim.holds_of_wide 3 Tryd.f3 rfl rfl rfl rfl rfl rfl rfl ⟨rfl, rfl, rfl, rfl, rfl⟩ rfl rfl rfl rfl rfl (by kernel_rfl) Tryd.func3 (by kernel_rfl)
    (of_decide_eq_true (by kernel_rfl)) (by unfold Func.isWrapper; first | (rw [if_pos (by decide +kernel)]; kernel_rfl) | (rw [if_neg (by decide +kernel)]; exact ⟨rfl, rfl⟩))
    (fun os started H enc _ => lifted os started H enc)

theorem plain (f : FuncId) (fn : Func) (hf : Tryd.pinned.checked.prog.funcNamed "primrose/primroselaw01.NatPlains" = some f) (hfn : Tryd.pinned.checked.prog.funcs[f]? = some fn) :
    false = Tryd.pinned.checked.prog.looks [] ∧ ∀ (j : Nat) t, fn.params[j]? = some t → Tryd.pinned.checked.prog.wantsStandIn t = false := by
  obtain rfl : f = 3 := Option.some.inj ((show Tryd.prog.funcNamed "primrose/primroselaw01.NatPlains" = some 3 by kernel_rfl).symm.trans hf) |>.symm
  obtain rfl : fn = Tryd.f3 := (Option.some.inj (Tryd.func3.symm.trans hfn)).symm
  refine ⟨by kernel_rfl, fun j t ht => ?_⟩
  rw [Tryd.params3] at ht
  have hm : t ∈ [22, 22] := by simpa using Array.mem_of_getElem? ht
  have hall : ([22, 22].all fun u => !Tryd.prog.wantsStandIn u) = true := by kernel_rfl
  exact (show Tryd.prog.wantsStandIn t = false by simpa using List.all_eq_true.1 hall t hm)

/-- THE CARD. -/
theorem card : Rows.NatPlainsCardSaid :=
  Claim7.holds_tied_plain_at .later [] _ _ _ _ said (fun _ h => by cases h) (by kernel_rfl) (fun _ h => by cases h) natPlains_row_tie rfl ⟨rfl, rfl⟩ (by kernel_rfl) rfl plain (by kernel_rfl)
end Go.Proofs.YtgcgifehpbjglaaDoor.natPlains
