/- For all lists of ints a, b of at most 1000 each, mono.Mul and mono.Div answer what the document's Mul and Div answer; for longer ones awake alone. Conditions: none. -/
import Derived.Test.YthlldjknmdndoaaMoW
import Derived.Deep.RegionHeld3
import Derived.Deep.RegionLaw
set_option linter.unusedVariables false
set_option linter.unusedSimpArgs false
namespace Go.Proofs.Ythlldjknmdndoaa.monoMuls
open Go.ChangeShapes Go.WideShapes Go.ChangeAt Go.RowKit Go.Joins

set_option maxRecDepth 100000 in
set_option maxHeartbeats 2000000 in
theorem walk {a b : Value} {l m : List Int} {w : World} (ha : SeesI w a l) (hb : SeesI w b m) : Calls Try.prog 5 #[a, b] w fun e w' => e = .returned (.bool true) ∧ Below w.heap.size w w' := by
  have HA : Hid (∀ w1, Below w.heap.size w w1 → SeesI w1 a l) := fun w1 h => SeesI.below ha h
  have HB : Hid (∀ w1, Below w.heap.size w w1 → SeesI w1 b m) := fun w1 h => SeesI.below hb h
  have hl1 := ha.len
  have hl2 := hb.len
  have B0 := hidP (Below.refl w.heap.size w)
  have C0 := hidP awake6
  obtain ⟨A, ca, rfl, hca⟩ := SeesF.form ha
  obtain ⟨Bq, cb, rfl, hcb⟩ := SeesF.form hb
  clear ha hb
  by_cases h1 : (l.length : Int) > 1000
  · clear HA HB
    go_enter Try.func5, Try.ntmps5
    go_wp2_with fail
    refine (C0.out _).mono ?_
    rintro e w1 ⟨rfl, hb1⟩
    have B1 := hidP (step_below B0.out hb1)
    clear hb1
    go_wp2
    go_ret
    exact ⟨rfl, B1.out⟩
  by_cases h2 : (m.length : Int) > 1000
  · clear HA HB
    go_enter Try.func5, Try.ntmps5
    go_wp2_with fail
    refine (C0.out _).mono ?_
    rintro e w1 ⟨rfl, hb1⟩
    have B1 := hidP (step_below B0.out hb1)
    clear hb1
    go_wp2
    go_ret
    exact ⟨rfl, B1.out⟩
  have hn1 : l.length ≤ 4096 := by omega
  have hn2 : m.length ≤ 4096 := by omega
  go_enter Try.func5, Try.ntmps5
  go_wp2_with fail
  refine (mono_Mul (HA.out _ B0.out) (HB.out _ B0.out) hn1).mono ?_
  rintro e w1 ⟨p, rfl, hp, hb1⟩
  have B1 := hidP (step_below B0.out hb1)
  clear hb1
  have P := hidP hp
  clear hp
  go_wp2_with fail
  refine (ref_Mul (HA.out _ B1.out) (HB.out _ B1.out) hn1).mono ?_
  rintro e w2 ⟨q, rfl, hq, hb2⟩
  have B2 := hidP (step_below B1.out hb2)
  replace P := hidP (P.out.below hb2)
  clear hb2
  have Q := hidP hq
  clear hq
  go_wp2_with fail
  refine (mono_Div (HA.out _ B2.out) (HB.out _ B2.out) hn1).mono ?_
  rintro e w3 ⟨c, rfl, hc, hb3⟩
  have B3 := hidP (step_below B2.out hb3)
  replace P := hidP (P.out.below hb3)
  replace Q := hidP (Q.out.below hb3)
  clear hb3
  have C := hidP hc
  clear hc
  go_wp2_with fail
  refine (ref_Div (HA.out _ B3.out) (HB.out _ B3.out) hn1).mono ?_
  rintro e w4 ⟨d, rfl, hd, hb4⟩
  have B4 := hidP (step_below B3.out hb4)
  replace P := hidP (P.out.below hb4)
  replace Q := hidP (Q.out.below hb4)
  replace C := hidP (C.out.below hb4)
  clear hb4
  have D := hidP hd
  clear hd
  go_wp2_with fail
  refine (C0.out _).mono ?_
  rintro e w5 ⟨rfl, hb5⟩
  have B5 := hidP (step_below B4.out hb5)
  replace P := hidP (P.out.below hb5)
  replace Q := hidP (Q.out.below hb5)
  replace C := hidP (C.out.below hb5)
  replace D := hidP (D.out.below hb5)
  clear hb5
  go_wp2_with fail
  refine (same_true P.out Q.out).mono ?_
  rintro e w6 ⟨rfl, hb6⟩
  have B6 := hidP (step_below B5.out hb6)
  replace P := hidP (P.out.below hb6)
  replace Q := hidP (Q.out.below hb6)
  replace C := hidP (C.out.below hb6)
  replace D := hidP (D.out.below hb6)
  clear hb6
  go_wp2_with fail
  refine (same_true C.out D.out).mono ?_
  rintro e w7 ⟨rfl, hb7⟩
  have B7 := hidP (step_below B6.out hb7)
  replace P := hidP (P.out.below hb7)
  replace Q := hidP (Q.out.below hb7)
  replace C := hidP (C.out.below hb7)
  replace D := hidP (D.out.below hb7)
  clear hb7
  go_wp2
  go_ret
  exact ⟨rfl, B7.out⟩

/-! ### The row's step -/
set_option maxRecDepth 100000 in
theorem contract (H : Type) (enc : TypeId × Value → H) (W : World) (base : Nat) (args : Array Value) (ds gs : List (DataW H)) (before : List MemPlace)
    (hval0 : ∀ (j : Nat) t v, Try.f5.params[j]? = some t → args[j]? = some v → Value.okWide Try.prog W .any base t v)
    (hW : DataW.Whole enc Try.prog Try.f5.params.toList Rows.monoMulsSpec.vars false W args.toList ds gs before)
    (hsz0 : (DataW.weightsEach Try.prog (Try.f5.params.toList ++ Rows.monoMulsSpec.plain.varTypes Try.prog) (ds ++ gs)).all (· ≤ reachBytes) = true) :
    Calls Try.prog 5 args W fun e W' => ∃ v, e = .returned v ∧ Rows.monoMulsSpec.post enc Try.prog Try.f5 false true false false W args v W' := by
  have hW' := hW
  obtain ⟨p, q, hA0, hV, rfl, hfz, hnd⟩ := hW
  have hA : DataW.TrodAll enc Try.prog W 0 (fun _ => true) true Try.f5.params.toList args.toList ds p := hA0
  have hval : ∀ (j : Nat) t v, Try.f5.params[j]? = some t → args[j]? = some v → Value.okWide Try.prog W .any base t v := hval0
  have hsz : (DataW.weightsEach Try.prog (Try.f5.params.toList ++ []) (ds ++ gs)).all (· ≤ reachBytes) = true := hsz0
  rw [Try.params5] at hA hval hsz
  obtain ⟨v0, vs0, d0, ds0, p0, q0, hargs, rfl, rfl, h0, r0⟩ := trodAll_cons hA
  obtain ⟨v1, vs1, d1, ds1, p1, q1, rfl, rfl, rfl, h1, r1⟩ := trodAll_cons r0
  obtain ⟨rfl, rfl, rfl⟩ := trodAll_nil r1
  obtain rfl : args = #[v0, v1] := by cases args; simp_all
  obtain ⟨rfl, rfl⟩ := trodVars_none hV
  obtain ⟨l0, s0⟩ := open_il (hval 0 25 v0 rfl rfl) h0 (fun elems spare e => by subst e; exact sized_slice hsz (j := 0) (t := 25) (e := 3) rfl rfl Try.underlying25)
  obtain ⟨l1, s1⟩ := open_il (hval 1 25 v1 rfl rfl) h1 (fun elems spare e => by subst e; exact sized_slice hsz (j := 1) (t := 25) (e := 3) rfl rfl Try.underlying25)
  refine (walk s0 s1).mono fun e W' ⟨he, hb⟩ => ?_
  subst he
  exact ⟨_, rfl, _, _, _, _, _, _, hW', trodAll_cons_mk (shut_bool Try.underlying4 _) trodAll_mk0, trodAll_cons_mk (Below.trod laidOut (by kernel_rfl) (of_decide_eq_true (by kernel_rfl)) h0 hb (fun x hx => by first | cases hx; done | (have := hW'.lt x (by simp [hx]); simpa using this))) (trodAll_cons_mk (Below.trod laidOut (by kernel_rfl) (of_decide_eq_true (by kernel_rfl)) h1 hb (fun x hx => by first | cases hx; done | (have := hW'.lt x (by simp [hx]); simpa using this))) (trodAll_mk0)), rfl, hb.frame _, fun h => by cases h⟩

set_option maxRecDepth 100000 in
theorem lifted (os : Os) (started : os.Started) (H : Type) (enc : TypeId × Value → H) :
    ReturnsInHanded {} Try.checked os 5 .any (Rows.monoMulsSpec.pre6 enc Try.prog Try.f5 Rows.monoMulsRow.domain false) (Rows.monoMulsSpec.post enc Try.prog Try.f5 false true false false) := by
  refine returnsInHanded_of_change_shaped (C := Try.checked) own started (by kernel_rfl) Try.func5
    (ChangeSpec.witness6 (enc := enc) (C := Try.checked) false ⟨#[], #[.slice none 0 0, .slice none 0 0], []⟩ 8 (by kernel_rfl) (by kernel_rfl) (by kernel_rfl) (by kernel_rfl)) ?_
  intro W base args ds gs before hval0 hW _ hsz _ _
  exact contract H enc W base args ds gs before hval0 hW hsz

theorem holds : Rows.MonoMulsSaid :=
  OpenClaim.holds_of_wide 5 Try.f5 rfl rfl rfl rfl rfl rfl rfl ⟨rfl, rfl, rfl, rfl, rfl⟩ rfl rfl rfl rfl rfl (by kernel_rfl) Try.func5 (by kernel_rfl)
    (of_decide_eq_true (by kernel_rfl)) (by unfold Func.isWrapper; first | (rw [if_pos (by decide +kernel)]; kernel_rfl) | (rw [if_neg (by decide +kernel)]; exact ⟨rfl, rfl⟩))
    (fun os started H enc _ => lifted os started H enc)
end Go.Proofs.Ythlldjknmdndoaa.monoMuls
