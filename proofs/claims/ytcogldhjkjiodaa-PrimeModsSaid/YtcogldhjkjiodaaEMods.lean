/- For every whole number a, fraction x and int p: prime.Mod and prime.Of answer what the document's Mod and Of answer (a of 40 limbs at most, x of 8). Conditions: none. -/
import Derived.Test.YtcogldhjkjiodaaPm3
import Derived.Test.YtcogldhjkjiodaaOq
import Derived.Test.YtcogldhjkjiodaaKB
import Derived.HandedShaped
set_option linter.unusedVariables false
set_option linter.unusedSimpArgs false
namespace Go.Proofs.Ytcogldhjkjiodaa.primeMods
open Go.ChangeShapes Go.WideShapes Go.ChangeAt Go.RowKit

set_option maxRecDepth 100000 in
set_option maxHeartbeats 4000000 in
theorem walk {va vb : Value} {na nb : Bool} {la lb ld : List Nat} {p : Int} {w : World} (ha : SeesZ w va na la) (hla : la.length ≤ 35184372087808) (hb : SeesQ w vb nb lb ld) (hlb : lb.length ≤ 35184372087808) (hld : ld.length ≤ 35184372087808) (hp : (Lit.int .i64 p).wf = true) :
    Calls Try.prog 3 #[va, vb, .int .i64 p] w fun e w' => e = .returned (.bool true) ∧ Below w.heap.size w w' := by
  obtain ⟨p1, p2⟩ := int_bounds5 hp
  have C0 := hid awake5
  obtain ⟨ma, rfl, hma⟩ := ha
  have HMA := hid hma
  have HMB := hid hb
  obtain ⟨ao, ca, rfl, -, -, -, -, -⟩ := hma
  obtain ⟨bo, cb, do', cd, rfl⟩ := hb.form
  obtain ⟨y, hy⟩ : ∃ y, y = (w.alloc (.cells #[.bool na, .slice ao la.length ca] 24)).alloc (.cells #[.bool nb, .slice bo lb.length cb, .slice do' ld.length cd] 26) := ⟨_, rfl⟩
  have b : Below w.heap.size w y := by rw [hy]; exact ((Below.refl _ w).alloc (Nat.le_refl _) _).alloc (by simp) _
  have xA : Blk y w.heap.size #[.bool na, .slice ao la.length ca] := by rw [hy]; exact (Blk.new w _ _).alloc _
  have xB : Blk y (w.heap.size + 1) #[.bool nb, .slice bo lb.length cb, .slice do' ld.length cd] := by
    rw [hy]
    have := Blk.new (w.alloc (.cells #[.bool na, .slice ao la.length ca] 24)) #[.bool nb, .slice bo lb.length cb, .slice do' ld.length cd] 26
    rwa [Deep.nblk_alloc] at this
  obtain ⟨gB, e2⟩ : ∃ g, g = w.heap.size + 1 := ⟨_, rfl⟩
  obtain ⟨gA, e1⟩ : ∃ g, g = w.heap.size := ⟨_, rfl⟩
  rw [← e2] at xB; rw [← e1] at xA
  have HY := hid hy.symm; have E1 := hid e1.symm; have E2 := hid e2.symm
  have XA := hid xA; have XB := hid xB
  have HBel := hid b
  have HA : Hid (SeesZ y (.agg #[.bool na, .slice ao la.length ca]) na la) := hid ⟨_, rfl, HMA.out.below b⟩
  have HB := hid (HMB.out.below b)
  have HM1 := hid (fun (w : World) (h : SeesZ w (.agg #[.bool na, .slice ao la.length ca]) na la) (hl : la.length ≤ 40) => prime_mod h (by omega) p p1 p2)
  have HM2 := hid (fun (w : World) (h : SeesZ w (.agg #[.bool na, .slice ao la.length ca]) na la) (hl : la.length ≤ 40) => ref5_mod h (by omega) p p1 p2)
  have HM3 := hid (fun (w : World) (h : SeesQ w (.agg #[.bool nb, .slice bo lb.length cb, .slice do' ld.length cd]) nb lb ld) (h1 : lb.length ≤ 8) (h2 : ld.length ≤ 8) => prime_of h (by omega) (by omega) p p1 p2)
  have HM4 := hid (fun (w : World) (h : SeesQ w (.agg #[.bool nb, .slice bo lb.length cb, .slice do' ld.length cd]) nb lb ld) (h1 : lb.length ≤ 8) (h2 : ld.length ≤ 8) => ref5_of h (by omega) (by omega) p p1 p2)
  simp only [IsMod, IsOf] at HM1 HM2 HM3 HM4
  generalize modP (zval na la) p = v1 at *
  generalize errP p = v2 at *
  generalize ofV (qnum (zval nb lb) (val ld)) (qden (zval nb lb) (val ld)) p = v3 at *
  generalize ofE (qden (zval nb lb) (val ld)) p = v4 at *
  clear hy e1 e2 xA xB b HMA HMB hp p1 p2 hb
  go_enter Try.func3, Try.ntmps3
  by_cases a40 : la.length > 40
  · clear HM1 HM2 HM3 HM4
    go_wp2_with fail
    rw [HY.out, E2.out, E1.out]
    refine (C0.out _).mono ?_
    rintro e w0 ⟨rfl, hb0⟩
    have H0 := hid (HBel.out.trans (hb0.mono HBel.out.size))
    clear hb0
    go_wp2_with fail
    go_ret
    exact ⟨rfl, H0.out⟩
  by_cases b8 : lb.length > 8
  · clear HM1 HM2 HM3 HM4
    go_wp2_with fail
    rw [HY.out, E2.out, E1.out]
    refine (C0.out _).mono ?_
    rintro e w0 ⟨rfl, hb0⟩
    have H0 := hid (HBel.out.trans (hb0.mono HBel.out.size))
    clear hb0
    go_wp2_with fail
    go_ret
    exact ⟨rfl, H0.out⟩
  by_cases d8 : ld.length > 8
  · clear HM1 HM2 HM3 HM4
    go_wp2_with fail
    rw [HY.out, E2.out, E1.out]
    refine (C0.out _).mono ?_
    rintro e w0 ⟨rfl, hb0⟩
    have H0 := hid (HBel.out.trans (hb0.mono HBel.out.size))
    clear hb0
    go_wp2_with fail
    go_ret
    exact ⟨rfl, H0.out⟩
  have M1 := hid (HM1.out _ HA.out (by omega))
  obtain ⟨a0, a1, -, -⟩ := XA.out.open2
  obtain ⟨b0, b1, b2, -, -, -⟩ := XB.out.open3
  go_wp2_with fail
  rw [HY.out, E2.out, E1.out]
  clear HY E1 E2
  refine M1.out.mono ?_
  rintro e w1 ⟨rfl, hb1⟩
  clear M1 a0 a1 b0 b1 b2
  have N1 := hid (XA.out.below hb1); have N2 := hid (XB.out.below hb1); have N3 := hid (HA.out.below hb1); have N4 := hid (HB.out.below hb1); have N5 := hid (HBel.out.trans (hb1.mono HBel.out.size))
  clear XA XB HA HB HBel hb1
  have XA := N1; have XB := N2; have HA := N3; have HB := N4; have HBel := N5
  clear N1 N2 N3 N4 N5
  have M2 := hid (HM2.out _ HA.out (by omega))
  obtain ⟨a0, a1, -, -⟩ := XA.out.open2
  obtain ⟨b0, b1, b2, -, -, -⟩ := XB.out.open3
  go_wp2_with fail
  refine M2.out.mono ?_
  rintro e w2 ⟨rfl, hb2⟩
  clear M2 a0 a1 b0 b1 b2
  have N1 := hid (XA.out.below hb2); have N2 := hid (XB.out.below hb2); have N3 := hid (HA.out.below hb2); have N4 := hid (HB.out.below hb2); have N5 := hid (HBel.out.trans (hb2.mono HBel.out.size))
  clear XA XB HA HB HBel hb2
  have XA := N1; have XB := N2; have HA := N3; have HB := N4; have HBel := N5
  clear N1 N2 N3 N4 N5
  have M3 := hid (HM3.out _ HB.out (by omega) (by omega))
  obtain ⟨a0, a1, -, -⟩ := XA.out.open2
  obtain ⟨b0, b1, b2, -, -, -⟩ := XB.out.open3
  go_wp2_with fail
  refine M3.out.mono ?_
  rintro e w3 ⟨rfl, hb3⟩
  clear M3 a0 a1 b0 b1 b2
  have N1 := hid (XA.out.below hb3); have N2 := hid (XB.out.below hb3); have N3 := hid (HA.out.below hb3); have N4 := hid (HB.out.below hb3); have N5 := hid (HBel.out.trans (hb3.mono HBel.out.size))
  clear XA XB HA HB HBel hb3
  have XA := N1; have XB := N2; have HA := N3; have HB := N4; have HBel := N5
  clear N1 N2 N3 N4 N5
  have M4 := hid (HM4.out _ HB.out (by omega) (by omega))
  obtain ⟨a0, a1, -, -⟩ := XA.out.open2
  obtain ⟨b0, b1, b2, -, -, -⟩ := XB.out.open3
  go_wp2_with fail
  refine M4.out.mono ?_
  rintro e w4 ⟨rfl, hb4⟩
  clear M4 a0 a1 b0 b1 b2
  have N1 := hid (XA.out.below hb4); have N2 := hid (XB.out.below hb4); have N3 := hid (HA.out.below hb4); have N4 := hid (HB.out.below hb4); have N5 := hid (HBel.out.trans (hb4.mono HBel.out.size))
  clear XA XB HA HB HBel hb4
  have XA := N1; have XB := N2; have HA := N3; have HB := N4; have HBel := N5
  clear N1 N2 N3 N4 N5
  go_wp2_with fail
  refine (C0.out _).mono ?_
  rintro e w9 ⟨rfl, hb9⟩
  have H9 := hid (HBel.out.trans (hb9.mono HBel.out.size))
  clear hb9
  go_wp2_with fail
  go_ret
  exact ⟨rfl, H9.out⟩

/-! ### The row's step -/
set_option maxRecDepth 100000 in
theorem contract (H : Type) (enc : TypeId × Value → H) (W : World) (base : Nat) (args : Array Value) (ds gs : List (DataW H)) (before : List MemPlace)
    (hval0 : ∀ (j : Nat) t v, Try.f3.params[j]? = some t → args[j]? = some v → Value.okWide Try.prog W .any base t v)
    (hW : DataW.Whole enc Try.prog Try.f3.params.toList Rows.primeModsSpec.vars false W args.toList ds gs before)
    (hsz0 : (DataW.weightsEach Try.prog (Try.f3.params.toList ++ Rows.primeModsSpec.plain.varTypes Try.prog) (ds ++ gs)).all (· ≤ reachBytes) = true) :
    Calls Try.prog 3 args W fun e W' => ∃ v, e = .returned v ∧ Rows.primeModsSpec.post enc Try.prog Try.f3 false true false false W args v W' := by
  have hW' := hW
  obtain ⟨p, q, hA0, hV, rfl, hfz, hnd⟩ := hW
  have hA : DataW.TrodAll enc Try.prog W 0 (fun _ => true) true Try.f3.params.toList args.toList ds p := hA0
  have hval : ∀ (j : Nat) t v, Try.f3.params[j]? = some t → args[j]? = some v → Value.okWide Try.prog W .any base t v := hval0
  have hsz : (DataW.weightsEach Try.prog (Try.f3.params.toList ++ []) (ds ++ gs)).all (· ≤ reachBytes) = true := hsz0
  rw [Try.params3] at hA hval hsz
  obtain ⟨v0, vs0, d0, ds0, p0, q0, hargs, rfl, rfl, h0, r0⟩ := trodAll_cons hA
  obtain ⟨v1, vs1, d1, ds1, p1, q1, rfl, rfl, rfl, h1, r1⟩ := trodAll_cons r0
  obtain ⟨v2, vs2, d2, ds2, p2, q2, rfl, rfl, rfl, h2, r2⟩ := trodAll_cons r1
  obtain ⟨rfl, rfl, rfl⟩ := trodAll_nil r2
  obtain rfl : args = #[v0, v1, v2] := by cases args; simp_all
  obtain ⟨rfl, rfl⟩ := trodVars_none hV
  obtain ⟨g0, l0, s0, b0⟩ := open_z (hval 0 24 v0 rfl rfl) h0 (fun parts e => by subst e; exact sized_part hsz (j := 0) (t := 24) rfl rfl)
  obtain ⟨g1, l1, m1, s1, bl1, bm1⟩ := open_q (hval 1 26 v1 rfl rfl) h1 (sized_arg hsz (j := 1) (t := 26) rfl rfl)
  have k2 := h2
  obtain ⟨n2, rfl, rfl, rfl, wn2⟩ := open_int Try.underlying3 (hval 2 3 v2 rfl rfl) h2
  refine (walk s0 b0 s1 bl1 bm1 wn2).mono fun e W' ⟨he, hb⟩ => ?_
  subst he
  exact ⟨_, rfl, _, _, _, _, _, _, hW', trodAll_cons_mk (shut_bool Try.underlying4 _) trodAll_mk0, trodAll_cons_mk (Below.trod laidOut (by kernel_rfl) (of_decide_eq_true (by kernel_rfl)) h0 hb (fun x hx => by first | cases hx; done | (have := hW'.lt x (by simp [hx]); simpa using this))) (trodAll_cons_mk (Below.trod laidOut (by kernel_rfl) (of_decide_eq_true (by kernel_rfl)) h1 hb (fun x hx => by first | cases hx; done | (have := hW'.lt x (by simp [hx]); simpa using this))) (trodAll_cons_mk (Below.trod laidOut (by kernel_rfl) (of_decide_eq_true (by kernel_rfl)) k2 hb (fun x hx => by first | cases hx; done | (have := hW'.lt x (by simp [hx]); simpa using this))) (trodAll_mk0))), rfl, hb.frame _, fun h => by cases h⟩

set_option maxRecDepth 100000 in
theorem lifted (os : Os) (started : os.Started) (H : Type) (enc : TypeId × Value → H) :
    ReturnsInHanded {} Try.checked os 3 .any (Rows.primeModsSpec.pre6 enc Try.prog Try.f3 Rows.primeModsRow.domain false) (Rows.primeModsSpec.post enc Try.prog Try.f3 false true false false) := by
  refine returnsInHanded_of_change_shaped (C := Try.checked) own started (by kernel_rfl) Try.func3
    (ChangeSpec.witness6 (enc := enc) (C := Try.checked) false ⟨#[], #[.agg #[.bool false, .slice none 0 0], .agg #[.bool false, .slice none 0 0, .slice none 0 0], .int .i64 0], []⟩ 8 (by kernel_rfl) (by kernel_rfl) (by kernel_rfl) (by kernel_rfl)) ?_
  intro W base args ds gs before hval0 hW _ hsz _ _
  exact contract H enc W base args ds gs before hval0 hW hsz

theorem holds : Rows.PrimeModsSaid :=
  OpenClaim.holds_of_wide 3 Try.f3 rfl rfl rfl rfl rfl rfl rfl ⟨rfl, rfl, rfl, rfl, rfl⟩ rfl rfl rfl rfl rfl (by kernel_rfl) Try.func3 (by kernel_rfl)
    (of_decide_eq_true (by kernel_rfl)) (by unfold Func.isWrapper; first | (rw [if_pos (by decide +kernel)]; kernel_rfl) | (rw [if_neg (by decide +kernel)]; exact ⟨rfl, rfl⟩))
    (fun os started H enc _ => lifted os started H enc)
end Go.Proofs.Ytcogldhjkjiodaa.primeMods
