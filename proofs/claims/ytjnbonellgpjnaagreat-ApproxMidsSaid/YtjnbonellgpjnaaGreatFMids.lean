/- For all floats a, b: approx.Mid answers what the document's Mid answers. Conditions: none. -/
import Derived.Test.YtjnbonellgpjnaaGreatMe
import Derived.Test.YtjnbonellgpjnaaGreatKQ
import Derived.Test.YtjnbonellgpjnaaGreatKT
set_option linter.unusedVariables false
set_option linter.unusedSimpArgs false
namespace Go.Proofs.YtjnbonellgpjnaaGreat.approxMids
open Go.ChangeShapes Go.WideShapes Go.ChangeAt Go.RowKit

theorem same_self (m : Nat) : sameB m m = true := by unfold sameB; cases isNan m <;> simp
theorem same_nan {a b : Nat} (h : isNan a = true) (k : isNan b = true) : sameB a b = true := by unfold sameB; rw [h, k]; rfl

set_option maxRecDepth 100000 in
set_option maxHeartbeats 2000000 in
theorem steps {a b m : Nat} (h1 : MidIs a b m) (hm : m < 18446744073709551616) {P : Nat → Prop} (h2 : MidDoc a b P) (hP : ∀ r, P r → sameB m r = true) (w : World) :
    Calls Tryz.prog 5 #[.float .f64 a, .float .f64 b] w fun e w' => e = .returned (.bool true) ∧ Below w.heap.size w w' := by
  have H1 := hid h1; have H2 := hid h2; have HP := hid hP
  have HS := hid (fun (r : Nat) (hr : r < 18446744073709551616) (w : World) => law_same hm hr w)
  clear h1 h2 hP hm
  go_enter Tryz.func5, Tryz.ntmps5
  go_wp2_with fail
  refine (awakeF _).mono ?_
  rintro e w1 ⟨rfl, hb1⟩
  have B1 := hid hb1
  clear hb1
  go_wp2_with fail
  refine (H1.out _).mono ?_
  rintro e w2 ⟨rfl, hb⟩
  have B2 := hid (B1.out.trans (hb.mono B1.out.size))
  clear hb B1 H1
  go_wp2_with fail
  refine (H2.out _).mono ?_
  rintro e w3 ⟨r, rfl, hr, hlt, hb⟩
  have B3 := hid (B2.out.trans (hb.mono B2.out.size))
  have HSR := hid (HS.out r hlt w3)
  rw [HP.out r hr] at HSR
  clear hb B2 H2 HS hr hlt
  go_wp2_with fail
  refine HSR.out.mono ?_
  rintro e w' ⟨rfl, rfl⟩
  go_wp2_with fail
  go_ret
  exact ⟨by simp, B3.out⟩

theorem rank_zero {a : Nat} : (rankF a == 0) = isNan a := by
  unfold rankF
  cases isNan a <;> cases isZ0 a <;> cases isInf a <;> cases fneg a <;> rfl

theorem inf_word {a : Nat} (h : a < 18446744073709551616) (hi : isInf a = true) : Ieee.double.word (fneg a) 9218868437227405312 = a := by
  have h1 := of_decide_eq_true hi
  have h2 := word_self h
  rw [h1] at h2
  exact (word_eq _ _).trans h2
theorem add_inf {a b : Nat} (h : a < 18446744073709551616) (hi : isInf a = true) (hb : rung b < 9218868437227405312) : Ieee.double.add a b = some a := by
  obtain ⟨m, i, e1, e2⟩ := read_fin hb
  unfold Ieee.Format.add
  rw [read_inf hi, e1]
  show some (Ieee.double.write (.infinity (fneg a))) = some a
  exact congrArg some (inf_word h hi)
theorem add_infs {a b : Nat} (h : a < 18446744073709551616) (hi : isInf a = true) (hj : isInf b = true) : Ieee.double.add a b = if fneg a = fneg b then some a else none := by
  unfold Ieee.Format.add
  rw [read_inf hi, read_inf hj]
  show Option.map _ (if fneg a = fneg b then some (Ieee.Datum.infinity (fneg a)) else none) = _
  by_cases e : fneg a = fneg b
  · rw [if_pos e, if_pos e]
    exact congrArg some (inf_word h hi)
  · rw [if_neg e, if_neg e]; rfl
theorem div_inf {a : Nat} (h : a < 18446744073709551616) (hi : isInf a = true) : Ieee.double.div a 4611686018427387904 = some a := by
  unfold Ieee.Format.div
  rw [read_inf hi, two_read]
  show some (Ieee.double.write (.infinity (fneg a ^^ false))) = some a
  rw [show (fneg a ^^ false) = fneg a by cases fneg a <;> rfl]
  exact congrArg some (inf_word h hi)
theorem half_fin {b : Nat} (hb : rung b < 9218868437227405312) : ∃ y, Ieee.double.div b 4611686018427387904 = some y ∧ rung y < 9218868437227405312 := by
  have h1 := div_two_s hb
  rw [nearest_rung] at h1
  refine ⟨_, h1, ?_⟩
  rw [(rung_word_le _ (rung_le _ _)).1]
  have h2 := rungAt_mono (show mag (rung b) ≤ mag (rung b) * 2 by omega) (-1075)
  have h3 := rungAt_two (m := mag (rung b)) (-1074)
  rw [rungAt_mag hb] at h3
  have h4 : rungAt (mag (rung b) * 2) (-1075) = rung b := h3
  omega
theorem add_nan {a b : Nat} (h : isNan a = true ∨ isNan b = true) : Ieee.double.add a b = none := by
  unfold Ieee.Format.add
  rcases h with h | h
  · obtain ⟨s, f, e⟩ := read_nan h
    rw [e]; rfl
  · obtain ⟨s, f, e⟩ := read_nan h
    rw [e]
    cases Ieee.double.read a <;> rfl
/-- An infinity and a finite float. -/
theorem mid_one {a b : Nat} (ha : a < 18446744073709551616) (hi : isInf a = true) (hb : rung b < 9218868437227405312) : MidIs a b a ∧ MidIs b a a := by
  obtain ⟨y, hy, hyl⟩ := half_fin hb
  have hn : isNan a = false := by have h1 := of_decide_eq_true hi; unfold isNan; rw [h1]; decide
  have h1 := add_inf ha hi hb
  have h2 := add_inf ha hi hyl
  exact ⟨mid_inf h1 ha hn hi (div_inf ha hi) hy h2, mid_inf ((add_comm_f b a).trans h1) ha hn hi hy (div_inf ha hi) ((add_comm_f y a).trans h2)⟩
theorem mag_zero_iff {r : Nat} (h : mag r = 0) : r = 0 := by
  rcases Nat.eq_zero_or_pos r with h0 | h0
  · exact h0
  · have := mag_lt h0
    rw [mag_zero] at this
    omega

/-- Both finite and not both 0: half of the sum, rounded once. -/
theorem mid_word {a b : Nat} (ha : rung a < 9218868437227405312) (hb : rung b < 9218868437227405312) (hz : ¬ (isZ0 a = true ∧ isZ0 b = true)) : MidIs a b (midD a b) ∧ midD a b < 18446744073709551616 ∧ isNan (midD a b) = false := by
  have hword : ∀ (s : Bool) (r : Nat), r ≤ 9218868437227405312 → wordOf s r = Ieee.double.word s r := fun s r _ => (word_eq s r).symm
  have hadd := add_signed ha hb
  have hrl := rung_le (smag a + smag b).natAbs (-1074)
  have hb2 : midD a b < 18446744073709551616 ∧ isNan (midD a b) = false := by
    unfold midD
    split
    · decide
    · rw [hword _ _ (rung_le _ _)]; exact word_bound _ (rung_le _ _)
  refine ⟨?_, hb2⟩
  obtain ⟨sg, hsg⟩ : ∃ sg, (if smag a + smag b = 0 then fneg a && fneg b else decide (smag a + smag b < 0)) = sg := ⟨_, rfl⟩
  rw [hsg] at hadd
  have hw := word_bound sg hrl
  have hrw := rung_word_le sg hrl
  obtain ⟨s, hse⟩ : ∃ s, Ieee.double.word sg (rungAt (smag a + smag b).natAbs (-1074)) = s := ⟨_, rfl⟩
  rw [hse] at hadd hw hrw
  have hzero : smag a + smag b = 0 → sg = false := fun e => by
    rw [if_pos e] at hsg
    rw [← hsg]
    cases fa : fneg a
    · rfl
    cases fb : fneg b
    · rfl
    exfalso
    unfold smag at e
    rw [fa, fb] at e
    simp only [if_true] at e
    have e1 : mag (rung a) = 0 := by omega
    have e2 : mag (rung b) = 0 := by omega
    exact hz ⟨by unfold isZ0; exact decide_eq_true (mag_zero_iff e1), by unfold isZ0; exact decide_eq_true (mag_zero_iff e2)⟩
  rcases Nat.lt_or_ge (rungAt (smag a + smag b).natAbs (-1074)) 9218868437227405312 with hfin | hinf
  · have hs : rung s < 9218868437227405312 := by rw [hrw.1]; exact hfin
    have hi : isInf s = false := by unfold isInf; rw [hrw.1]; exact decide_eq_false (by omega)
    have hd := div_two_s hs
    rw [nearest_rung, hrw.1, hrw.2, half_rung hfin] at hd
    have e : Ieee.double.word sg (rungAt (smag a + smag b).natAbs (-1075)) = midD a b := by
      unfold midD
      split
      · rename_i h0
        rw [hzero h0, h0, show rungAt (Int.natAbs 0) (-1075) = 0 from if_pos rfl]
        decide +kernel
      · rename_i h0
        rw [if_neg h0] at hsg
        rw [← hsg, hword _ _ (rung_le _ _)]
    rw [e] at hd
    exact mid_some hadd hw.1 hw.2 hi hd
  · have hr : rungAt (smag a + smag b).natAbs (-1074) = 9218868437227405312 := by omega
    have hr' : rungAt (smag b + smag a).natAbs (-1074) = 9218868437227405312 := by rw [Int.add_comm]; exact hr
    have hi : isInf s = true := by unfold isInf; rw [hrw.1, hr]; rfl
    obtain ⟨x, hx, hxl, hxe⟩ := half_great ha (over_great ha hb hr)
    obtain ⟨y, hy, hyl, hye⟩ := half_great hb (over_great hb ha hr')
    have hadd2 := add_signed hxl hyl
    have hne : smag a + smag b ≠ 0 := by
      intro e
      rw [e, show rungAt (Int.natAbs 0) (-1074) = 0 from if_pos rfl] at hr
      cases hr
    have hsum : smag a + smag b = (smag x + smag y) * 2 := by omega
    have hne2 : smag x + smag y ≠ 0 := by omega
    rw [if_neg hne2] at hadd2
    have e : Ieee.double.word (decide (smag x + smag y < 0)) (rungAt (smag x + smag y).natAbs (-1074)) = midD a b := by
      unfold midD
      rw [if_neg hne, hword _ _ (rung_le _ _), hsum, Int.natAbs_mul]
      have h1 := rungAt_two (m := (smag x + smag y).natAbs) (-1074)
      rw [show (-1074 : Int) - 1 = -1075 by decide] at h1
      rw [show Int.natAbs 2 = 2 by decide, h1]
      have h2 : decide (smag x + smag y < 0) = decide ((smag x + smag y) * 2 < 0) := by
        generalize smag x + smag y = z
        by_cases g : z < 0
        · rw [decide_eq_true g, decide_eq_true (by omega)]
        · rw [decide_eq_false g, decide_eq_false (by omega)]
      rw [h2]
    rw [e] at hadd2
    exact mid_inf hadd hw.1 hw.2 hi hx hy hadd2

theorem zeros_mid {a b s : Nat} (h : Ieee.double.add a b = some s) (hs : s < 18446744073709551616) (hn : isNan s = false) (hi : isInf s = false) (hd : Ieee.double.div s 4611686018427387904 = some s) : MidIs a b s := mid_some h hs hn hi hd

theorem walk {a b : Nat} (ha : a < 18446744073709551616) (hb : b < 18446744073709551616) (w : World) : Calls Tryz.prog 5 #[.float .f64 a, .float .f64 b] w fun e w' => e = .returned (.bool true) ∧ Below w.heap.size w w' := by
  have hra0 := rank_zero (a := a); have hrb0 := rank_zero (a := b)
  have nn : isNan 9221120237041090561 = true := by decide
  have hN : ∀ r, isNan r = true → sameB 9221120237041090561 r = true := fun r hr => same_nan nn hr
  have hE : ∀ m r : Nat, r = m → sameB m r = true := fun m r e => by rw [e]; exact same_self m
  cases ea : isNan a
  · rw [ea] at hra0
    cases eb : isNan b
    · rw [eb] at hrb0
      have fin : ∀ x : Nat, isNan x = false → isInf x = false → rung x < 9218868437227405312 := fun x h1 h2 => by
        have h1 := of_decide_eq_false h1; have h2 := of_decide_eq_false h2; omega
      cases ia : isInf a
      · have hfa := fin a ea ia
        cases ib : isInf b
        · have hfb := fin b eb ib
          by_cases hz : isZ0 a = true ∧ isZ0 b = true
          · obtain ⟨za, zb⟩ := hz
            have wa := zero_words ha za; have wb := zero_words hb zb
            have ta := (eq_zero a).trans za; have tb := (eq_zero b).trans zb
            have go : ∀ s : Nat, Ieee.double.add a b = some s → s < 18446744073709551616 → isNan s = false → isInf s = false → Ieee.double.div s 4611686018427387904 = some s → Calls Tryz.prog 5 #[.float .f64 a, .float .f64 b] w fun e w' => e = .returned (.bool true) ∧ Below w.heap.size w w' := fun s h1 h2 h3 h4 h5 =>
              steps (mid_some h1 h2 h3 h4 h5) h2 (doc_zeros ha hb hra0 hrb0 (sub_self hfa) (sub_self hfb) ta tb s h2 h1 (fun r => r = s) rfl) (hE s) w
            cases fa : fneg a <;> cases fb : fneg b <;> rw [fa] at wa <;> rw [fb] at wb <;> simp only [Bool.false_eq_true, if_false, if_true] at wa wb
            · refine go 0 ?_ (by decide) (by decide) (by decide) (by decide +kernel); rw [wa, wb]; decide +kernel
            · refine go 0 ?_ (by decide) (by decide) (by decide) (by decide +kernel); rw [wa, wb]; decide +kernel
            · refine go 0 ?_ (by decide) (by decide) (by decide) (by decide +kernel); rw [wa, wb]; decide +kernel
            · refine go 9223372036854775808 ?_ (by decide) (by decide) (by decide) (by decide +kernel); rw [wa, wb]; decide +kernel
          · obtain ⟨h1, h2, h3⟩ := mid_word hfa hfb hz
            have hz2 : (FloatKind.f64.format.order a 0 == some .eq) = false ∨ (FloatKind.f64.format.order b 0 == some .eq) = false := by
              rw [show (FloatKind.f64.format.order a 0 == some .eq) = isZ0 a from eq_zero a, show (FloatKind.f64.format.order b 0 == some .eq) = isZ0 b from eq_zero b]
              cases za : isZ0 a
              · exact .inl rfl
              · cases zb : isZ0 b
                · exact .inr rfl
                · exact absurd ⟨za, zb⟩ hz
            refine steps h1 h2 (P := fun r => r = midD a b) (fun w => ?_) (hE _) w
            refine (doc_fin ha hb hfa hfb hra0 hrb0 hz2 w).mono ?_
            rintro e w' ⟨rfl, h4⟩
            exact ⟨_, rfl, rfl, h2, h4⟩
        · have h1 := (mid_one hb ib hfa).2
          have h2 := (add_comm_f a b).trans (add_inf hb ib hfa)
          exact steps h1 hb (doc_infB ha hb hra0 hrb0 (sub_self hfa) (sub_none ib) b hb h2 (fun r => r = b) rfl) (hE b) w
      · cases ib : isInf b
        · have hfb := fin b eb ib
          have h1 := (mid_one ha ia hfb).1
          have h2 := add_inf ha ia hfb
          exact steps h1 ha (doc_infA_s ha hb hra0 hrb0 (sub_none ia) a ha h2 (fun r => r = a) rfl) (hE a) w
        · have h2 := add_infs ha ia ib
          by_cases e : fneg a = fneg b
          · rw [if_pos e] at h2
            have h1 := mid_inf h2 ha ea ia (div_inf ha ia) (div_inf hb ib) h2
            exact steps h1 ha (doc_infA_s ha hb hra0 hrb0 (sub_none ia) a ha h2 (fun r => r = a) rfl) (hE a) w
          · rw [if_neg e] at h2
            exact steps (mid_none h2) (by decide) (doc_infA_n ha hb hra0 hrb0 (sub_none ia) h2 (fun r => isNan r = true) (fun r h => h)) hN w
    · rw [eb] at hrb0
      have h2 := add_nan (a := a) (b := b) (.inr eb)
      exact steps (mid_none h2) (by decide) (doc_nanB ha hb hra0 hrb0 h2 (fun r => isNan r = true) (fun r h => h)) hN w
  · rw [ea] at hra0
    have h2 := add_nan (a := a) (b := b) (.inl ea)
    exact steps (mid_none h2) (by decide) (doc_nanA ha hb hra0 h2 (fun r => isNan r = true) (fun r h => h)) hN w

/-! ### The row's step -/
set_option maxRecDepth 100000 in
theorem contract (H : Type) (enc : TypeId × Value → H) (W : World) (base : Nat) (args : Array Value) (ds gs : List (DataW H)) (before : List MemPlace)
    (hval0 : ∀ (j : Nat) t v, Tryz.f5.params[j]? = some t → args[j]? = some v → Value.okWide Tryz.prog W .any base t v)
    (hW : DataW.Whole enc Tryz.prog Tryz.f5.params.toList Rows.approxMidsSpec.vars false W args.toList ds gs before) :
    Calls Tryz.prog 5 args W fun e W' => ∃ v, e = .returned v ∧ Rows.approxMidsSpec.post enc Tryz.prog Tryz.f5 false true false false W args v W' := by
  have hW' := hW
  obtain ⟨p, q, hA0, hV, rfl, hfz, hnd⟩ := hW
  have hA : DataW.TrodAll enc Tryz.prog W 0 (fun _ => true) true Tryz.f5.params.toList args.toList ds p := hA0
  have hval : ∀ (j : Nat) t v, Tryz.f5.params[j]? = some t → args[j]? = some v → Value.okWide Tryz.prog W .any base t v := hval0
  rw [Tryz.params5] at hA hval
  obtain ⟨v0, vs0, d0, ds0, p0, q0, hargs, rfl, rfl, h0, r0⟩ := trodAll_cons hA
  obtain ⟨v1, vs1, d1, ds1, p1, q1, rfl, rfl, rfl, h1, r1⟩ := trodAll_cons r0
  obtain ⟨rfl, rfl, rfl⟩ := trodAll_nil r1
  obtain rfl : args = #[v0, v1] := by cases args; simp_all
  obtain ⟨rfl, rfl⟩ := trodVars_none hV
  have k0 := h0
  obtain ⟨b0, rfl, rfl, rfl, wb0⟩ := open_float Tryz.underlying30 (hval 0 30 v0 rfl rfl) h0
  have lb0 : b0 < 18446744073709551616 := by simpa [Lit.wf] using wb0
  have k1 := h1
  obtain ⟨b1, rfl, rfl, rfl, wb1⟩ := open_float Tryz.underlying30 (hval 1 30 v1 rfl rfl) h1
  have lb1 : b1 < 18446744073709551616 := by simpa [Lit.wf] using wb1
  refine (walk lb0 lb1 W).mono fun e W' ⟨he, hb⟩ => ?_
  subst he
  exact ⟨_, rfl, _, _, _, _, _, _, hW', trodAll_cons_mk (shut_bool Tryz.underlying4 _) trodAll_mk0, trodAll_cons_mk (Below.trod laidOut (by kernel_rfl) (of_decide_eq_true (by kernel_rfl)) k0 hb (fun x hx => by first | cases hx; done | (have := hW'.lt x (by simp [hx]); simpa using this))) (trodAll_cons_mk (Below.trod laidOut (by kernel_rfl) (of_decide_eq_true (by kernel_rfl)) k1 hb (fun x hx => by first | cases hx; done | (have := hW'.lt x (by simp [hx]); simpa using this))) (trodAll_mk0)), rfl, hb.frame _, fun h => by cases h⟩

set_option maxRecDepth 100000 in
theorem lifted (os : Os) (started : os.Started) (H : Type) (enc : TypeId × Value → H) :
    ReturnsInHanded {} Tryz.checked os 5 .any (Rows.approxMidsSpec.pre6 enc Tryz.prog Tryz.f5 Rows.approxMidsRow.domain false) (Rows.approxMidsSpec.post enc Tryz.prog Tryz.f5 false true false false) := by
  refine returnsInHanded_of_change (C := Tryz.checked) own started (by kernel_rfl) Tryz.func5
    (ChangeSpec.witness6 (enc := enc) (C := Tryz.checked) false ⟨#[], #[.float .f64 0, .float .f64 0], []⟩ 8 (by kernel_rfl) (by kernel_rfl) (by kernel_rfl) (by kernel_rfl)) ?_
  intro W base args ds gs before hval0 hW _ _
  exact contract H enc W base args ds gs before hval0 hW

theorem holds : Rows.ApproxMidsSaid :=
  OpenClaim.holds_of_wide 5 Tryz.f5 rfl rfl rfl rfl rfl rfl rfl ⟨rfl, rfl, rfl, rfl, rfl⟩ rfl rfl rfl rfl rfl (by kernel_rfl) Tryz.func5 (by kernel_rfl)
    (of_decide_eq_true (by kernel_rfl)) (by unfold Func.isWrapper; first | (rw [if_pos (by decide +kernel)]; kernel_rfl) | (rw [if_neg (by decide +kernel)]; exact ⟨rfl, rfl⟩))
    (fun os started H enc _ => lifted os started H enc)
end Go.Proofs.YtjnbonellgpjnaaGreat.approxMids
