/- Floats less themselves. The document's rank, Order, Same of floats. The document's Order of floats: it is approx.Order's. The document's Order by its contract. Floats stand in one order; the document's Same; the statements' same. -/
import Derived.Test.YtjnbonellgpjnaaGreatKO
set_option linter.unusedVariables false
set_option linter.unusedSimpArgs false
namespace Go.Proofs.YtjnbonellgpjnaaGreat
open Go.RowKit

theorem sub_self {b : Nat} (h : rung b < 9218868437227405312) : Ieee.double.sub b b = some 0 := by
  obtain ⟨m, i, e1, e2⟩ := read_fin h
  unfold Ieee.Format.sub
  rw [e1]
  show some (Ieee.double.write _) = some 0
  have : (Ieee.signed (fneg b) m (((i : Int) - 1074) - min ((i : Int) - 1074) ((i : Int) - 1074)).toNat + Ieee.signed (!fneg b) m (((i : Int) - 1074) - min ((i : Int) - 1074) ((i : Int) - 1074)).toNat) = 0 := by
    rw [signed_shift, signed_shift]
    cases fneg b <;> simp <;> omega
  refine congrArg some ?_
  rw [this]
  simp
  unfold Ieee.Format.write
  rfl
theorem sub_none {b : Nat} (h : isInf b = true) : Ieee.double.sub b b = none := by
  unfold Ieee.Format.sub
  rw [read_inf h]
  show (Option.map _ (if fneg b = !fneg b then _ else none)) = none
  rw [if_neg (by cases fneg b <;> decide)]
  rfl
theorem run_sub {x y r : Nat} (t : TypeId) (w : World) (h : Ieee.double.sub x y = some r) : (binOp .sub t (.float .f64 x) (.float .f64 y)).run Tryz.prog w = .ok (.float .f64 r) w :=
  run_float_arith w .sub t .f64 x y r h
theorem run_quo {x y r : Nat} (t : TypeId) (w : World) (h : Ieee.double.div x y = some r) : (binOp .quo t (.float .f64 x) (.float .f64 y)).run Tryz.prog w = .ok (.float .f64 r) w :=
  run_float_arith w .quo t .f64 x y r h
theorem run_add {x y r : Nat} (t : TypeId) (w : World) (h : Ieee.double.add x y = some r) : (binOp .add t (.float .f64 x) (.float .f64 y)).run Tryz.prog w = .ok (.float .f64 r) w :=
  run_float_arith w .add t .f64 x y r h
/-- An operation that has no answer gives some NaN. -/
theorem nan_bits (q : Nat) : isNan ((q % 2) * 2 ^ 63 + 0x7ff0000000000000 + 1 + (q / 2) % (2 ^ 52 - 1)) = true ∧ (q % 2) * 2 ^ 63 + 0x7ff0000000000000 + 1 + (q / 2) % (2 ^ 52 - 1) < 18446744073709551616 := by
  have h1 : q % 2 < 2 := Nat.mod_lt _ (by decide)
  have h2 : (q / 2) % (2 ^ 52 - 1) < 4503599627370495 := Nat.mod_lt _ (by decide)
  generalize q % 2 = a at *
  generalize (q / 2) % (2 ^ 52 - 1) = c at *
  have h3 : a = 0 ∨ a = 1 := by omega
  refine ⟨?_, ?_⟩
  · unfold isNan rung
    rcases h3 with rfl | rfl
    · exact decide_eq_true (by omega)
    · exact decide_eq_true (by omega)
  · rcases h3 with rfl | rfl <;> omega
theorem run_nan_sub {x y : Nat} (t : TypeId) (w : World) (h : Ieee.double.sub x y = none) : ∃ r, (binOp .sub t (.float .f64 x) (.float .f64 y)).run Tryz.prog w = .ok (.float .f64 r) w.drew ∧ isNan r = true ∧ r < 18446744073709551616 := by
  refine ⟨(Question.nanBits .f64 x y).cut (w.tape w.drawn (.nanBits .f64 x y)), ?_, (nan_bits _).1, (nan_bits _).2⟩
  have h' : FloatKind.f64.format.sub x y = none := h
  simp [binOp, Op.floatArith, h', Question.forced]
theorem run_nan_add {x y : Nat} (t : TypeId) (w : World) (h : Ieee.double.add x y = none) : ∃ r, (binOp .add t (.float .f64 x) (.float .f64 y)).run Tryz.prog w = .ok (.float .f64 r) w.drew ∧ isNan r = true ∧ r < 18446744073709551616 := by
  refine ⟨(Question.nanBits .f64 x y).cut (w.tape w.drawn (.nanBits .f64 x y)), ?_, (nan_bits _).1, (nan_bits _).2⟩
  have h' : FloatKind.f64.format.add x y = none := h
  simp [binOp, Op.floatArith, h', Question.forced]

theorem ne_nan {r : Nat} (h : isNan r = true) : (FloatKind.f64.format.order r 0 != some .eq) = true := by
  refine (order_ne r 0).trans ?_
  unfold fnum; rw [h]; rfl
theorem zero_words {b : Nat} (hb : b < 18446744073709551616) (h : isZ0 b = true) : b = if fneg b then 9223372036854775808 else 0 := by
  have h2 := of_decide_eq_true h
  have := word_self hb
  rw [h2] at this
  rw [← this]
  rw [fneg_word _ (by decide)]
  rfl

end Go.Proofs.YtjnbonellgpjnaaGreat

set_option linter.unusedVariables false
set_option linter.unusedSimpArgs false
namespace Go.Proofs.YtjnbonellgpjnaaGreat
open Go.RowKit

/-- None, endless below, below 0, the 0 below, the 0 above, above 0, endless above. -/
def rankF (b : Nat) : Int := if isNan b then 0 else if isZ0 b then (if fneg b then 3 else 4) else if isInf b then (if fneg b then 1 else 6) else (if fneg b then 2 else 5)
set_option maxRecDepth 100000 in
set_option maxHeartbeats 2000000 in
theorem ref_rank {b : Nat} (hb : b < 18446744073709551616) (w : World) : Calls Tryz.prog 34 #[.float .f64 b] w fun e w' => e = .returned (.int .i64 (rankF b)) ∧ Below w.heap.size w w' := by
  have hn : (FloatKind.f64.format.order b b != some .eq) = isNan b := order_self b
  have hz : (FloatKind.f64.format.order b 0 == some .eq) = isZ0 b := eq_zero b
  unfold rankF
  cases en : isNan b
  · have hl := lt_zero en
    rw [en] at hn
    cases ez : isZ0 b
    · rw [ez] at hz hl
      simp only [Bool.not_false, Bool.and_true] at hl
      cases ei : isInf b
      · have hr : rung b < 9218868437227405312 := by
          have h1 := of_decide_eq_false en
          have h2 := of_decide_eq_false ei
          omega
        have hs := run_sub 30 w (sub_self hr)
        have h0 : (FloatKind.f64.format.order 0 0 != some .eq) = false := by decide +kernel
        cases ef : fneg b
        · rw [ef] at hl
          clear en ez ei ef hr
          go_enter Tryz.func34, Tryz.ntmps34
          go_wp2_with fail
          go_ret
          exact ⟨rfl, Below.refl _ _⟩
        · rw [ef] at hl
          clear en ez ei ef hr
          go_enter Tryz.func34, Tryz.ntmps34
          go_wp2_with fail
          go_ret
          exact ⟨rfl, Below.refl _ _⟩
      · obtain ⟨r, hs, hrn, -⟩ := run_nan_sub 30 w (sub_none ei)
        have h0 := ne_nan hrn
        cases ef : fneg b
        · rw [ef] at hl
          clear en ez ei ef hrn
          go_enter Tryz.func34, Tryz.ntmps34
          go_wp2_with fail
          go_ret
          exact ⟨rfl, (Below.refl _ _).drew⟩
        · rw [ef] at hl
          clear en ez ei ef hrn
          go_enter Tryz.func34, Tryz.ntmps34
          go_wp2_with fail
          go_ret
          exact ⟨rfl, (Below.refl _ _).drew⟩
    · have hw := zero_words hb ez
      rw [ez] at hz hl
      simp only [Bool.not_true, Bool.and_false] at hl
      cases ef : fneg b
      · rw [ef] at hw
        simp only [Bool.false_eq_true, if_false] at hw
        subst hw
        have hq := run_quo 30 w (x := 4607182418800017408) (y := 0) (r := 9218868437227405312) (by decide +kernel)
        have h0 : (FloatKind.f64.format.order 9218868437227405312 0 == some .lt) = false := by decide +kernel
        clear en ez ef hb
        go_enter Tryz.func34, Tryz.ntmps34
        go_wp2_with fail
        go_ret
        exact ⟨rfl, Below.refl _ _⟩
      · rw [ef] at hw
        simp only [if_true] at hw
        subst hw
        have hq := run_quo 30 w (x := 4607182418800017408) (y := 9223372036854775808) (r := 18442240474082181120) (by decide +kernel)
        have h0 : (FloatKind.f64.format.order 18442240474082181120 0 == some .lt) = true := by decide +kernel
        clear en ez ef hb
        go_enter Tryz.func34, Tryz.ntmps34
        go_wp2_with fail
        go_ret
        exact ⟨rfl, Below.refl _ _⟩
  · rw [en] at hn
    clear en hz
    go_enter Tryz.func34, Tryz.ntmps34
    go_wp2_with fail
    go_ret
    exact ⟨rfl, Below.refl _ _⟩
end Go.Proofs.YtjnbonellgpjnaaGreat

set_option linter.unusedVariables false
set_option linter.unusedSimpArgs false
namespace Go.Proofs.YtjnbonellgpjnaaGreat
open Go.RowKit

def fltB (a b : Nat) : Bool := fnum a b && decide (srung a < srung b)
def fgtB (a b : Nat) : Bool := fnum a b && decide (srung b < srung a)
def ordR (a b : Nat) : Int := if rankF a < rankF b then -1 else if rankF b < rankF a then 1 else if fltB a b then -1 else if fgtB a b then 1 else 0

/-- A float's kind: 0 NaN, 1 a zero, 2 endless, 3 other. -/
theorem kinds (b : Nat) : (isNan b = true ∧ isZ0 b = false ∧ 9218868437227405312 < rung b) ∨ (isNan b = false ∧ isZ0 b = true ∧ isInf b = false ∧ rung b = 0) ∨ (isNan b = false ∧ isZ0 b = false ∧ isInf b = true ∧ rung b = 9218868437227405312) ∨ (isNan b = false ∧ isZ0 b = false ∧ isInf b = false ∧ 0 < rung b ∧ rung b < 9218868437227405312) := by
  unfold isNan isZ0 isInf
  rcases Nat.lt_trichotomy (rung b) 9218868437227405312 with h | h | h
  · rcases Nat.eq_zero_or_pos (rung b) with h0 | h0
    · right; left; refine ⟨decide_eq_false (by omega), decide_eq_true h0, decide_eq_false (by omega), h0⟩
    · right; right; right; exact ⟨decide_eq_false (by omega), decide_eq_false (by omega), decide_eq_false (by omega), h0, h⟩
  · right; right; left; exact ⟨decide_eq_false (by omega), decide_eq_false (by omega), decide_eq_true h, h⟩
  · left; exact ⟨decide_eq_true h, decide_eq_false (by omega), h⟩
theorem ord_eq (a b : Nat) : ordR a b = ordF a b := by
  unfold ordR ordF
  change _ = (if fltB a b then -1 else if fgtB a b then 1 else cmpZ (stand a) (stand b))
  unfold rankF stand fltB fgtB fnum cmpZ srung
  rcases kinds a with ⟨n1, z1, h1⟩ | ⟨n1, z1, i1, h1⟩ | ⟨n1, z1, i1, h1⟩ | ⟨n1, z1, i1, h1, g1⟩ <;>
  rcases kinds b with ⟨n2, z2, h2⟩ | ⟨n2, z2, i2, h2⟩ | ⟨n2, z2, i2, h2⟩ | ⟨n2, z2, i2, h2, g2⟩ <;>
  simp only [n1, z1, n2, z2, *] <;>
  cases fneg a <;> cases fneg b <;> simp <;> omega
end Go.Proofs.YtjnbonellgpjnaaGreat

set_option linter.unusedVariables false
set_option linter.unusedSimpArgs false
namespace Go.Proofs.YtjnbonellgpjnaaGreat
open Go.RowKit

end Go.Proofs.YtjnbonellgpjnaaGreat

set_option linter.unusedVariables false
set_option linter.unusedSimpArgs false
namespace Go.Proofs.YtjnbonellgpjnaaGreat
open Go.RowKit

/-- A float's place among all. -/
def keyF (b : Nat) : Int := if isNan b then -100000000000000000000 else if isZ0 b then (if fneg b then -1 else 0) else 2 * srung b
theorem ord_key (a b : Nat) : ordF a b = cmpZ (keyF a) (keyF b) := by
  rw [← ord_eq]
  unfold ordR rankF keyF fltB fgtB fnum cmpZ srung
  rcases kinds a with ⟨n1, z1, h1⟩ | ⟨n1, z1, i1, h1⟩ | ⟨n1, z1, i1, h1⟩ | ⟨n1, z1, i1, h1, g1⟩ <;>
  rcases kinds b with ⟨n2, z2, h2⟩ | ⟨n2, z2, i2, h2⟩ | ⟨n2, z2, i2, h2⟩ | ⟨n2, z2, i2, h2, g2⟩ <;>
  simp only [n1, z1, n2, z2, *] <;>
  cases fneg a <;> cases fneg b <;> simp <;> omega
theorem ord_range (a b : Nat) : ordF a b = -1 ∨ ordF a b = 0 ∨ ordF a b = 1 := by
  rw [ord_key]; unfold cmpZ
  split
  · exact .inl rfl
  · split
    · exact .inr (.inr rfl)
    · exact .inr (.inl rfl)
theorem ord_neg (a b : Nat) : ordF b a = -ordF a b := by
  rw [ord_key, ord_key]; unfold cmpZ
  repeat' split
  all_goals omega
theorem ord_le_trans {a b c : Nat} (h1 : ordF a b ≤ 0) (h2 : ordF b c ≤ 0) : ordF a c ≤ 0 := by
  rw [ord_key] at *
  unfold cmpZ at *
  repeat' split at h1
  all_goals repeat' split at h2
  all_goals repeat' split
  all_goals omega

/-- The same number, with the same sign, if it is 0; or both none. -/
def sameB (a b : Nat) : Bool := if isNan a || isNan b then isNan a && isNan b else decide (srung a = srung b) && (!isZ0 a || (fneg a == fneg b))
theorem ord_zero (a b : Nat) : (ordF a b == 0) = decide (keyF a = keyF b) := by
  rw [ord_key]
  unfold cmpZ
  rcases Int.lt_trichotomy (keyF a) (keyF b) with h | h | h
  · rw [if_pos h, decide_eq_false (by omega)]; rfl
  · rw [if_neg (by omega), if_neg (by omega), decide_eq_true h]; rfl
  · rw [if_neg (by omega), if_pos h, decide_eq_false (by omega)]; rfl
theorem ord_same (a b : Nat) : (ordF a b == 0) = sameB a b := by
  rw [ord_zero, Bool.eq_iff_iff]
  unfold keyF sameB srung
  rcases kinds a with ⟨n1, z1, h1⟩ | ⟨n1, z1, i1, h1⟩ | ⟨n1, z1, i1, h1⟩ | ⟨n1, z1, i1, h1, g1⟩ <;>
  rcases kinds b with ⟨n2, z2, h2⟩ | ⟨n2, z2, i2, h2⟩ | ⟨n2, z2, i2, h2⟩ | ⟨n2, z2, i2, h2, g2⟩ <;>
  simp only [n1, z1, n2, z2] <;>
  cases fneg a <;> cases fneg b <;> simp <;> omega
theorem ord_ge {a b : Nat} (ha : isNan a = false) (hb : isNan b = false) (h : ordF a b = 1) : srung b ≤ srung a := by
  rw [ord_key] at h
  unfold keyF cmpZ srung at h
  unfold srung
  rcases kinds a with ⟨n1, z1, h1⟩ | ⟨n1, z1, i1, h1⟩ | ⟨n1, z1, i1, h1⟩ | ⟨n1, z1, i1, h1, g1⟩ <;>
  rcases kinds b with ⟨n2, z2, h2⟩ | ⟨n2, z2, i2, h2⟩ | ⟨n2, z2, i2, h2⟩ | ⟨n2, z2, i2, h2, g2⟩ <;>
  simp only [n1, z1, n2, z2] at h ha hb ⊢ <;> first
    | (cases ha; done)
    | (cases hb; done)
    | (revert h; cases fneg a <;> cases fneg b <;> simp <;> omega)
theorem leq_tests (a b : Nat) : (FloatKind.f64.format.order a b == some .lt || FloatKind.f64.format.order a b == some .eq) = (fnum a b && decide (srung a ≤ srung b)) := by
  rw [show (FloatKind.f64.format.order a b == some .lt) = _ from order_lt a b, show (FloatKind.f64.format.order a b == some .eq) = _ from order_eq a b]
  cases fnum a b
  · simp
  · rcases Int.lt_trichotomy (srung a) (srung b) with h | h | h
    · have h2 : srung a ≤ srung b := by omega
      simp [h, h2]
    · simp [h]
    · have h2 : ¬ srung a < srung b := by omega
      have h3 : ¬ srung a = srung b := by omega
      have h4 : ¬ srung a ≤ srung b := by omega
      simp [h2, h3, h4]
theorem geq_tests (a b : Nat) : (FloatKind.f64.format.order a b == some .gt || FloatKind.f64.format.order a b == some .eq) = (fnum a b && decide (srung b ≤ srung a)) := by
  rw [show (FloatKind.f64.format.order a b == some .gt) = _ from order_gt a b, show (FloatKind.f64.format.order a b == some .eq) = _ from order_eq a b]
  cases fnum a b
  · simp
  · rcases Int.lt_trichotomy (srung a) (srung b) with h | h | h
    · have h2 : ¬ srung b < srung a := by omega
      have h3 : ¬ srung a = srung b := by omega
      have h4 : ¬ srung b ≤ srung a := by omega
      simp [h2, h3, h4]
    · simp [h]
    · have h2 : srung b ≤ srung a := by omega
      simp [h, h2]

set_option maxRecDepth 100000 in
set_option maxHeartbeats 2000000 in
theorem ref_sameF {a b : Nat} (ha : a < 18446744073709551616) (hb : b < 18446744073709551616) (w : World) : Calls Tryz.prog 26 #[.float .f64 a, .float .f64 b] w fun e w' => e = .returned (.bool (sameB a b)) ∧ w = w' := by
  have hna : (FloatKind.f64.format.order a a != some .eq) = isNan a := order_self a
  have hnb : (FloatKind.f64.format.order b b != some .eq) = isNan b := order_self b
  unfold sameB
  cases ea : isNan a
  · cases eb : isNan b
    · rw [ea] at hna; rw [eb] at hnb
      have he : (FloatKind.f64.format.order a b == some .eq) = decide (srung a = srung b) := by
        refine (order_eq a b).trans ?_
        unfold fnum; rw [ea, eb]; rfl
      have hz : (FloatKind.f64.format.order a 0 != some .eq) = !isZ0 a := by
        have := eq_zero a
        unfold bne
        exact congrArg (! ·) this
      by_cases hs : srung a = srung b
      · rw [show decide (srung a = srung b) = true from decide_eq_true hs] at he ⊢
        cases ez : isZ0 a
        · rw [ez] at hz
          clear ea eb hs ez
          go_enter Tryz.func26, Tryz.ntmps26
          go_wp2_with fail
          go_ret
          exact ⟨by simp, rfl⟩
        · have ezb : isZ0 b = true := by
            rw [← srung_zero] at ez ⊢
            rw [← hs]; exact ez
          have wa := zero_words ha ez
          have wb := zero_words hb ezb
          rw [ez] at hz
          clear ea eb hs ez ezb ha hb
          cases ef : fneg a <;> cases eg : fneg b <;> rw [ef] at wa <;> rw [eg] at wb <;> simp only [Bool.false_eq_true, if_false, if_true] at wa wb <;> subst wa <;> subst wb <;> clear ef eg
          · have q1 := run_quo 30 w (x := 4607182418800017408) (y := 0) (r := 9218868437227405312) (by decide +kernel)
            have t1 : (FloatKind.f64.format.order 9218868437227405312 9218868437227405312 == some .eq) = true := by decide +kernel
            go_enter Tryz.func26, Tryz.ntmps26
            go_wp2_with fail
            go_ret
            exact ⟨by simp, rfl⟩
          · have q1 := run_quo 30 w (x := 4607182418800017408) (y := 0) (r := 9218868437227405312) (by decide +kernel)
            have q2 := run_quo 30 w (x := 4607182418800017408) (y := 9223372036854775808) (r := 18442240474082181120) (by decide +kernel)
            have t1 : (FloatKind.f64.format.order 9218868437227405312 18442240474082181120 == some .eq) = false := by decide +kernel
            go_enter Tryz.func26, Tryz.ntmps26
            go_wp2_with fail
            go_ret
            exact ⟨by simp, rfl⟩
          · have q1 := run_quo 30 w (x := 4607182418800017408) (y := 0) (r := 9218868437227405312) (by decide +kernel)
            have q2 := run_quo 30 w (x := 4607182418800017408) (y := 9223372036854775808) (r := 18442240474082181120) (by decide +kernel)
            have t1 : (FloatKind.f64.format.order 18442240474082181120 9218868437227405312 == some .eq) = false := by decide +kernel
            go_enter Tryz.func26, Tryz.ntmps26
            go_wp2_with fail
            go_ret
            exact ⟨by simp, rfl⟩
          · have q2 := run_quo 30 w (x := 4607182418800017408) (y := 9223372036854775808) (r := 18442240474082181120) (by decide +kernel)
            have t1 : (FloatKind.f64.format.order 18442240474082181120 18442240474082181120 == some .eq) = true := by decide +kernel
            go_enter Tryz.func26, Tryz.ntmps26
            go_wp2_with fail
            go_ret
            exact ⟨by simp, rfl⟩
      · rw [show decide (srung a = srung b) = false from decide_eq_false hs] at he ⊢
        clear ea eb hs hz
        go_enter Tryz.func26, Tryz.ntmps26
        go_wp2_with fail
        go_ret
        exact ⟨by simp, rfl⟩
    · rw [ea] at hna; rw [eb] at hnb
      clear ea eb
      go_enter Tryz.func26, Tryz.ntmps26
      go_wp2_with fail
      go_ret
      exact ⟨by simp, rfl⟩
  · rw [ea] at hna
    cases eb : isNan b <;> rw [eb] at hnb <;> clear ea eb
    · go_enter Tryz.func26, Tryz.ntmps26
      go_wp2_with fail
      go_ret
      exact ⟨by simp, rfl⟩
    · go_enter Tryz.func26, Tryz.ntmps26
      go_wp2_with fail
      go_ret
      exact ⟨by simp, rfl⟩
theorem law_same {a b : Nat} (ha : a < 18446744073709551616) (hb : b < 18446744073709551616) (w : World) : Calls Tryz.prog 10 #[.float .f64 a, .float .f64 b] w fun e w' => e = .returned (.bool (sameB a b)) ∧ w = w' := by
  have HC := hid (ref_sameF ha hb w)
  generalize sameB a b = s at *
  go_enter Tryz.func10, Tryz.ntmps10
  go_wp2_with fail
  refine HC.out.mono ?_
  rintro e w' ⟨rfl, rfl⟩
  go_wp2_with fail
  go_ret
  exact ⟨rfl, rfl⟩
end Go.Proofs.YtjnbonellgpjnaaGreat
