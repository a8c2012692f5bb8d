/- mono.Check, mono.Right: by their contracts. -/
import Derived.Test.YthlldjknmdndoaaMoJ
set_option linter.unusedVariables false
set_option linter.unusedSimpArgs false
namespace Go.Proofs.Ythlldjknmdndoaa
open Go.RowKit

/-- A valid ring. -/
def ringB (l : List ByteArray) (o f : Int) : Bool := namesB l && orderB o f l.length
/-- A monomial of a valid ring. -/
def rightB (l : List ByteArray) (o f : Int) (e : List Int) : Bool := decide (e.length = l.length) && (mayB e && ringB l o f)
/-- What Check answers. -/
def checkN (l : List ByteArray) (o f : Int) : Int := if ringB l o f = true then 0 else 70

theorem boxR_below {w : World} (a b c : Value) : Below w.heap.size w (w.alloc (.cells #[a, b, c] 24)) := (Below.refl _ w).alloc (Nat.le_refl _) _

set_option maxHeartbeats 1000000 in
theorem mono_Check {v : Value} {l : List ByteArray} {o f : Int} {w : World} (h : SeesR w v l o f) :
    Calls Try.prog 13 #[v] w fun e w' => e = .returned (.int .i64 (checkN l o f)) ∧ Below w.heap.size w w' := by
  obtain ⟨m, rfl, hm⟩ := h
  have hlen := hm.len
  have C1 := hidP (mono_areNames (hm.below (boxR_below m (.int .i64 o) (.int .i64 f))))
  have C2 := hidP (mono_isOrder o f l.length)
  have HB := hidP (boxR_below (w := w) m (.int .i64 o) (.int .i64 f))
  obtain ⟨A, ca, rfl, hcap⟩ := SeesF.form hm
  clear hm
  have HN := hidP (show checkN l o f = if (namesB l && orderB o f l.length) = true then 0 else 70 from rfl)
  obtain ⟨r, hr⟩ : ∃ r, checkN l o f = r := ⟨_, rfl⟩
  rw [hr] at HN ⊢
  clear hr
  obtain ⟨p, hp⟩ : ∃ p, namesB l = p := ⟨_, rfl⟩
  obtain ⟨q, hq⟩ : ∃ q, orderB o f l.length = q := ⟨_, rfl⟩
  rw [hp] at C1 HN
  rw [hq] at C2 HN
  clear hp hq
  have hn := HN.out
  clear HN
  cases p with
  | false =>
    simp only [Bool.false_and, Bool.false_eq_true, if_false] at hn
    subst hn
    clear C2
    go_enter Try.func13, Try.ntmps13
    go_wp2_with fail
    refine C1.out.mono ?_
    rintro e w' ⟨rfl, rfl⟩
    go_wp2
    go_ret
    exact ⟨rfl, HB.out⟩
  | true =>
    cases q with
    | false =>
      simp only [Bool.and_false, Bool.false_eq_true, if_false] at hn
      subst hn
      go_enter Try.func13, Try.ntmps13
      go_wp2_with fail
      refine C1.out.mono ?_
      rintro e w' ⟨rfl, rfl⟩
      go_wp2_with fail
      refine (C2.out _).mono ?_
      rintro e w' ⟨rfl, rfl⟩
      go_wp2
      go_ret
      exact ⟨rfl, HB.out⟩
    | true =>
      simp only [Bool.and_true, if_true] at hn
      subst hn
      go_enter Try.func13, Try.ntmps13
      go_wp2_with fail
      refine C1.out.mono ?_
      rintro e w' ⟨rfl, rfl⟩
      go_wp2_with fail
      refine (C2.out _).mono ?_
      rintro e w' ⟨rfl, rfl⟩
      go_wp2
      go_ret
      exact ⟨rfl, HB.out⟩

set_option maxHeartbeats 1000000 in
theorem mono_Right {v a : Value} {l : List ByteArray} {o f : Int} {e : List Int} {w : World} (h : SeesR w v l o f) (ha : SeesI w a e) :
    Calls Try.prog 15 #[v, a] w fun x w' => x = .returned (.bool (rightB l o f e)) ∧ Below w.heap.size w w' := by
  obtain ⟨m, rfl, hm⟩ := h
  have hlen := hm.len
  have hlen2 := ha.len
  have hb := boxR_below (w := w) m (.int .i64 o) (.int .i64 f)
  have C1 := hidP (mono_areExponents (ha.below hb))
  have C2 := hidP (mono_Check (v := .agg #[m, .int .i64 o, .int .i64 f]) ⟨m, rfl, hm.below hb⟩)
  have HB := hidP hb
  obtain ⟨A, ca, rfl, hcap⟩ := SeesF.form hm
  obtain ⟨E, ce, rfl, hcape⟩ := SeesF.form ha
  clear hm ha hb
  have HN := hidP (show rightB l o f e = (decide (e.length = l.length) && (mayB e && ringB l o f)) from rfl)
  have HC := hidP (show checkN l o f = if ringB l o f = true then 0 else 70 from rfl)
  obtain ⟨r, hr⟩ : ∃ r, rightB l o f e = r := ⟨_, rfl⟩
  rw [hr] at HN ⊢
  clear hr
  obtain ⟨c, hc⟩ : ∃ c, checkN l o f = c := ⟨_, rfl⟩
  rw [hc] at C2 HC
  clear hc
  obtain ⟨p, hp⟩ : ∃ p, mayB e = p := ⟨_, rfl⟩
  obtain ⟨q, hq⟩ : ∃ q, ringB l o f = q := ⟨_, rfl⟩
  rw [hp] at C1 HN
  rw [hq] at HC HN
  clear hp hq
  have hn := HN.out
  have hc := HC.out
  clear HN HC
  by_cases hl : e.length = l.length
  · rw [decide_eq_true hl] at hn
    obtain ⟨n, hn2⟩ : ∃ n, l.length = n := ⟨_, rfl⟩
    simp only [hl, hn2] at C1 C2 HB hcap hcape hlen hlen2 ⊢
    clear hl hn2 hlen2
    cases p with
    | false =>
      simp only [Bool.false_and, Bool.and_false] at hn
      subst hn
      clear C2 hc
      go_enter Try.func15, Try.ntmps15
      go_wp2_with fail
      refine C1.out.mono ?_
      rintro e w' ⟨rfl, rfl⟩
      go_wp2
      go_ret
      exact ⟨rfl, HB.out⟩
    | true =>
      cases q with
      | false =>
        simp only [Bool.and_false] at hn
        simp only [Bool.false_eq_true, if_false] at hc
        subst hn hc
        go_enter Try.func15, Try.ntmps15
        go_wp2_with fail
        refine C1.out.mono ?_
        rintro e w' ⟨rfl, rfl⟩
        go_wp2_with fail
        refine C2.out.mono ?_
        rintro e w' ⟨rfl, hb2⟩
        have HB2 := hidP (step_below HB.out hb2)
        clear hb2
        go_wp2
        go_ret
        exact ⟨rfl, HB2.out⟩
      | true =>
        simp only [Bool.and_true] at hn
        simp only [if_true] at hc
        subst hn hc
        go_enter Try.func15, Try.ntmps15
        go_wp2_with fail
        refine C1.out.mono ?_
        rintro e w' ⟨rfl, rfl⟩
        go_wp2_with fail
        refine C2.out.mono ?_
        rintro e w' ⟨rfl, hb2⟩
        have HB2 := hidP (step_below HB.out hb2)
        clear hb2
        go_wp2
        go_ret
        exact ⟨rfl, HB2.out⟩
  · rw [decide_eq_false hl] at hn
    simp only [Bool.false_and] at hn
    subst hn
    have hl2 : ((e.length : Int) == (l.length : Int)) = false := by rw [beq_eq_false_iff_ne]; omega
    clear C1 C2 hc
    go_enter Try.func15, Try.ntmps15
    go_wp2
    go_ret
    exact ⟨rfl, HB.out⟩
end Go.Proofs.Ythlldjknmdndoaa
