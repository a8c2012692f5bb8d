/- mono.Cmp, by its contract; the document's Right. -/
import Derived.Test.YthlldjknmdndoaaMoE
import Derived.Test.YthlldjknmdndoaaMoL
set_option linter.unusedVariables false
set_option linter.unusedSimpArgs false
namespace Go.Proofs.Ythlldjknmdndoaa
open Go.RowKit

/-- How two lists compare in a ring. -/
def cmpR (l : List ByteArray) (o f : Int) (a b : List Int) : Int := if (rightB l o f a && rightB l o f b) = true then cmpL o f.toNat a b else 0

theorem rightB_iff {l : List ByteArray} {o f : Int} {e : List Int} : rightB l o f e = true ↔ e.length = l.length ∧ mayB e = true ∧ ringB l o f = true := by
  unfold rightB; rw [Bool.and_eq_true, Bool.and_eq_true, decide_eq_true_eq]
theorem ringB_order {l : List ByteArray} {o f : Int} (h : ringB l o f = true) : ((o = 0 ∨ o = 1 ∨ o = 2) ∧ f = 0) ∨ (o = 3 ∧ 1 ≤ f ∧ f < l.length) := by
  unfold ringB at h; rw [Bool.and_eq_true] at h; exact of_decide_eq_true h.2
theorem ringB_len {l : List ByteArray} {o f : Int} (h : ringB l o f = true) : 1 ≤ l.length ∧ l.length ≤ 6 := by
  unfold ringB at h; rw [Bool.and_eq_true] at h
  have := of_decide_eq_true h.1
  exact ⟨this.1, this.2.1⟩

theorem mono_compare_any {o f : Int} {a b : Value} {l m : List Int} {w : World} (ha : SeesI w a l) (hb : SeesI w b m) (hl : l.length = m.length) (hm1 : mayB l = true) (hm2 : mayB m = true)
    (h : ((o = 0 ∨ o = 1 ∨ o = 2) ∧ f = 0) ∨ (o = 3 ∧ 1 ≤ f ∧ f < l.length)) :
    Calls Try.prog 38 #[.int .i64 o, .int .i64 f, a, b] w fun e w' => Reads (.int .i64 (cmpL o f.toNat l m)) w e w' := by
  rcases h with ⟨rfl | rfl | rfl, -⟩ | ⟨rfl, h1, h2⟩
  · exact mono_compare_lex ha hb hl
  · exact mono_compare_grlex ha hb hl hm1 hm2
  · exact mono_compare_grevlex ha hb hl hm1 hm2
  · exact mono_compare_block ha hb hl hm1 hm2 h1 h2

set_option maxHeartbeats 1000000 in
theorem ref_Right {v a : Value} {l : List ByteArray} {o f : Int} {e : List Int} {w : World} (h : SeesR w v l o f) (ha : SeesI w a e) :
    Calls Try.prog 16 #[v, a] w fun x w' => x = .returned (.bool (rightB l o f e)) ∧ Below w.heap.size w w' := by
  obtain ⟨m, rfl, hm⟩ := h
  have hlen := hm.len
  have hlen2 := ha.len
  have hb := boxR_below (w := w) m (.int .i64 o) (.int .i64 f)
  have CA := hidP (fun w1 (h : Below w.heap.size w w1) => ref_May (ha.below h))
  have C2 := hidP (ref_Check (v := .agg #[m, .int .i64 o, .int .i64 f]) ⟨m, rfl, hm.below hb⟩)
  have HB := hidP hb
  have HX := hidP (Box3.new w m (.int .i64 o) (.int .i64 f) 24)
  obtain ⟨A, ca, rfl, hcap⟩ := SeesF.form hm
  obtain ⟨E, ce, rfl, hcape⟩ := SeesF.form ha
  clear hm ha hb
  have HN := hidP (show rightB l o f e = (decide (e.length = l.length) && (mayB e && ringB l o f)) from rfl)
  have HC := hidP (show checkN l o f = if ringB l o f = true then 0 else 70 from rfl)
  obtain ⟨r, hr⟩ : ∃ r, rightB l o f e = r := ⟨_, rfl⟩
  rw [hr] at HN ⊢
  clear hr
  obtain ⟨c, hc⟩ : ∃ c, checkN l o f = c := ⟨_, rfl⟩
  rw [hc] at C2 HC
  clear hc
  obtain ⟨p, hp⟩ : ∃ p, mayB e = p := ⟨_, rfl⟩
  obtain ⟨q, hq⟩ : ∃ q, ringB l o f = q := ⟨_, rfl⟩
  rw [hp] at HN
  simp only [hp] at CA
  rw [hq] at HC HN
  clear hp hq
  have hn := HN.out
  have hc := HC.out
  clear HN HC
  cases q with
  | false =>
    simp only [Bool.and_false] at hn
    simp only [Bool.false_eq_true, if_false] at hc
    subst hn hc
    clear CA
    go_enter Try.func16, Try.ntmps16
    go_wp2_with fail
    refine C2.out.mono ?_
    rintro e w' ⟨rfl, hb2⟩
    have HB2 := hidP (step_below HB.out hb2)
    clear hb2
    go_wp2
    go_ret
    exact ⟨rfl, HB2.out⟩
  | true =>
    simp only [if_true] at hc
    subst hc
    by_cases hl : e.length = l.length
    · rw [decide_eq_true hl] at hn
      simp only [Bool.true_and, Bool.and_true] at hn
      subst hn
      obtain ⟨n, hn2⟩ : ∃ n, l.length = n := ⟨_, rfl⟩
      simp only [hl, hn2] at CA C2 HB HX hcap hcape hlen hlen2 ⊢
      clear hl hn2 hlen2
      obtain ⟨g, hg⟩ : ∃ g, g = w.heap.size := ⟨_, rfl⟩
      rw [← hg] at HX
      have HG := hidP hg
      clear hg
      go_enter Try.func16, Try.ntmps16
      go_wp2_with fail
      rw [← HG.out]
      refine C2.out.mono ?_
      rintro x w' ⟨rfl, hb2⟩
      have HB2 := hidP (step_below HB.out hb2)
      have HX2 := hidP (HX.out.below hb2)
      have CA2 := hidP (CA.out _ HB2.out)
      obtain ⟨c0, -, -⟩ := HX2.out.cells
      clear hb2 HG CA
      go_wp2_with fail
      refine CA2.out.mono ?_
      rintro x w'' ⟨rfl, rfl⟩
      go_wp2
      go_ret
      exact ⟨rfl, HB2.out⟩
    · rw [decide_eq_false hl] at hn
      simp only [Bool.false_and] at hn
      subst hn
      have hl2 : ((e.length : Int) == (l.length : Int)) = false := by rw [beq_eq_false_iff_ne]; omega
      obtain ⟨g, hg⟩ : ∃ g, g = w.heap.size := ⟨_, rfl⟩
      rw [← hg] at HX
      have HG := hidP hg
      clear hg CA
      go_enter Try.func16, Try.ntmps16
      go_wp2_with fail
      rw [← HG.out]
      refine C2.out.mono ?_
      rintro x w' ⟨rfl, hb2⟩
      have HB2 := hidP (step_below HB.out hb2)
      have HX2 := hidP (HX.out.below hb2)
      obtain ⟨c0, -, -⟩ := HX2.out.cells
      clear hb2 HG
      go_wp2
      go_ret
      exact ⟨rfl, HB2.out⟩

set_option maxHeartbeats 1000000 in
theorem mono_Cmp {v a b : Value} {l : List ByteArray} {o f : Int} {x y : List Int} {w : World} (h : SeesR w v l o f) (ha : SeesI w a x) (hb : SeesI w b y) :
    Calls Try.prog 19 #[v, a, b] w fun e w' => e = .returned (.int .i64 (cmpR l o f x y)) ∧ Below w.heap.size w w' := by
  obtain ⟨m, rfl, hm⟩ := h
  have hb0 := boxR_below (w := w) m (.int .i64 o) (.int .i64 f)
  have C1 := hidP (mono_Right (v := .agg #[m, .int .i64 o, .int .i64 f]) ⟨m, rfl, hm.below hb0⟩ (ha.below hb0))
  have C2 := hidP (fun w1 (h : Below w.heap.size w w1) => mono_areAlike (ha.below h) (hb.below h))
  have C3 : Hid (rightB l o f x = true → alikeB x y = true → ∀ w1, Below w.heap.size w w1 → Calls Try.prog 38 #[.int .i64 o, .int .i64 f, a, b] w1 fun e w' => Reads (.int .i64 (cmpL o f.toNat x y)) w1 e w') := fun h1 h2 w1 hw => by
    obtain ⟨e1, e2, e3⟩ := rightB_iff.1 h1
    unfold alikeB at h2
    simp only [Bool.and_eq_true, decide_eq_true_eq] at h2
    have := ringB_order e3
    rw [← e1] at this
    exact mono_compare_any (ha.below hw) (hb.below hw) h2.1 h2.2.1 h2.2.2 this
  have HE : Hid ((rightB l o f x && alikeB x y) = (rightB l o f x && rightB l o f y)) := by
    show _ = _
    cases hx : rightB l o f x with
    | false => rfl
    | true =>
      obtain ⟨e1, e2, e3⟩ := rightB_iff.1 hx
      simp only [Bool.true_and]
      unfold alikeB rightB
      rw [e1, e2, e3, Bool.true_and, Bool.and_true, decide_eq_decide.2 ⟨Eq.symm, Eq.symm⟩]
  have HN := hidP (show cmpR l o f x y = if (rightB l o f x && rightB l o f y) = true then cmpL o f.toNat x y else 0 from rfl)
  rw [← HE.out] at HN
  clear HE
  have HB := hidP hb0
  have HX := hidP (Box3.new w m (.int .i64 o) (.int .i64 f) 24)
  obtain ⟨A, ca, rfl, hcap⟩ := SeesF.form hm
  clear hm hb0
  obtain ⟨r, hr⟩ : ∃ r, cmpR l o f x y = r := ⟨_, rfl⟩
  rw [hr] at HN ⊢
  clear hr
  obtain ⟨c, hc⟩ : ∃ c, cmpL o f.toNat x y = c := ⟨_, rfl⟩
  rw [hc] at HN
  simp only [hc] at C3
  clear hc
  obtain ⟨p, hp⟩ : ∃ p, rightB l o f x = p := ⟨_, rfl⟩
  obtain ⟨q, hq⟩ : ∃ q, alikeB x y = q := ⟨_, rfl⟩
  rw [hp, hq] at HN
  rw [hp] at C1
  rw [hp, hq] at C3
  simp only [hq] at C2
  clear hp hq
  have hn := HN.out
  clear HN ha hb
  cases p with
  | false =>
    simp only [Bool.false_and, Bool.false_eq_true, if_false] at hn
    subst hn
    clear C2 C3
    go_enter Try.func19, Try.ntmps19
    go_wp2_with fail
    refine C1.out.mono ?_
    rintro x w' ⟨rfl, hb2⟩
    have HB2 := hidP (step_below HB.out hb2)
    clear hb2
    go_wp2
    go_ret
    exact ⟨rfl, HB2.out⟩
  | true =>
    obtain ⟨g, hg⟩ : ∃ g, g = w.heap.size := ⟨_, rfl⟩
    rw [← hg] at HX
    have HG := hidP hg
    clear hg
    cases q with
    | false =>
      simp only [Bool.and_false, Bool.false_eq_true, if_false] at hn
      subst hn
      clear C3
      go_enter Try.func19, Try.ntmps19
      go_wp2_with fail
      refine C1.out.mono ?_
      rintro x w' ⟨rfl, hb2⟩
      have HB2 := hidP (step_below HB.out hb2)
      have CA2 := hidP (C2.out _ HB2.out)
      clear hb2 C2
      go_wp2_with fail
      refine CA2.out.mono ?_
      rintro x w'' ⟨rfl, rfl⟩
      go_wp2
      go_ret
      exact ⟨rfl, HB2.out⟩
    | true =>
      simp only [Bool.and_true, if_true] at hn
      subst hn
      have C4 := hidP (C3.out rfl rfl)
      clear C3
      go_enter Try.func19, Try.ntmps19
      go_wp2_with fail
      rw [← HG.out]
      refine C1.out.mono ?_
      rintro x w' ⟨rfl, hb2⟩
      have HB2 := hidP (step_below HB.out hb2)
      have CA2 := hidP (C2.out _ HB2.out)
      have C5 := hidP (C4.out _ HB2.out)
      have HX2 := hidP (HX.out.below hb2)
      obtain ⟨c0, c1, c2⟩ := HX2.out.cells
      clear hb2 C2 C4 HG
      go_wp2_with fail
      refine CA2.out.mono ?_
      rintro x w'' ⟨rfl, rfl⟩
      go_wp2_with fail
      refine C5.out.mono ?_
      rintro x w'' ⟨rfl, d, rfl⟩
      go_wp2
      go_ret
      exact ⟨rfl, below_drewN HB2.out _⟩
end Go.Proofs.Ythlldjknmdndoaa
