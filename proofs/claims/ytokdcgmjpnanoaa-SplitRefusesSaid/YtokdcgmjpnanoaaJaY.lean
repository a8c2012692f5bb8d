/- The document's Pow by its contract, by a prime. -/
import Derived.Test.YtokdcgmjpnanoaaJaX
import Derived.Test.YtokdcgmjpnanoaaJaQ

set_option linter.unusedVariables false
set_option linter.unusedSimpArgs false
namespace Go.Proofs.Ytokdcgmjpnanoaa
open Go.RowKit

theorem ref_rest_is {va vm : Value} {q : Nat} {a b m : List Int} {w : World} (ha : SeesI w va (nf q (pmul a b))) (hm : SeesI w vm m) (hla : a.length ≤ 4096) (hlb : b.length ≤ 4096) (hlm : m.length ≤ 4096) (hq : IsP q) (h0 : nf q m ≠ []) :
    Calls Try.prog 26 #[va, vm, .int .i64 q] w fun e w' => ∃ v R, e = .returned v ∧ SeesI w' v R ∧ RestIs q (pmul a b) m R ∧ Below w.heap.size w w' := by
  have hl : (nf q (pmul a b)).length ≤ 16384 := by
    have h1 := nf_len q (pmul a b)
    have h2 := pmul_len a b
    omega
  refine (ref_Rest ha hm hl (by omega) hq h0).mono ?_
  rintro e w' ⟨v, Q, R, he, h1, h2, h3⟩
  exact ⟨v, R, he, h1, ⟨((nf_E q (pmul a b)).symm.m m).trans h2.rest.eq, h2.pr, h2.lt⟩, h3⟩

set_option maxRecDepth 100000 in
theorem ref_neg_Pow {vf vm : Value} {n : Int} {q : Nat} {w : World} (hn : n < 0) (hq : IsP q) :
    Calls Try.prog 27 #[vf, .int .i64 n, vm, .int .i64 q] w fun e w' => e = .returned (.tuple #[.slice none 0 0, .int .i64 1]) ∧ Below w.heap.size w w' := by
  have IS := hidP (fun w => ref_is_prime hq w)
  clear hq
  go_enter Try.func27, Try.ntmps27
  go_wp2_with fail
  refine (IS.out _).mono ?_
  rintro e w1 ⟨rfl, hb1⟩
  have B1 := hidP hb1
  clear hb1
  go_wp2_with fail
  go_ret2
  exact ⟨rfl, B1.out⟩

theorem half_step {q : Nat} {m A A' O O' f : List Int} {n N h : Nat} (hI : M q m (pmul O (ppow A N)) (ppow f n)) (hO : RestIs q (pmul O A) m O') (hA : RestIs q (pmul A A) m A') (hN : N = 2 * h + 1) : M q m (pmul O' (ppow A' h)) (ppow f n) := by
  refine M.trans ?_ hI
  have h1 := (hO.eq.symm).mul (hA.eq.symm.pow h)
  refine h1.trans (M.of_ev fun x => ?_)
  rw [hN]
  simp only [ev_pmul, ev_ppow, Int.pow_succ, Int.pow_mul, Int.mul_pow, Nat.two_mul, Int.pow_add]
  grind
theorem half_step0 {q : Nat} {m A A' O f : List Int} {n N h : Nat} (hI : M q m (pmul O (ppow A N)) (ppow f n)) (hA : RestIs q (pmul A A) m A') (hN : N = 2 * h) : M q m (pmul O (ppow A' h)) (ppow f n) := by
  refine M.trans ?_ hI
  have h1 := ((E.refl q O).m m).mul (hA.eq.symm.pow h)
  refine h1.trans (M.of_ev fun x => ?_)
  rw [hN]
  simp only [ev_pmul, ev_ppow, Int.mul_pow, Nat.two_mul, Int.pow_add]

set_option maxRecDepth 100000 in
set_option maxHeartbeats 4000000 in
theorem ref_Pow {vf vm : Value} {n : Nat} {q : Nat} {f m : List Int} {w : World} (hf : SeesI w vf f) (hm : SeesI w vm m) (hn : n < 9223372036854775808) (hlf : f.length ≤ 4096) (hlm : m.length ≤ 4096) (hq : IsP q) :
    Calls Try.prog 27 #[vf, .int .i64 n, vm, .int .i64 q] w fun e w' =>
      (nf q m = [] ∧ e = .returned (.tuple #[.slice none 0 0, .int .i64 30]) ∧ Below w.heap.size w w') ∨
      (∃ v R, e = .returned (.tuple #[v, .int .i64 0]) ∧ SeesI w' v R ∧ RestIs q (ppow f n) m R ∧ Below w.heap.size w w') := by
  obtain ⟨hq0, hq2⟩ := isP_bounds hq
  have IS := hidP (fun w => ref_is_prime hq w)
  have HFv : Hid (∀ w1, Below w.heap.size w w1 → SeesI w1 vf f) := fun w1 h => SeesI.below hf h
  have HMv : Hid (∀ w1, Below w.heap.size w w1 → SeesI w1 vm m) := fun w1 h => SeesI.below hm h
  have PM : Hid (∀ w1, Below w.heap.size w w1 → Calls Try.prog 43 #[vm, .int .i64 q] w1 fun e w' => Tells (nf q m) w1 e w') := fun w1 h => ref_Plain (HMv.out w1 h) (by omega) hq
  have n0 : ¬ (n : Int) < 0 := by omega
  by_cases h0 : nf q m = []
  · have HZ := hidP h0
    rw [h0] at PM
    clear h0 hf hm hq
    go_enter Try.func27, Try.ntmps27
    go_wp2_with fail
    refine (IS.out _).mono ?_
    rintro e w1 ⟨rfl, hb1⟩
    have B1 := hidP hb1
    clear hb1
    go_wp2_with fail
    refine (PM.out _ B1.out).mono ?_
    rintro e w2 ⟨v2, rfl, hs2, hb2⟩
    obtain ⟨a2, c2, rfl, hc2⟩ := SeesF.form hs2
    have B2 := hidP (step_below B1.out hb2)
    clear hs2 hb2 hc2
    go_wp2_with fail
    go_ret2
    exact Or.inl ⟨HZ.out, rfl, B2.out⟩
  · have HRest : Hid (∀ w1 v a b, Below w.heap.size w w1 → SeesI w1 v (nf q (pmul a b)) → a.length ≤ 4096 → b.length ≤ 4096 → Calls Try.prog 26 #[v, vm, .int .i64 q] w1 fun e w' => ∃ v R, e = .returned v ∧ SeesI w' v R ∧ RestIs q (pmul a b) m R ∧ Below w1.heap.size w1 w') := fun w1 v a b h1 h2 h3 h4 => ref_rest_is h2 (HMv.out w1 h1) h3 h4 hlm hq h0
    have HMul : Hid (∀ w1 v u a b, SeesI w1 v a → SeesI w1 u b → a.length ≤ 4096 → b.length ≤ 4096 → Calls Try.prog 53 #[v, u, .int .i64 q] w1 fun e w' => Tells (nf q (pmul a b)) w1 e w') := fun w1 v u a b h1 h2 h3 h4 => ref_Mul h1 h2 (by omega) (by omega) hq
    have H1 : Hid (∀ w1 v, Below w.heap.size w w1 → SeesI w1 v [1] → Calls Try.prog 26 #[v, vm, .int .i64 q] w1 fun e w' => ∃ v Q R, e = .returned v ∧ SeesI w' v R ∧ DivIs q [1] m Q R ∧ Below w1.heap.size w1 w') := fun w1 v h1 h2 => ref_Rest h2 (HMv.out w1 h1) (by simp) (by omega) hq h0
    have HLr : Hid (∀ X R, RestIs q X m R → R.length ≤ 4096) := fun X R h => by have := h.lt; have := nf_len q m; omega
    have hb0 : (((nf q m).length : Int) == 0) = false := by rw [beq_eq_false_iff_ne]; have := List.length_pos_iff.2 h0; omega
    clear h0 hf hm hq
    go_enter Try.func27, Try.ntmps27
    go_wp2_with fail
    refine (IS.out _).mono ?_
    rintro e w1 ⟨rfl, hb1⟩
    have B1 := hidP hb1
    clear hb1
    go_wp2_with fail
    refine (PM.out _ B1.out).mono ?_
    rintro e w2 ⟨v2, rfl, hs2, hb2⟩
    obtain ⟨a2, c2, rfl, hc2⟩ := SeesF.form hs2
    have B2 := hidP (step_below B1.out hb2)
    clear hs2 hb2 hc2
    obtain ⟨w5, c5, hW5, hc5, hs5, hb5⟩ := grown_one w2 1
    have HW5 := hidP hW5
    have HC5 := hidP hc5
    have B5 := hidP (step_below B2.out hb5)
    have C5 := hidP (H1.out w5 _ B5.out hs5)
    clear hW5 hc5 hb5 hs5
    go_wp2_with fail
    rw [← HC5.out, ← HW5.out]
    refine C5.out.mono ?_
    rintro e w6 ⟨v6, Q6, O, rfl, hs6, hd6, hb6⟩
    have B6 := hidP (step_below B5.out hb6)
    have HS6 := hidP hs6
    have HR6 := hidP hd6.rest
    clear hs6 hd6 hb6 C5
    go_wp2_with fail
    go_loopg [0, 1, 10] n (fun gm v0 v1 v10 wr => ∃ N : Nat, N = gm ∧ N < 9223372036854775808 ∧ v1 = .int .i64 N ∧ Hid (∃ A O, SeesI wr v0 A ∧ SeesI wr v10 O ∧ A.length ≤ 4096 ∧ O.length ≤ 4096 ∧ Plain q O ∧ O.length < (nf q m).length ∧ M q m (pmul O (ppow A N)) (ppow f n)) ∧ Hid (Below w.heap.size w wr))
    case atStart => exact ⟨n, rfl, hn, rfl, ⟨f, O, HFv.out _ B6.out, HS6.out, hlf, HLr.out _ _ HR6.out, HR6.out.pr, HR6.out.lt, by
      have h1 := (HR6.out.eq.symm).mul ((E.refl q (ppow f n)).m m)
      exact h1.trans (M.of_ev fun x => by rw [ev_pmul]; simp [ev])⟩, B6⟩
    case round =>
      clear HS6 HR6 B6
      obtain ⟨N, rfl, hN, rfl, hst, hB⟩ := hrel
      obtain ⟨A, O, a1, a2, a3, a4, a5, a6, a7⟩ := hst.out
      clear hst
      rcases Nat.eq_zero_or_pos N with h0 | h0
      · subst h0
        have HS := hidP a2
        have HR : Hid (RestIs q (ppow f n) m O) := ⟨M.trans a7.symm (M.of_ev fun x => by rw [ev_pmul]; simp [ppow, ev]), a5, a6⟩
        clear a1 a2 a3 a4 a5 a6 a7
        go_wp2_with fail
        go_ret2
        exact Or.inr ⟨_, O, rfl, HS.out, HR.out, hB.out⟩
      · have hpos : (N : Int) > 0 := by omega
        obtain ⟨h, hh⟩ : ∃ h, N / 2 = h := ⟨_, rfl⟩
        have q3 : Int.tdiv (N : Int) 2 = (h : Int) := by rw [Int.tdiv_eq_ediv_of_nonneg (by omega)]; omega
        have q2 : (N : Int) / 2 = (h : Int) := by omega
        have q4 : IntKind.i64.wrap (h : Int) = (h : Int) := by rw [IntKind.wrap_i64]; omega
        have hhN : h < N := by omega
        have HSA := hidP a1
        have HLA := hidP a3
        have HLO := hidP a4
        have HI := hidP a7
        rcases Nat.mod_two_eq_zero_or_one N with h2 | h2
        · have o1 : Int.tmod (N : Int) 2 = 0 := by rw [Int.tmod_eq_emod_of_nonneg (by omega)]; omega
          have o2 : (N : Int) % 2 = 0 := by omega
          have HN2 : Hid (N = 2 * h) := by show _ = _; omega
          have HSO := hidP a2
          have HOp := hidP (And.intro a5 a6)
          have C1 := hidP (HMul.out wr _ _ A A a1 a1 a3 a3)
          clear a1 a2 a3 a4 a5 a6 a7 hh h2
          go_wp2_with fail
          refine C1.out.mono ?_
          rintro e w7 ⟨v7, rfl, hs7, hb7⟩
          have B7 := hidP (step_below hB.out hb7)
          have HSO7 := hidP (HSO.out.below hb7)
          have C2 := hidP (HRest.out w7 v7 A A B7.out hs7 HLA.out HLA.out)
          clear hs7 hb7 C1 HSO
          go_wp2_with fail
          refine C2.out.mono ?_
          rintro e w8 ⟨v8, A', rfl, hs8, hr8, hb8⟩
          have B8 := hidP (step_below B7.out hb8)
          have HI8 : Hid (∃ A O, SeesI w8 v8 A ∧ SeesI w8 u10 O ∧ A.length ≤ 4096 ∧ O.length ≤ 4096 ∧ Plain q O ∧ O.length < (nf q m).length ∧ M q m (pmul O (ppow A h)) (ppow f n)) := ⟨A', O, hs8, HSO7.out.below hb8, HLr.out _ _ hr8, HLO.out, HOp.out.1, HOp.out.2, half_step0 HI.out hr8 HN2.out⟩
          clear hs8 hr8 hb8 C2 HSO7 HI HN2 HOp HSA
          go_wp2_with fail
          go_roundg h
          case rel => exact ⟨h, rfl, by omega, by go_num, HI8, B8⟩
          case measure => omega
        · have o1 : Int.tmod (N : Int) 2 = 1 := by rw [Int.tmod_eq_emod_of_nonneg (by omega)]; omega
          have o2 : (N : Int) % 2 = 1 := by omega
          have HN2 : Hid (N = 2 * h + 1) := by show _ = _; omega
          have C0 := hidP (HMul.out wr _ _ O A a2 a1 a4 a3)
          clear a1 a2 a3 a4 a5 a6 a7 hh h2
          go_wp2_with fail
          refine C0.out.mono ?_
          rintro e w7 ⟨v7, rfl, hs7, hb7⟩
          have B7 := hidP (step_below hB.out hb7)
          have HSA7 := hidP (HSA.out.below hb7)
          have C2 := hidP (HRest.out w7 v7 O A B7.out hs7 HLO.out HLA.out)
          clear hs7 hb7 C0 HSA
          go_wp2_with fail
          refine C2.out.mono ?_
          rintro e w8 ⟨v8, O', rfl, hs8, hr8, hb8⟩
          have B8 := hidP (step_below B7.out hb8)
          have HSA8 := hidP (HSA7.out.below hb8)
          have C3 := hidP (HMul.out w8 _ _ A A HSA8.out HSA8.out HLA.out HLA.out)
          have HS8 := hidP hs8
          have HR8 := hidP hr8
          clear hs8 hr8 hb8 C2 HSA7
          go_wp2_with fail
          refine C3.out.mono ?_
          rintro e w9 ⟨v9, rfl, hs9, hb9⟩
          have B9 := hidP (step_below B8.out hb9)
          have C4 := hidP (HRest.out w9 v9 A A B9.out hs9 HLA.out HLA.out)
          have HS9 := hidP (HS8.out.below hb9)
          clear hs9 hb9 C3 HS8 HSA8
          go_wp2_with fail
          refine C4.out.mono ?_
          rintro e wA ⟨vA, A', rfl, hsA, hrA, hbA⟩
          have BA := hidP (step_below B9.out hbA)
          have HI8 : Hid (∃ A O, SeesI wA vA A ∧ SeesI wA v8 O ∧ A.length ≤ 4096 ∧ O.length ≤ 4096 ∧ Plain q O ∧ O.length < (nf q m).length ∧ M q m (pmul O (ppow A h)) (ppow f n)) := ⟨A', O', hsA, HS9.out.below hbA, HLr.out _ _ hrA, HLr.out _ _ HR8.out, HR8.out.pr, HR8.out.lt, half_step HI.out HR8.out hrA HN2.out⟩
          clear hsA hrA hbA C4 HS9 HI HN2 HR8
          go_wp2_with fail
          go_roundg h
          case rel => exact ⟨h, rfl, by omega, by go_num, HI8, BA⟩
          case measure => omega
end Go.Proofs.Ytokdcgmjpnanoaa
