/- The document's Cmp, by its contract. -/
import Derived.Test.YthlldjknmdndoaaMoF
import Derived.Test.YthlldjknmdndoaaMoP
set_option linter.unusedVariables false
set_option linter.unusedSimpArgs false
namespace Go.Proofs.Ythlldjknmdndoaa
open Go.RowKit

theorem Reads.quiet_add {P : Program} {f : FuncId} {args : Array Value} {w : World} {n a : Nat} {v : Value} (h : Calls P f args (w.drewN (n + a)) fun e w' => Reads v (w.drewN (n + a)) e w') :
    Calls P f args (w.drewN (n + a)) fun e w'' => e = .returned v ∧ ∃ m, w'' = w.drewN (n + m) :=
  h.mono fun _ _ ⟨h1, d, h2⟩ => ⟨h1, a + d, by rw [h2, World.drewN_drewN, Nat.add_assoc]⟩

set_option maxHeartbeats 2000000 in
theorem ref_Cmp {v a b : Value} {l : List ByteArray} {o f : Int} {x y : List Int} {w : World} (h : SeesR w v l o f) (ha : SeesI w a x) (hb : SeesI w b y) :
    Calls Try.prog 20 #[v, a, b] w fun e w' => e = .returned (.int .i64 (cmpR l o f x y)) ∧ Below w.heap.size w w' := by
  obtain ⟨m, rfl, hm⟩ := h
  have hb0 := boxR_below (w := w) m (.int .i64 o) (.int .i64 f)
  have C1 := hidP (ref_Right (v := .agg #[m, .int .i64 o, .int .i64 f]) ⟨m, rfl, hm.below hb0⟩ (ha.below hb0))
  have C2 := hidP (fun w1 (h : Below w.heap.size w w1) => ref_Right (v := .agg #[m, .int .i64 o, .int .i64 f]) (a := b) (e := y) ⟨m, rfl, hm.below h⟩ (hb.below h))
  have HN := hidP (show cmpR l o f x y = if (rightB l o f x && rightB l o f y) = true then cmpL o f.toNat x y else 0 from rfl)
  have HB := hidP hb0
  have HX := hidP (Box3.new w m (.int .i64 o) (.int .i64 f) 24)
  obtain ⟨A, ca, rfl, hcap⟩ := SeesF.form hm
  clear hm hb0
  obtain ⟨r, hr⟩ : ∃ r, cmpR l o f x y = r := ⟨_, rfl⟩
  rw [hr] at HN ⊢
  clear hr
  obtain ⟨g, hg⟩ : ∃ g, g = w.heap.size := ⟨_, rfl⟩
  rw [← hg] at HX
  have HG := hidP hg
  clear hg
  have hn := HN.out
  clear HN
  cases p : rightB l o f x with
  | false =>
    rw [p] at C1 hn
    simp only [Bool.false_and, Bool.false_eq_true, if_false] at hn
    subst hn
    clear C2 ha hb p
    go_enter Try.func20, Try.ntmps20
    go_wp2_with fail
    refine C1.out.mono ?_
    rintro x w' ⟨rfl, hb2⟩
    have HB2 := hidP (step_below HB.out hb2)
    clear hb2
    go_wp2
    go_ret
    exact ⟨rfl, HB2.out⟩
  | true =>
    cases q : rightB l o f y with
    | false =>
      rw [p, q] at hn
      rw [p] at C1
      simp only [q] at C2
      simp only [Bool.and_false, Bool.false_eq_true, if_false] at hn
      subst hn
      clear ha hb p q
      go_enter Try.func20, Try.ntmps20
      go_wp2_with fail
      rw [← HG.out]
      refine C1.out.mono ?_
      rintro x w' ⟨rfl, hb2⟩
      have HB2 := hidP (step_below HB.out hb2)
      have CA2 := hidP (C2.out _ HB2.out)
      have HX2 := hidP (HX.out.below hb2)
      obtain ⟨c0, c1, c2⟩ := HX2.out.cells
      clear hb2 C2 HG
      go_wp2_with fail
      refine CA2.out.mono ?_
      rintro x w'' ⟨rfl, hb3⟩
      have HB3 := hidP (step_below HB2.out hb3)
      clear hb3
      go_wp2
      go_ret
      exact ⟨rfl, HB3.out⟩
    | true =>
      rw [p, q] at hn
      rw [p] at C1
      simp only [q] at C2
      simp only [Bool.and_true, if_true] at hn
      subst hn
      obtain ⟨e1, m1, k1⟩ := rightB_iff.1 p
      obtain ⟨e2, m2, -⟩ := rightB_iff.1 q
      have hord := ringB_order k1
      have hlen := ringB_len k1
      have hxy : x.length = y.length := by omega
      have HA : Hid (∀ w1, Below w.heap.size w w1 → SeesI w1 a x) := fun w1 h => ha.below h
      have HBb : Hid (∀ w1, Below w.heap.size w w1 → SeesI w1 b y) := fun w1 h => hb.below h
      have d1 : degL x = x.sum := by unfold degL; rw [if_pos m1]
      have d2 : degL y = y.sum := by unfold degL; rw [if_pos m2]
      clear k1 p q
      rcases hord with ⟨rfl | rfl | rfl, rfl⟩ | ⟨rfl, hf1, hf2⟩
      · have CL := hidP (fun w1 (h : Below w.heap.size w w1) => ref_lex (ha.below h) (hb.below h) hxy)
        rw [cmpL_lex]
        obtain ⟨r, hr⟩ : ∃ r, sgnL (List.zipWith (· - ·) x y) = r := ⟨_, rfl⟩
        simp only [hr] at CL ⊢
        clear hr ha hb d1 d2 m1 m2 hxy e1 e2
        go_enter Try.func20, Try.ntmps20
        go_wp2_with fail
        rw [← HG.out]
        refine C1.out.mono ?_
        rintro x w' ⟨rfl, hb2⟩
        have HB2 := hidP (step_below HB.out hb2)
        have CA2 := hidP (C2.out _ HB2.out)
        have HX2 := hidP (HX.out.below hb2)
        obtain ⟨c0, c1, c2⟩ := HX2.out.cells
        clear hb2 C2 HG
        go_wp2_with fail
        refine CA2.out.mono ?_
        rintro x w'' ⟨rfl, hb3⟩
        have HB3 := hidP (step_below HB2.out hb3)
        have HX3 := hidP (HX2.out.below hb3)
        have CL2 := hidP (CL.out _ HB3.out)
        clear hb3 c0 c1 c2 CL
        obtain ⟨c0, c1, c2⟩ := HX3.out.cells
        go_wp2_with fail
        refine CL2.out.mono ?_
        rintro x w3 ⟨rfl, d, rfl⟩
        go_wp2
        go_ret
        exact ⟨rfl, below_drewN HB3.out _⟩
      · have CL := hidP (fun w1 (h : Below w.heap.size w w1) => ref_lex (ha.below h) (hb.below h) hxy)
        have CD1 := hidP (fun w1 (h : Below w.heap.size w w1) => ref_Degree (ha.below h))
        have CD2 := hidP (fun w1 (h : Below w.heap.size w w1) => ref_Degree (hb.below h))
        have CS := hidP (ref_sign x.sum y.sum)
        rw [cmpL_grlex _ hxy]
        simp only [d1] at CD1
        simp only [d2] at CD2
        obtain ⟨r, hr⟩ : ∃ r, sgnL (List.zipWith (· - ·) x y) = r := ⟨_, rfl⟩
        obtain ⟨s, hs⟩ : ∃ s, sgn (x.sum - y.sum) = s := ⟨_, rfl⟩
        simp only [hr] at CL ⊢
        simp only [hs] at CS ⊢
        obtain ⟨X, hX⟩ : ∃ X, x.sum = X := ⟨_, rfl⟩
        obtain ⟨Y, hY⟩ : ∃ Y, y.sum = Y := ⟨_, rfl⟩
        simp only [hX] at CD1 CS
        simp only [hY] at CD2 CS
        clear hr hs hX hY ha hb d1 d2 m1 m2 hxy e1 e2
        by_cases h0 : s = 0
        · subst h0
          rw [if_pos rfl]
          go_enter Try.func20, Try.ntmps20
          go_wp2_with fail
          rw [← HG.out]
          refine C1.out.mono ?_
          rintro x w' ⟨rfl, hb2⟩
          have HB2 := hidP (step_below HB.out hb2)
          have CA2 := hidP (C2.out _ HB2.out)
          have HX2 := hidP (HX.out.below hb2)
          obtain ⟨c0, c1, c2⟩ := HX2.out.cells
          clear hb2 C2 HG
          go_wp2_with fail
          refine CA2.out.mono ?_
          rintro x w'' ⟨rfl, hb3⟩
          have HB3 := hidP (step_below HB2.out hb3)
          have HX3 := hidP (HX2.out.below hb3)
          have CL2 := hidP (CL.out _ HB3.out)
          have CE1 := hidP (CD1.out _ HB3.out)
          have CE2 := hidP (CD2.out _ HB3.out)
          clear hb3 c0 c1 c2 CL CD1 CD2
          obtain ⟨c0, c1, c2⟩ := HX3.out.cells
          go_wp2_with fail
          refine CE1.out.mono ?_
          rintro x w3 ⟨rfl, rfl⟩
          go_wp2_with fail
          refine CE2.out.mono ?_
          rintro x w3 ⟨rfl, rfl⟩
          go_wp2_with fail
          refine (CS.out _).mono ?_
          rintro x w3 ⟨rfl, rfl⟩
          go_wp2_with fail
          refine CL2.out.mono ?_
          rintro x w3 ⟨rfl, d, rfl⟩
          go_wp2
          go_ret
          exact ⟨rfl, below_drewN HB3.out _⟩
        · rw [if_neg h0]
          have h0' : (s != 0) = true := by rw [bne_iff_ne]; exact h0
          clear CL
          go_enter Try.func20, Try.ntmps20
          go_wp2_with fail
          rw [← HG.out]
          refine C1.out.mono ?_
          rintro x w' ⟨rfl, hb2⟩
          have HB2 := hidP (step_below HB.out hb2)
          have CA2 := hidP (C2.out _ HB2.out)
          have HX2 := hidP (HX.out.below hb2)
          obtain ⟨c0, c1, c2⟩ := HX2.out.cells
          clear hb2 C2 HG
          go_wp2_with fail
          refine CA2.out.mono ?_
          rintro x w'' ⟨rfl, hb3⟩
          have HB3 := hidP (step_below HB2.out hb3)
          have HX3 := hidP (HX2.out.below hb3)
          have CE1 := hidP (CD1.out _ HB3.out)
          have CE2 := hidP (CD2.out _ HB3.out)
          clear hb3 c0 c1 c2 CD1 CD2
          obtain ⟨c0, c1, c2⟩ := HX3.out.cells
          go_wp2_with fail
          refine CE1.out.mono ?_
          rintro x w3 ⟨rfl, rfl⟩
          go_wp2_with fail
          refine CE2.out.mono ?_
          rintro x w3 ⟨rfl, rfl⟩
          go_wp2_with fail
          refine (CS.out _).mono ?_
          rintro x w3 ⟨rfl, rfl⟩
          go_wp2
          go_ret
          exact ⟨rfl, HB3.out⟩
      · have CL := hidP (fun w1 (h : Below w.heap.size w w1) => ref_grevlex (ha.below h) (hb.below h) hxy m1 m2)
        rw [Int.toNat_zero]
        obtain ⟨r, hr⟩ : ∃ r, cmpL 2 0 x y = r := ⟨_, rfl⟩
        simp only [hr] at CL ⊢
        clear hr ha hb d1 d2 m1 m2 hxy e1 e2
        go_enter Try.func20, Try.ntmps20
        go_wp2_with fail
        rw [← HG.out]
        refine C1.out.mono ?_
        rintro x w' ⟨rfl, hb2⟩
        have HB2 := hidP (step_below HB.out hb2)
        have CA2 := hidP (C2.out _ HB2.out)
        have HX2 := hidP (HX.out.below hb2)
        obtain ⟨c0, c1, c2⟩ := HX2.out.cells
        clear hb2 C2 HG
        go_wp2_with fail
        refine CA2.out.mono ?_
        rintro x w'' ⟨rfl, hb3⟩
        have HB3 := hidP (step_below HB2.out hb3)
        have HX3 := hidP (HX2.out.below hb3)
        have CL2 := hidP (CL.out _ HB3.out)
        clear hb3 c0 c1 c2 CL
        obtain ⟨c0, c1, c2⟩ := HX3.out.cells
        go_wp2_with fail
        refine CL2.out.mono ?_
        rintro x w3 ⟨rfl, d, rfl⟩
        go_wp2
        go_ret
        exact ⟨rfl, below_drewN HB3.out _⟩
      · obtain ⟨n, rfl⟩ : ∃ n : Nat, f = n := ⟨f.toNat, by omega⟩
        rw [Int.toNat_natCast, cmpL_block]
        have hx := ha.len
        have hy := hb.len
        obtain ⟨A, ca, rfl, hcap1⟩ := SeesF.form ha
        obtain ⟨B, cb, rfl, hcap2⟩ := SeesF.form hb
        obtain ⟨b1, o1, rfl, -⟩ := ha.at (by omega)
        obtain ⟨b2, o2, rfl, -⟩ := hb.at (by omega)
        have q1 : (x.take n).length = (y.take n).length := by simp [hxy]
        have q2 : (x.drop n).length = (y.drop n).length := by simp [hxy]
        have hnx : n < x.length := by omega
        have CT := hidP (fun w1 (h : Below w.heap.size w w1) d => ref_grevlex (SeesF.drewN (SeesF.take (ha.below h) n (by omega)) d) (SeesF.drewN (SeesF.take (hb.below h) n (by omega)) d) q1 (mayB_take m1 n) (mayB_take m2 n))
        have CU := hidP (fun w1 (h : Below w.heap.size w w1) d => ref_grevlex (SeesF.drewN (SeesF.drop (ha.below h) n (by omega)) d) (SeesF.drewN (SeesF.drop (hb.below h) n (by omega)) d) q2 (mayB_drop m1 n) (mayB_drop m2 n))
        obtain ⟨c, hc⟩ : ∃ c, cmpL 2 0 (x.take n) (y.take n) = c := ⟨_, rfl⟩
        obtain ⟨r, hr⟩ : ∃ r, cmpL 2 0 (x.drop n) (y.drop n) = r := ⟨_, rfl⟩
        simp only [hc] at CT ⊢
        simp only [hr] at CU ⊢
        obtain ⟨N, hN⟩ : ∃ N, l.length = N := ⟨_, rfl⟩
        simp only [e1, e2, hN] at C1 C2 CU HX HB hcap1 hcap2 hcap hx hy hnx hf2 hlen ⊢
        have hlenN : N ≤ 70368744177664 := by omega
        clear hc hr hN ha hb d1 d2 m1 m2 hxy e1 e2 q1 q2 HA HBb hx hy hf1 hf2 hlen
        by_cases h0 : c = 0
        · subst h0
          rw [if_pos rfl]
          go_enter Try.func20, Try.ntmps20
          go_wp2_with fail
          rw [← HG.out]
          refine C1.out.mono ?_
          rintro x w' ⟨rfl, hb2⟩
          have HB2 := hidP (step_below HB.out hb2)
          have CA2 := hidP (C2.out _ HB2.out)
          have HX2 := hidP (HX.out.below hb2)
          obtain ⟨c0, c1, c2⟩ := HX2.out.cells
          clear hb2 C2 HG
          go_wp2_with fail
          refine CA2.out.mono ?_
          rintro x w'' ⟨rfl, hb3⟩
          have HB3 := hidP (step_below HB2.out hb3)
          have HX3 := hidP (HX2.out.below hb3)
          have CT2 := hidP (CT.out _ HB3.out)
          have CU2 := hidP (CU.out _ HB3.out)
          clear hb3 c0 c1 c2 CT CU HX2
          obtain ⟨c0, c1, c2⟩ := HX3.out.cells
          go_wp2
          go_quiet ((go_at_call 41; exact (CT2.out _).mono fun _ _ ⟨h1, d, h2⟩ => ⟨h1, _, h2.trans (World.drewN_drewN _ _ _)⟩))
          go_wp2
          go_quiet ((go_at_call 41; exact Reads.quiet_add (CU2.out _)))
          go_wp2
          go_ret
          exact ⟨rfl, below_drewN (below_drewN HB3.out _) _⟩
        · rw [if_neg h0]
          have h0' : (c != 0) = true := by rw [bne_iff_ne]; exact h0
          clear CU
          go_enter Try.func20, Try.ntmps20
          go_wp2_with fail
          rw [← HG.out]
          refine C1.out.mono ?_
          rintro x w' ⟨rfl, hb2⟩
          have HB2 := hidP (step_below HB.out hb2)
          have CA2 := hidP (C2.out _ HB2.out)
          have HX2 := hidP (HX.out.below hb2)
          obtain ⟨c0, c1, c2⟩ := HX2.out.cells
          clear hb2 C2 HG
          go_wp2_with fail
          refine CA2.out.mono ?_
          rintro x w'' ⟨rfl, hb3⟩
          have HB3 := hidP (step_below HB2.out hb3)
          have HX3 := hidP (HX2.out.below hb3)
          have CT2 := hidP (CT.out _ HB3.out)
          clear hb3 c0 c1 c2 CT HX2
          obtain ⟨c0, c1, c2⟩ := HX3.out.cells
          go_wp2
          go_quiet ((go_at_call 41; exact (CT2.out _).mono fun _ _ ⟨h1, d, h2⟩ => ⟨h1, _, h2.trans (World.drewN_drewN _ _ _)⟩))
          go_wp2
          go_ret
          exact ⟨rfl, below_drewN HB3.out _⟩
end Go.Proofs.Ythlldjknmdndoaa
