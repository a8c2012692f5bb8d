/- For all ints a to f: by Grlex and by Grevlex the list of the lesser degree is the lesser one; in one variable Lex and Grevlex compare alike. Conditions: none. -/
import Derived.Test.YthlldjknmdndoaaMoX
import Derived.Deep.RegionHeld3
import Derived.Deep.Cut
set_option linter.unusedVariables false
set_option linter.unusedSimpArgs false
namespace Go.Proofs.Ythlldjknmdndoaa.monoDegrees
open Go.ChangeShapes Go.WideShapes Go.ChangeAt Go.RowKit Go.Joins

def nameT : List ByteArray := [⟨#[116]⟩]

theorem ring3 (o : Int) (ho : o = 0 ∨ o = 1 ∨ o = 2) : ringB names3 o 0 = true := by
  rcases ho with rfl | rfl | rfl <;> decide +kernel
theorem ringT (o : Int) (ho : o = 0 ∨ o = 2) : ringB nameT o 0 = true := by
  rcases ho with rfl | rfl <;> decide +kernel
theorem right3 (o : Int) (ho : o = 0 ∨ o = 1 ∨ o = 2) (e : List Int) : rightB names3 o 0 e = rightB names3 0 0 e := rightB_same ((ring3 o ho).trans (ring3 0 (.inl rfl)).symm) e
theorem less3 (o : Int) (ho : o = 1 ∨ o = 2) {x y : List Int} (h1 : rightB names3 0 0 x = true) (h2 : rightB names3 0 0 y = true) (hd : degL x < degL y) : cmpR names3 o 0 x y = -1 := by
  have g1 := (right3 o (by omega) x).trans h1
  have g2 := (right3 o (by omega) y).trans h2
  rw [cmpR_right g1 g2]
  obtain ⟨l1, m1, -⟩ := rightB_iff.1 h1
  obtain ⟨l2, m2, -⟩ := rightB_iff.1 h2
  unfold degL at hd
  rw [if_pos m1, if_pos m2] at hd
  exact cmpL_degree ho _ (l1.trans l2.symm) hd
theorem single (a d : Int) : cmpR nameT 0 0 [a] [d] = cmpR nameT 2 0 [a] [d] := by
  have e1 : rightB nameT 0 0 [a] = rightB nameT 2 0 [a] := rightB_same ((ringT 0 (.inl rfl)).trans (ringT 2 (.inr rfl)).symm) _
  have e2 : rightB nameT 0 0 [d] = rightB nameT 2 0 [d] := rightB_same ((ringT 0 (.inl rfl)).trans (ringT 2 (.inr rfl)).symm) _
  unfold cmpR
  rw [e1, e2]
  split
  · exact cmpL_single a d
  · rfl

/-- The contract of three for an order that is none of a block. -/
theorem three_is (o : Int) (ho : o = 0 ∨ o = 1 ∨ o = 2) (w : World) :
    Calls Try.prog 30 #[.int .i64 o] w fun e w' => ∃ v, e = .returned v ∧ SeesR w' v names3 o 0 ∧ Below w.heap.size w w' := by
  have := law_three o w
  rwa [if_neg (by omega)] at this

/-- The two rings of one variable, each behind its names. -/
theorem two_rings (v : World) : ∃ (y : World) (g0 g1 g2 g3 : Nat),
    ((((v.alloc (.cells #[.string ⟨#[116]⟩] 9)).alloc (.cells #[.slice (some ⟨v.heap.size, 0, none⟩) 1 1, .int .i64 0, .int .i64 0] 24)).alloc (.cells #[.string ⟨#[116]⟩] 9)).alloc (.cells #[.slice (some ⟨v.heap.size + 1 + 1, 0, none⟩) 1 1, .int .i64 2, .int .i64 0] 24)) = y ∧
    v.heap.size + 1 + 1 + 1 = g3 ∧ v.heap.size + 1 + 1 = g2 ∧ v.heap.size + 1 = g1 ∧ v.heap.size = g0 ∧ Below v.heap.size v y ∧
    Box3 y g1 (.slice (some ⟨g0, 0, none⟩) 1 1) (.int .i64 0) (.int .i64 0) ∧ Box3 y g3 (.slice (some ⟨g2, 0, none⟩) 1 1) (.int .i64 2) (.int .i64 0) ∧
    SeesR y (.agg #[.slice (some ⟨g0, 0, none⟩) 1 1, .int .i64 0, .int .i64 0]) nameT 0 0 ∧ SeesR y (.agg #[.slice (some ⟨g2, 0, none⟩) 1 1, .int .i64 2, .int .i64 0]) nameT 2 0 := by
  refine ⟨_, _, _, _, _, rfl, rfl, rfl, rfl, rfl, ((((Below.refl _ v).alloc (Nat.le_refl _) _).alloc (by simp) _).alloc (by simp; omega) _).alloc (by simp; omega) _, ?_, ?_, ?_, ?_⟩
  · have h := Box3.new (v.alloc (.cells #[.string ⟨#[116]⟩] 9)) (.slice (some ⟨v.heap.size, 0, none⟩) 1 1) (.int .i64 0) (.int .i64 0) 24
    rw [Deep.nblk_alloc] at h
    exact (h.alloc _).alloc _
  · have h := Box3.new (((v.alloc (.cells #[.string ⟨#[116]⟩] 9)).alloc (.cells #[.slice (some ⟨v.heap.size, 0, none⟩) 1 1, .int .i64 0, .int .i64 0] 24)).alloc (.cells #[.string ⟨#[116]⟩] 9)) (.slice (some ⟨v.heap.size + 1 + 1, 0, none⟩) 1 1) (.int .i64 2) (.int .i64 0) 24
    rw [Deep.nblk_alloc, Deep.nblk_alloc, Deep.nblk_alloc] at h
    exact h
  · refine ⟨_, rfl, ?_⟩
    have h := SeesF.lit (f := Value.string) (d := ByteArray.empty) v 9 nameT (by decide)
    exact SeesF.below h ((((Below.refl _ _).alloc (Nat.le_refl _) _).alloc (by simp) _).alloc (by simp <;> omega) _)
  · refine ⟨_, rfl, ?_⟩
    have h := SeesF.lit (f := Value.string) (d := ByteArray.empty) ((v.alloc (.cells #[.string ⟨#[116]⟩] 9)).alloc (.cells #[.slice (some ⟨v.heap.size, 0, none⟩) 1 1, .int .i64 0, .int .i64 0] 24)) 9 nameT (by decide)
    rw [Deep.nblk_alloc, Deep.nblk_alloc] at h
    exact SeesF.below h ((Below.refl _ _).alloc (Nat.le_refl _) _)

theorem keep6 {y w : World} {g1 g3 : Nat} {a b c d e f : Value} (h1 : Box3 y g1 a b c) (h2 : Box3 y g3 d e f) (h : Below y.heap.size y w) :
    w.cell? ⟨g1, 0, none⟩ = some a ∧ w.cell? ⟨g1, 1, none⟩ = some b ∧ w.cell? ⟨g1, 2, none⟩ = some c ∧ w.cell? ⟨g3, 0, none⟩ = some d ∧ w.cell? ⟨g3, 1, none⟩ = some e ∧ w.cell? ⟨g3, 2, none⟩ = some f ∧ Hid (Below y.heap.size y w) :=
  ⟨(h1.below h).cells.1, (h1.below h).cells.2.1, (h1.below h).cells.2.2, (h2.below h).cells.1, (h2.below h).cells.2.1, (h2.below h).cells.2.2, h⟩
theorem below_a1 {y w : World} (h : Below y.heap.size y w) (o : Obj) : Below y.heap.size y (w.alloc o) := h.alloc h.size o
theorem below_d {y w : World} (h : Below y.heap.size y w) : Below y.heap.size y w.drew := h.drew
theorem cell_keep {w : World} {p : Addr} {x : Value} (h : w.cell? p = some x) (o : Obj) : (w.alloc o).cell? p = some x :=
  (((Below.refl _ w).alloc (Nat.le_refl _) o).cell (World.block_lt_of_cell? w p h)).trans h
theorem cell_drew {w : World} {p : Addr} {x : Value} (h : w.cell? p = some x) : w.drew.cell? p = some x := h
theorem cell_new {w : World} {x : Value} {t : TypeId} {g : Nat} (h : w.heap.size = g) : (w.alloc (.cells #[x] t)).cell? ⟨g, 0, none⟩ = some x := by
  subst h
  rw [World.cell?_alloc_at _ _ _ _ rfl]; rfl
theorem cells_kept {w w' : World} (h : Below w.heap.size w w') : Hid (∀ p x, w.cell? p = some x → w'.cell? p = some x) := fun p x hx => (h.cell (World.block_lt_of_cell? w p hx)).trans hx
theorem arm_below {P : Program} {F : FuncId} {args : Array Value} {y W : World} {Q : Ending → World → Prop} (h : Below y.heap.size y W) (k : Below y.heap.size y W → Calls P F args W Q) : Calls P F args W Q := k h
theorem one_sees {w : World} {g : Nat} {a : Int} (h : w.cell? ⟨g, 0, none⟩ = some (.int .i64 a)) : SeesI w (.slice (some ⟨g, 0, none⟩) 1 1) [a] :=
  ⟨_, _, rfl, by simp, by simp, (fun e => by cases e), fun _ => ⟨g, 0, rfl, fun i hi => by
    have : i = 0 := by simpa using hi
    subst this
    exact h⟩⟩

set_option maxRecDepth 100000 in
set_option maxHeartbeats 8000000 in
theorem walk {a b c d e f : Int} (qa : (Lit.int .i64 a).wf = true) (qb : (Lit.int .i64 b).wf = true) (qc : (Lit.int .i64 c).wf = true) (qd : (Lit.int .i64 d).wf = true) (qe : (Lit.int .i64 e).wf = true) (qf : (Lit.int .i64 f).wf = true) (w : World) : Calls Try.prog 11 #[.int .i64 a, .int .i64 b, .int .i64 c, .int .i64 d, .int .i64 e, .int .i64 f] w fun e w' => e = .returned (.bool true) ∧ Below w.heap.size w w' := by
  clear qa qb qc qd qe qf
  have C0 := hidP awake6
  have HL := hidP (less3 (x := [a, b, c]) (y := [d, e, f]))
  obtain ⟨M, hM⟩ : ∃ M, degL [a, b, c] = M := ⟨_, rfl⟩
  obtain ⟨N, hN⟩ : ∃ N, degL [d, e, f] = N := ⟨_, rfl⟩
  have HM := hidP hM
  have HN := hidP hN
  clear hM hN
  go_enter Try.func11, Try.ntmps11
  go_wp2_with fail
  refine (C0.out _).mono ?_
  rintro x w1 ⟨rfl, hb1⟩
  obtain ⟨hl1, ha, hb⟩ := lits2 w1 a b c d e f
  have B1 := hidP (step_below hb1 hl1)
  have HA := hidP ha; have HB := hidP hb
  clear hb1 hl1 ha hb
  go_wp2_with fail
  refine (degree_below HA.out HM.out).mono ?_
  rintro x w2 ⟨rfl, hb2⟩
  have B2 := hidP (step_below B1.out hb2)
  have HA2 := hidP (HA.out.below hb2); have HB2 := hidP (HB.out.below hb2)
  clear hb2 HA HB B1
  go_wp2_with fail
  refine (degree_below HB2.out HN.out).mono ?_
  rintro x w3 ⟨rfl, hb3⟩
  have B3 := hidP (step_below B2.out hb3)
  have HA3 := hidP (HA2.out.below hb3); have HB3 := hidP (HB2.out.below hb3)
  clear hb3 HA2 HB2 B2
  obtain ⟨P, hP⟩ : ∃ P, rightB names3 0 0 [a, b, c] = P := ⟨_, rfl⟩
  obtain ⟨Q, hQ⟩ : ∃ Q, rightB names3 0 0 [d, e, f] = Q := ⟨_, rfl⟩
  have HP := hidP hP; have HQ := hidP hQ
  clear hP hQ
  go_upto_region 6 with fail
  go_cut [61] from 35 (fun s61 wx => s61 = .bool false ∧ Hid (Below w.heap.size w wx))
  case first =>
    go_wp2_with fail
    refine (three_is 0 (.inl rfl) _).mono ?_
    rintro x w4 ⟨v4, rfl, hr4, hb4⟩
    have B4 := hidP (step_below B3.out hb4)
    have HA4 := hidP (HA3.out.below hb4); have HB4 := hidP (HB3.out.below hb4)
    have R4 := hidP hr4
    clear hb4 hr4 HA3 HB3 B3
    go_wp2_with fail
    refine (right_is R4.out HA4.out HP.out).mono ?_
    rintro x w5 ⟨rfl, hb5⟩
    have B5 := hidP (step_below B4.out hb5)
    have HA5 := hidP (HA4.out.below hb5); have HB5 := hidP (HB4.out.below hb5)
    clear hb5 HA4 HB4 B4 R4
    cases P with
    | false =>
      go_wp2_with fail
      go_meet
      exact ⟨rfl, B5⟩
    | true =>
      go_wp2_with fail
      refine (three_is 0 (.inl rfl) _).mono ?_
      rintro x w6 ⟨v6, rfl, hr6, hb6⟩
      have B6 := hidP (step_below B5.out hb6)
      have HA6 := hidP (HA5.out.below hb6); have HB6 := hidP (HB5.out.below hb6)
      have R6 := hidP hr6
      clear hb6 hr6 HA5 HB5 B5
      go_wp2_with fail
      refine (right_is R6.out HB6.out HQ.out).mono ?_
      rintro x w7 ⟨rfl, hb7⟩
      have B7 := hidP (step_below B6.out hb7)
      have HA7 := hidP (HA6.out.below hb7); have HB7 := hidP (HB6.out.below hb7)
      clear hb7 HA6 HB6 B6 R6
      cases Q with
      | false =>
        go_wp2_with fail
        go_meet
        exact ⟨rfl, B7⟩
      | true =>
        by_cases hMN : M < N
        · have HLT : Hid (degL [a, b, c] < degL [d, e, f]) := by show _ < _; rw [HM.out, HN.out]; exact hMN
          have E1 := hidP (HL.out 1 (.inl rfl) HP.out HQ.out HLT.out)
          have E2 := hidP (HL.out 2 (.inr rfl) HP.out HQ.out HLT.out)
          go_wp2_with fail
          refine (three_is 1 (.inr (.inl rfl)) _).mono ?_
          rintro x w8 ⟨v8, rfl, hr8, hb8⟩
          have B8 := hidP (step_below B7.out hb8)
          have HA8 := hidP (HA7.out.below hb8); have HB8 := hidP (HB7.out.below hb8)
          have R8 := hidP hr8
          clear hb8 hr8 HA7 HB7 B7
          go_wp2_with fail
          refine (cmp_is R8.out HA8.out HB8.out E1.out).mono ?_
          rintro x w9 ⟨rfl, hb9⟩
          have B9 := hidP (step_below B8.out hb9)
          have HA9 := hidP (HA8.out.below hb9); have HB9 := hidP (HB8.out.below hb9)
          clear hb9 HA8 HB8 B8 R8
          go_wp2_with fail
          refine (three_is 2 (.inr (.inr rfl)) _).mono ?_
          rintro x wa ⟨va, rfl, hra, hba⟩
          have Ba := hidP (step_below B9.out hba)
          have HAa := hidP (HA9.out.below hba); have HBa := hidP (HB9.out.below hba)
          have Ra := hidP hra
          clear hba hra HA9 HB9 B9
          go_wp2_with fail
          refine (cmp_is Ra.out HAa.out HBa.out E2.out).mono ?_
          rintro x wb ⟨rfl, hbb⟩
          have Bb := hidP (step_below Ba.out hbb)
          clear hbb
          go_wp2_with fail
          go_meet
          exact ⟨rfl, Bb⟩
        · go_wp2_with fail
          go_meet
          exact ⟨rfl, B7⟩
  case rest =>
  obtain ⟨rfl, HBc⟩ := hcut
  clear HM HN HL HP HQ HA3 HB3 B3
  obtain ⟨y, g0, g1, g2, g3, hy, e3, e2, e1, e0, hby, X1, X2, R1, R2⟩ := two_rings wc
  have BY := hidP (HBc.out.trans (hby.mono HBc.out.size))
  have HX1 := hidP X1; have HX2 := hidP X2
  have HR1 := hidP R1; have HR2 := hidP R2
  have HS := hidP (single a d)
  obtain ⟨r, hr⟩ : ∃ r, cmpR nameT 0 0 [a] [d] = r := ⟨_, rfl⟩
  rw [hr] at HS
  have HRr := hidP hr
  have HY := hidP hy; have E0 := hidP e0; have E1 := hidP e1; have E2 := hidP e2; have E3 := hidP e3
  clear hby X1 X2 R1 R2 hr hy e0 e1 e2 e3 C0
  go_wp2
  rw [HY.out, E3.out, E1.out]
  clear HY E0 E1 E2 E3
  obtain ⟨c0, c1, c2⟩ := HX1.out.cells
  obtain ⟨d0, d1, d2⟩ := HX2.out.cells
  have HD := hidP ((Below.refl y.heap.size y).drew)
  go_region_held3 (fun w' => w'.cell? ⟨g1, 0, none⟩ = some (.slice (some ⟨g0, 0, none⟩) 1 1) ∧ w'.cell? ⟨g1, 1, none⟩ = some (.int .i64 0) ∧ w'.cell? ⟨g1, 2, none⟩ = some (.int .i64 0) ∧ w'.cell? ⟨g3, 0, none⟩ = some (.slice (some ⟨g2, 0, none⟩) 1 1) ∧ w'.cell? ⟨g3, 1, none⟩ = some (.int .i64 2) ∧ w'.cell? ⟨g3, 2, none⟩ = some (.int .i64 0) ∧ Hid (Below y.heap.size y w')) (first | (refine keep6 HX1.out HX2.out ?_; repeat' (first | with_reducible exact hbn.out | with_reducible exact HD.out | with_reducible exact Below.refl _ _ | with_reducible refine below_a1 ?_ _ | with_reducible refine below_d ?_))) (first
    | (go_at_call 19
       refine arm_below (y := y) ?_ (fun hbw => ?_)
       focus (repeat' (first | with_reducible exact hbn.out | with_reducible exact HD.out | with_reducible exact Below.refl _ _ | with_reducible refine below_a1 ?_ _ | with_reducible refine below_d ?_))
       refine (cmp_is (r := r) (x := [a]) (y := [d]) (by first | exact SeesR.below HR1.out hbw | exact SeesR.below HR2.out hbw) (by refine one_sees ?_; repeat' (first | with_reducible assumption | with_reducible refine cell_drew ?_ | (with_reducible refine cell_new ?_; first | with_reducible rfl | (simp only [Deep.nblk_alloc] <;> omega)) | with_reducible refine cell_keep ?_ _ | with_reducible refine HK.out _ _ ?_)) (by refine one_sees ?_; repeat' (first | with_reducible assumption | with_reducible refine cell_drew ?_ | (with_reducible refine cell_new ?_; first | with_reducible rfl | (simp only [Deep.nblk_alloc] <;> omega)) | with_reducible refine cell_keep ?_ _ | with_reducible refine HK.out _ _ ?_)) (by first | exact HRr.out | exact HS.out.symm)).mono ?_
       rintro e wx ⟨rfl, hb⟩
       have HK := cells_kept hb
       have hbn : Hid (Below y.heap.size y wx) := hidP (step_below hbw hb)
       obtain ⟨xa0, xa1, xa2⟩ := (HX1.out.below hbn.out).cells
       obtain ⟨xb0, xb1, xb2⟩ := (HX2.out.below hbn.out).cells
       clear hb hbw)
    | fail)
  all_goals
    go_wp2
    go_ret
    exact ⟨ret_bool (by first | rfl | (simp; done)), (by refine step_below BY.out ?_; repeat' (first | with_reducible exact hbn.out | with_reducible exact HD.out | with_reducible exact Below.refl _ _ | with_reducible refine below_a1 ?_ _ | with_reducible refine below_d ?_))⟩

/-! ### The row's step -/
set_option maxRecDepth 100000 in
theorem contract (H : Type) (enc : TypeId × Value → H) (W : World) (base : Nat) (args : Array Value) (ds gs : List (DataW H)) (before : List MemPlace)
    (hval0 : ∀ (j : Nat) t v, Try.f11.params[j]? = some t → args[j]? = some v → Value.okWide Try.prog W .any base t v)
    (hW : DataW.Whole enc Try.prog Try.f11.params.toList Rows.monoDegreesSpec.vars false W args.toList ds gs before) :
    Calls Try.prog 11 args W fun e W' => ∃ v, e = .returned v ∧ Rows.monoDegreesSpec.post enc Try.prog Try.f11 false true false false W args v W' := by
  have hW' := hW
  obtain ⟨p, q, hA0, hV, rfl, hfz, hnd⟩ := hW
  have hA : DataW.TrodAll enc Try.prog W 0 (fun _ => true) true Try.f11.params.toList args.toList ds p := hA0
  have hval : ∀ (j : Nat) t v, Try.f11.params[j]? = some t → args[j]? = some v → Value.okWide Try.prog W .any base t v := hval0
  rw [Try.params11] at hA hval
  obtain ⟨v0, vs0, d0, ds0, p0, q0, hargs, rfl, rfl, h0, r0⟩ := trodAll_cons hA
  obtain ⟨v1, vs1, d1, ds1, p1, q1, rfl, rfl, rfl, h1, r1⟩ := trodAll_cons r0
  obtain ⟨v2, vs2, d2, ds2, p2, q2, rfl, rfl, rfl, h2, r2⟩ := trodAll_cons r1
  obtain ⟨v3, vs3, d3, ds3, p3, q3, rfl, rfl, rfl, h3, r3⟩ := trodAll_cons r2
  obtain ⟨v4, vs4, d4, ds4, p4, q4, rfl, rfl, rfl, h4, r4⟩ := trodAll_cons r3
  obtain ⟨v5, vs5, d5, ds5, p5, q5, rfl, rfl, rfl, h5, r5⟩ := trodAll_cons r4
  obtain ⟨rfl, rfl, rfl⟩ := trodAll_nil r5
  obtain rfl : args = #[v0, v1, v2, v3, v4, v5] := by cases args; simp_all
  obtain ⟨rfl, rfl⟩ := trodVars_none hV
  have k0 := h0
  obtain ⟨n0, rfl, rfl, rfl, wn0⟩ := open_int Try.underlying3 (hval 0 3 v0 rfl rfl) h0
  have k1 := h1
  obtain ⟨n1, rfl, rfl, rfl, wn1⟩ := open_int Try.underlying3 (hval 1 3 v1 rfl rfl) h1
  have k2 := h2
  obtain ⟨n2, rfl, rfl, rfl, wn2⟩ := open_int Try.underlying3 (hval 2 3 v2 rfl rfl) h2
  have k3 := h3
  obtain ⟨n3, rfl, rfl, rfl, wn3⟩ := open_int Try.underlying3 (hval 3 3 v3 rfl rfl) h3
  have k4 := h4
  obtain ⟨n4, rfl, rfl, rfl, wn4⟩ := open_int Try.underlying3 (hval 4 3 v4 rfl rfl) h4
  have k5 := h5
  obtain ⟨n5, rfl, rfl, rfl, wn5⟩ := open_int Try.underlying3 (hval 5 3 v5 rfl rfl) h5
  refine (walk wn0 wn1 wn2 wn3 wn4 wn5 W).mono fun e W' ⟨he, hb⟩ => ?_
  subst he
  exact ⟨_, rfl, _, _, _, _, _, _, hW', trodAll_cons_mk (shut_bool Try.underlying4 _) trodAll_mk0, trodAll_cons_mk (Below.trod laidOut (by kernel_rfl) (of_decide_eq_true (by kernel_rfl)) k0 hb (fun x hx => by first | cases hx; done | (have := hW'.lt x (by simp [hx]); simpa using this))) (trodAll_cons_mk (Below.trod laidOut (by kernel_rfl) (of_decide_eq_true (by kernel_rfl)) k1 hb (fun x hx => by first | cases hx; done | (have := hW'.lt x (by simp [hx]); simpa using this))) (trodAll_cons_mk (Below.trod laidOut (by kernel_rfl) (of_decide_eq_true (by kernel_rfl)) k2 hb (fun x hx => by first | cases hx; done | (have := hW'.lt x (by simp [hx]); simpa using this))) (trodAll_cons_mk (Below.trod laidOut (by kernel_rfl) (of_decide_eq_true (by kernel_rfl)) k3 hb (fun x hx => by first | cases hx; done | (have := hW'.lt x (by simp [hx]); simpa using this))) (trodAll_cons_mk (Below.trod laidOut (by kernel_rfl) (of_decide_eq_true (by kernel_rfl)) k4 hb (fun x hx => by first | cases hx; done | (have := hW'.lt x (by simp [hx]); simpa using this))) (trodAll_cons_mk (Below.trod laidOut (by kernel_rfl) (of_decide_eq_true (by kernel_rfl)) k5 hb (fun x hx => by first | cases hx; done | (have := hW'.lt x (by simp [hx]); simpa using this))) (trodAll_mk0)))))), rfl, hb.frame _, fun h => by cases h⟩

set_option maxRecDepth 100000 in
theorem lifted (os : Os) (started : os.Started) (H : Type) (enc : TypeId × Value → H) :
    ReturnsInHanded {} Try.checked os 11 .any (Rows.monoDegreesSpec.pre6 enc Try.prog Try.f11 Rows.monoDegreesRow.domain false) (Rows.monoDegreesSpec.post enc Try.prog Try.f11 false true false false) := by
  refine returnsInHanded_of_change (C := Try.checked) own started (by kernel_rfl) Try.func11
    (ChangeSpec.witness6 (enc := enc) (C := Try.checked) false ⟨#[], #[.int .i64 0, .int .i64 0, .int .i64 0, .int .i64 0, .int .i64 0, .int .i64 0], []⟩ 8 (by kernel_rfl) (by kernel_rfl) (by kernel_rfl) (by kernel_rfl)) ?_
  intro W base args ds gs before hval0 hW _ _
  exact contract H enc W base args ds gs before hval0 hW

theorem holds : Rows.MonoDegreesSaid :=
  OpenClaim.holds_of_wide 11 Try.f11 rfl rfl rfl rfl rfl rfl rfl ⟨rfl, rfl, rfl, rfl, rfl⟩ rfl rfl rfl rfl rfl (by kernel_rfl) Try.func11 (by kernel_rfl)
    (of_decide_eq_true (by kernel_rfl)) (by unfold Func.isWrapper; first | (rw [if_pos (by decide +kernel)]; kernel_rfl) | (rw [if_neg (by decide +kernel)]; exact ⟨rfl, rfl⟩))
    (fun os started H enc _ => lifted os started H enc)
end Go.Proofs.Ythlldjknmdndoaa.monoDegrees
