/- split.Degrees by its contract. -/
import Derived.Test.YtokdcgmjpnanoaaSqD
import Derived.Test.YtokdcgmjpnanoaaSqM

set_option linter.unusedVariables false
set_option linter.unusedSimpArgs false
namespace Go.Proofs.Ytokdcgmjpnanoaa
open Go.RowKit

/-- The polynomial divided by its last coefficient. -/
def monF (q : Nat) (f : List Int) : List Int := mon q (nf q f)
theorem monF_mo {q : Nat} (hq : IsP q) {f : List Int} (h : nf q f ≠ []) : Mo q (monF q f) ∧ (monF q f).length = (nf q f).length := by
  have h1 := mon_mon hq (nf_plain hq.pos f)
  refine ⟨h1.1.mo ?_, h1.2⟩
  intro e
  have h2 := h1.2
  rw [e] at h2
  exact h (List.eq_nil_of_length_eq_zero h2.symm)
def notInt (v : Value) : Prop := ∀ z, v ≠ .int .i64 z
theorem notInt_slice (a : Option Addr) (n c : Nat) : notInt (.slice a n c) := fun z h => by cases h
/-- The first k parts are told. -/
def PartsAt (q : Nat) (F : List Int) (w : World) (g N k : Nat) : Prop := ∃ vs : List Value, vs.length = N ∧ RowV 22 w g vs ∧ (∀ i, notInt (vs.getD i vNil)) ∧ ∀ i, i < k → ∃ P, SeesI w (vs.getD i vNil) P ∧ IsPart q F (i + 1) P
theorem PartsAt.below {q : Nat} {F : List Int} {w w' : World} {g N k : Nat} (h : PartsAt q F w g N k) (hb : Below w.heap.size w w') : PartsAt q F w' g N k := by
  obtain ⟨vs, h1, h2, h3, h4⟩ := h
  exact ⟨vs, h1, h2.below hb, h3, fun i hi => let ⟨P, p1, p2⟩ := h4 i hi; ⟨P, SeesI.below p1 hb, p2⟩⟩
theorem getD_setV (vs : List Value) (k : Nat) (x : Value) (i : Nat) : (vs.set k x).getD i vNil = if k = i ∧ i < vs.length then x else vs.getD i vNil := by
  rw [List.getD_eq_getElem?_getD, List.getElem?_set]
  by_cases h : k = i
  · by_cases h2 : i < vs.length
    · rw [if_pos h, if_pos (by omega), if_pos ⟨h, h2⟩]; rfl
    · rw [if_pos h, if_neg (by omega), if_neg (by omega), List.getD_eq_getElem?_getD, List.getElem?_eq_none (by omega)]
  · rw [if_neg h, if_neg (fun z => h z.1), List.getD_eq_getElem?_getD]
theorem PartsAt.set {q : Nat} {F P : List Int} {w : World} {g N k : Nat} {x : Value} (h : PartsAt q F w g N k) (hk : k < N) (hx : notInt x) (hP : SeesI w x P) (hI : IsPart q F (k + 1) P) : PartsAt q F (w.setCell ⟨g, k, none⟩ x) g N (k + 1) := by
  obtain ⟨vs, h1, h2, h3, h4⟩ := h
  have hc := h2.cell (i := k) (by omega)
  have hn : ∀ z, w.cell? ⟨g, k, none⟩ ≠ some (.int .i64 z) := fun z e => h3 k z (Option.some.inj (hc.symm.trans e))
  refine ⟨vs.set k x, by rw [List.length_set]; exact h1, h2.set (by omega) x, fun i => ?_, fun i hi => ?_⟩
  · rw [getD_setV]; split
    · exact hx
    · exact h3 i
  · rw [getD_setV]; split
    · rename_i e; rw [← e.1]; exact ⟨P, hP.setCell hn, hI⟩
    · rename_i e
      obtain ⟨P', p1, p2⟩ := h4 i (by omega)
      exact ⟨P', p1.setCell hn, p2⟩
/-- .. a store that tells nothing yet. -/
theorem PartsAt.put {q : Nat} {F : List Int} {w : World} {g N k : Nat} {x : Value} (h : PartsAt q F w g N k) (hk : k < N) (hx : notInt x) : PartsAt q F (w.setCell ⟨g, k, none⟩ x) g N k := by
  obtain ⟨vs, h1, h2, h3, h4⟩ := h
  have hc := h2.cell (i := k) (by omega)
  have hn : ∀ z, w.cell? ⟨g, k, none⟩ ≠ some (.int .i64 z) := fun z e => h3 k z (Option.some.inj (hc.symm.trans e))
  refine ⟨vs.set k x, by rw [List.length_set]; exact h1, h2.set (by omega) x, fun i => ?_, fun i hi => ?_⟩
  · rw [getD_setV]; split
    · exact hx
    · exact h3 i
  · rw [getD_setV]; split
    · omega
    · obtain ⟨P', p1, p2⟩ := h4 i (by omega)
      exact ⟨P', p1.setCell hn, p2⟩
theorem PartsAt.open {q : Nat} {F : List Int} {w : World} {g N k : Nat} (h : PartsAt q F w g N k) (hk : k < N) : g < w.heap.size ∧ w.frozen? ⟨g, k, none⟩ = false ∧ (∀ z, w.cell? ⟨g, k, none⟩ ≠ some (.int .i64 z)) ∧ ∃ y, w.cell? ⟨g, k, none⟩ = some y := by
  obtain ⟨vs, h1, h2, h3, h4⟩ := h
  have hc := h2.cell (i := k) (by omega)
  exact ⟨h2.lt, h2.frozen k, fun z e => h3 k z (Option.some.inj (hc.symm.trans e)), _, hc⟩
/-- What Degrees tells. -/
def DegTells (q : Nat) (f : List Int) (w : World) (e : Ending) (w' : World) : Prop :=
  ∃ ao cap L, e = .returned (.tuple #[.slice ao L.length cap, .int .i64 0]) ∧ SeesL w' (.slice ao L.length cap) L ∧ L.length + 1 = (nf q f).length ∧ (∀ i, i < L.length → IsPart q (monF q f) (i + 1) (L.getD i [])) ∧ Below w.heap.size w w'
theorem PartsAt.done {q : Nat} {F : List Int} {w : World} {g N : Nat} (hN : N ≤ 65536) (h : PartsAt q F w g N N) : ∃ L : List (List Int), L.length = N ∧ SeesL w (.slice (some ⟨g, 0, none⟩) N N) L ∧ ∀ i, i < N → IsPart q F (i + 1) (L.getD i []) := by
  obtain ⟨vs, h1, h2, h3, h4⟩ := h
  obtain ⟨P, hP⟩ : ∃ P : Nat → List Int, ∀ i, i < N → SeesI w (vs.getD i vNil) (P i) ∧ IsPart q F (i + 1) (P i) := by
    refine ⟨fun i => if h : i < N then Classical.choose (h4 i h) else [], fun i hi => ?_⟩
    simp only [dif_pos hi]
    exact Classical.choose_spec (h4 i hi)
  have hL : ((List.range N).map P).length = N := by simp
  have hg : ∀ i, i < N → ((List.range N).map P).getD i [] = P i := fun i hi => by
    rw [List.getD_eq_getElem?_getD, List.getElem?_map, List.getElem?_range hi]; rfl
  refine ⟨(List.range N).map P, hL, ⟨vs, by rw [h1, hL], h2.sees h1 (Nat.le_refl _) (by omega), fun i hi => ?_⟩, fun i hi => by rw [hg i hi]; exact (hP i hi).2⟩
  rw [hL] at hi
  rw [hg i hi]
  exact (hP i hi).1

set_option maxRecDepth 100000 in
theorem none_Degrees {vf : Value} {p : Int} {w : World} (h1 : -9223372036854775808 ≤ p) (h2 : p < 9223372036854775808) (hp : isP p = false) :
    Calls Try.prog 15 #[vf, .int .i64 p] w fun e w' => e = .returned (.tuple #[.slice none 0 0, .int .i64 50]) ∧ Below w.heap.size w w' := by
  have IS := hidP (not_prime h1 h2 hp)
  clear h1 h2 hp
  go_enter Try.func15, Try.ntmps15
  go_wp2_with fail
  refine (IS.out _).mono ?_
  rintro e w1 ⟨rfl, hb1⟩
  have B1 := hidP hb1
  clear hb1
  go_wp2_with fail
  go_ret2
  exact ⟨rfl, B1.out⟩
set_option maxRecDepth 100000 in
theorem zero_Degrees {vf : Value} {q : Nat} {f : List Int} {w : World} (hf : SeesI w vf f) (hlf : f.length ≤ 65536) (hq : IsP q) (hz : nf q f = []) :
    Calls Try.prog 15 #[vf, .int .i64 q] w fun e w' => e = .returned (.tuple #[.slice none 0 0, .int .i64 30]) ∧ Below w.heap.size w w' := by
  have IS := hidP (fun w => is_prime hq w)
  have CM : Hid (∀ w1, Below w.heap.size w w1 → Calls Try.prog 31 #[vf, .int .i64 q] w1 fun e w' => Tells (mon q (nf q f)) w1 e w') := fun w1 h => mod_Monic (SeesI.below hf h) hlf hq
  have HZ : Hid (mon q (nf q f) = []) := by rw [hz]; exact List.eq_nil_of_length_eq_zero (mon_mon hq (Plain.nil q hq.pos)).2
  clear hf hlf hz hq
  go_enter Try.func15, Try.ntmps15
  go_wp2_with fail
  refine (IS.out _).mono ?_
  rintro e w1 ⟨rfl, hb1⟩
  have B1 := hidP hb1
  have C1 := hidP (CM.out w1 hb1)
  clear hb1
  go_wp2_with fail
  refine C1.out.mono ?_
  rintro e w2 ⟨v2, rfl, hs2, hb2⟩
  rw [HZ.out] at hs2
  obtain ⟨a2, c2, rfl, -⟩ := SeesF.form hs2
  have B2 := hidP (step_below B1.out hb2)
  clear hs2 hb2 C1
  go_wp2_with fail
  go_ret2
  exact ⟨rfl, B2.out⟩

set_option maxRecDepth 100000 in
set_option maxHeartbeats 4000000 in
theorem mod_Degrees {vf : Value} {q : Nat} {f : List Int} {w : World} (hf : SeesI w vf f) (hlf : f.length ≤ 4000) (hq : IsP q) (hz : nf q f ≠ []) :
    Calls Try.prog 15 #[vf, .int .i64 q] w fun e w' => DegTells q f w e w' := by
  obtain ⟨hq0, hq2⟩ := isP_bounds hq
  have IS := hidP (fun w => is_prime hq w)
  have CM : Hid (∀ w1, Below w.heap.size w w1 → Calls Try.prog 31 #[vf, .int .i64 q] w1 fun e w' => Tells (monF q f) w1 e w') := fun w1 h => mod_Monic (SeesI.below hf h) (by omega) hq
  obtain ⟨mF, hFl⟩ := monF_mo hq hz
  have HM := hidP mF
  have HQ := hidP hq
  have hnl := nf_len q f
  obtain ⟨N, hN⟩ : ∃ N, (nf q f).length = N + 1 := ⟨(nf q f).length - 1, by have := List.length_pos_iff.2 hz; omega⟩
  have HN := hidP hN
  obtain ⟨F, hF⟩ : ∃ F, monF q f = F := ⟨_, rfl⟩
  have HFe := hidP hF
  rw [hF] at CM HM hFl
  have hmk := run_make_row' (P := Try.prog) 25 22 (.slice none 0 0) 24 Try.underlying25 info_list rfl .i64 .i64 N (by omega) (by omega)
  obtain ⟨Lf, hLf⟩ : ∃ Lf, F.length = Lf := ⟨_, rfl⟩
  have HLf := hidP hLf
  have e1 : (Lf : Int) - 1 = (N : Int) := by omega
  have hw1 : IntKind.i64.wrap (N : Int) = (N : Int) := by rw [IntKind.wrap_i64]; omega
  have hN4 : N ≤ 4000 := by omega
  have hL0 : ((Lf : Int) == 0) = false := by rw [beq_eq_false_iff_ne]; omega
  have hFN : Hid (F.length = N + 1) := by show _ = _; omega
  clear hf hlf hq hz mF hnl hN hF hFl hLf
  go_enter Try.func15, Try.ntmps15
  go_wp2_with fail
  refine (IS.out _).mono ?_
  rintro e w1 ⟨rfl, hb1⟩
  have B1 := hidP hb1
  have C1 := hidP (CM.out w1 hb1)
  clear hb1
  go_wp2_with fail
  refine C1.out.mono ?_
  rintro e w2 ⟨v2, rfl, hs2, hb2⟩
  have HS2 : Hid (∀ w3, Below w2.heap.size w2 w3 → SeesI w3 v2 F) := fun w3 h => SeesI.below hs2 h
  obtain ⟨a2, c2, e2, -⟩ := SeesF.form hs2
  subst e2
  rw [HLf.out] at HS2
  rw [HLf.out]
  have B2 := hidP (step_below B1.out hb2)
  obtain ⟨G, hG⟩ : ∃ G, G = w2.heap.size := ⟨_, rfl⟩
  have HGe : Hid (w.heap.size ≤ G) := by show _ ≤ _; rw [hG]; exact B2.out.size
  have HGq := hidP hG
  -- the row, then the literal [0, 1]
  have hY1 : Below w2.heap.size w2 (w2.alloc (.cells (madeCells #[.slice none 0 0] N) 22)) := (Below.refl _ w2).alloc (Nat.le_refl _) _
  have hRow := RowV.made w2 22 (.slice none 0 0) N
  have hY2 : Below (w2.alloc (.cells (madeCells #[.slice none 0 0] N) 22)).heap.size (w2.alloc (.cells (madeCells #[.slice none 0 0] N) 22)) ((w2.alloc (.cells (madeCells #[.slice none 0 0] N) 22)).alloc (.cells #[.int .i64 0, .int .i64 1] 3)) := (Below.refl _ _).alloc (Nat.le_refl _) _
  have hLit := SeesF.lit (f := vI) (d := 0) (w2.alloc (.cells (madeCells #[.slice none 0 0] N) 22)) 3 [0, 1] (by simp)
  have hRow2 := hRow.below hY2
  have hY3 := step_below hY1 hY2
  have hsz1 : (w2.alloc (.cells (madeCells #[.slice none 0 0] N) 22)).heap.size = G + 1 := by rw [hG]; simp
  rw [hsz1] at hLit
  rw [← hG] at hRow2
  have HP0 : Hid (PartsAt q F ((w2.alloc (.cells (madeCells #[.slice none 0 0] N) 22)).alloc (.cells #[.int .i64 0, .int .i64 1] 3)) G N 0) := ⟨_, List.length_replicate, hRow2, fun i => by
    rw [List.getD_eq_getElem?_getD, List.getElem?_replicate]; split <;> exact notInt_slice _ _ _, fun i hi => by omega⟩
  have HX0 : Hid (SeesI ((w2.alloc (.cells (madeCells #[.slice none 0 0] N) 22)).alloc (.cells #[.int .i64 0, .int .i64 1] 3)) (.slice (some ⟨G + 1, 0, none⟩) 2 2) [0, 1]) := hLit
  have HY3 := hidP hY3
  clear hs2 hb2 hY1 hY2 hY3 hRow hRow2 hLit hG C1 CM
  go_wp2_with fail
  rw [← HGq.out]
  obtain ⟨Y, hY⟩ : ∃ Y, Y = (w2.alloc (.cells (madeCells #[.slice none 0 0] N) 22)).alloc (.cells #[.int .i64 0, .int .i64 1] 3) := ⟨_, rfl⟩
  rw [← hY] at HP0 HX0 HY3 ⊢
  have CR := hidP (mod_radical HQ.out F.length (.slice a2 Lf c2) F Y (Nat.le_refl _) (by have := hFN.out; omega) HM.out (HS2.out Y HY3.out))
  have B3 := hidP (step_below B2.out HY3.out)
  clear hY hmk HS2 HY3 hsz1
  refine CR.out.mono ?_
  rintro e w4 ⟨v4, R, rfl, hs4, hR4, hl4, hb4⟩
  have HP4 := hidP (HP0.out.below hb4)
  have HX4 := hidP (HX0.out.below hb4)
  have B4 := hidP (step_below B3.out hb4)
  have HI4 := hidP (DegInv.start hR4)
  obtain ⟨a4, c4, e4, -⟩ := SeesF.form hs4
  subst e4
  have HS4 := hidP hs4
  have hr4 : R.length ≤ 4001 ∧ 1 ≤ R.length := by
    have := hFN.out; have := List.length_pos_iff.2 hR4.1.ne; omega
  obtain ⟨r4a, r4b⟩ := hr4
  clear hs4 hR4 hl4 hb4 HP0 HX0 CR
  go_wp2_with fail
  go_loopw [8, 9, 32] (fun v8 v9 v32 wr => ∃ (k r : Nat) (ar : Option Addr) (cr : Nat), v32 = .int .i64 k ∧ k ≤ N ∧ v9 = .slice ar r cr ∧ 1 ≤ r ∧ r ≤ 4001 ∧ Hid (PartsAt q F wr G N k) ∧ Hid (∃ X R, SeesI wr v8 X ∧ SeesI wr (.slice ar r cr) R ∧ R.length = r ∧ X.length ≤ 4001 ∧ DegInv q F k X R) ∧ Hid (SeesI wr (.slice (some ⟨G + 1, 0, none⟩) 2 2) [0, 1]) ∧ Hid (Below w.heap.size w wr)) (fun _ _ v _ => N - (intOf v).toNat)
  case atStart => exact ⟨0, R.length, a4, c4, rfl, Nat.zero_le _, rfl, r4b, r4a, HP4, ⟨pX, R, HX4.out, HS4.out, rfl, by show 2 ≤ _; omega, HI4.out⟩, HX4, B4⟩
  case round =>
    clear HP4 HX4 HI4 HS4
    obtain ⟨k, r, ar, cr, rfl, hk, rfl, hr1, hr2, hP, hD, hX, hB⟩ := hrel
    by_cases hlt : k < N
    · -- l[i] = [1]
      obtain ⟨hgl, hfr, hni, y0, hcy⟩ := hP.out.open hlt
      obtain ⟨X, R', d1, d2, d3, d4, d5⟩ := hD.out
      obtain ⟨b1, hb1e⟩ : ∃ b1, b1 = wr.heap.size := ⟨_, rfl⟩
      obtain ⟨W1, hW1⟩ : ∃ W1, W1 = wr.setCell ⟨G, k, none⟩ (.slice (some ⟨b1, 0, none⟩) 1 1) := ⟨_, rfl⟩
      have hP1 := hP.out.put hlt (notInt_slice (some ⟨b1, 0, none⟩) 1 1)
      have hc1 : W1.cell? ⟨G, k, none⟩ = some (.slice (some ⟨b1, 0, none⟩) 1 1) := by rw [hW1]; exact World.cell?_setCell_same (h := hcy) ..
      have hX1 : SeesI W1 (.slice (some ⟨G + 1, 0, none⟩) 2 2) [0, 1] := by rw [hW1]; exact SeesI.setCell hX.out hni
      have hD1 : SeesI W1 u8 X := by rw [hW1]; exact SeesI.setCell d1 hni
      have hD2 : SeesI W1 (.slice ar r cr) R' := by rw [hW1]; exact SeesI.setCell d2 hni
      have hB1 : Below w.heap.size w W1 := by rw [hW1]; exact hB.out.setCell HGe.out _
      have hz1 : W1.heap.size = b1 := by rw [hW1, hb1e, Deep.nblk_setCell]
      have hg1 : G < W1.heap.size := by rw [hz1, hb1e]; exact hgl
      rw [← hW1] at hP1
      have hb1 : Below W1.heap.size W1 (W1.alloc (.cells #[.int .i64 1] 3)) := (Below.refl _ W1).alloc (Nat.le_refl _) _
      have HLit : Hid (SeesI (W1.alloc (.cells #[.int .i64 1] 3)) (.slice (some ⟨b1, 0, none⟩) 1 1) [1]) := by
        have := SeesF.lit (f := vI) (d := 0) W1 3 [1] (by simp)
        rw [hz1] at this
        exact this
      have HB1 : Hid (Below w.heap.size w (W1.alloc (.cells #[.int .i64 1] 3))) := step_below hB1 hb1
      have HXx := hidP (hX1.below hb1)
      have HD1 := hidP (hD1.below hb1)
      have HD2 := hidP (hD2.below hb1)
      have HP1 := hidP (hP1.below hb1)
      have HC1 : Hid ((W1.alloc (.cells #[.int .i64 1] 3)).cell? ⟨G, k, none⟩ = some (.slice (some ⟨b1, 0, none⟩) 1 1)) := (hb1.cell (p := ⟨G, k, none⟩) hg1).trans hc1
      have HD5 := hidP d5
      have HD3 := hidP d3
      have HD4 := hidP d4
      obtain ⟨Y1, hY1⟩ : ∃ Y1, Y1 = W1.alloc (.cells #[.int .i64 1] 3) := ⟨_, rfl⟩
      rw [← hY1] at HLit HB1 HXx HD1 HD2 HP1 HC1
      rw [hW1] at hY1
      have HY1 := hidP hY1
      have HB1e := hidP hb1e
      have h0k : 0 + k = k := Nat.zero_add k
      have hk1 : IntKind.i64.wrap ((k : Int) + 1) = (k : Int) + 1 := by rw [IntKind.wrap_i64]; omega
      have hw2 : IntKind.i64.wrap (2 * ((k : Int) + 1)) = 2 * ((k : Int) + 1) := by rw [IntKind.wrap_i64]; omega
      have hr3 : IntKind.i64.wrap ((r : Int) - 1) = (r : Int) - 1 := by rw [IntKind.wrap_i64]; omega
      clear hP hD d1 d2 d3 d4 d5 hb1 hP1 hX hni hY1 hb1e hB hc1 hX1 hD1 hD2 hB1 hz1 hg1 hW1 W1
      by_cases hge : 2 * (k + 1) ≤ r - 1
      · have hge' : (r : Int) - 1 ≥ 2 * ((k : Int) + 1) := by omega
        have CP := hidP (mod_PW (n := q) HD1.out HD2.out (by omega) (by have := HD4.out; omega) (by have := HD3.out; omega) HQ.out HD5.out.mR.nf_ne)
        go_wp2_with fail
        rw [← HB1e.out, ← HY1.out]
        refine CP.out.mono ?_
        rintro e w5 ⟨v5, X', rfl, hs5, hR5, hb5⟩
        have hXl : X'.length ≤ 4001 := by have := hR5.lt; have := nf_len q R'; have := HD3.out; omega
        have HX5 := hidP (HXx.out.below hb5)
        have HP5 := hidP (HP1.out.below hb5)
        have HR5 := hidP (HD2.out.below hb5)
        have B5 := hidP (step_below HB1.out hb5)
        have HRest := hidP hR5
        have HS5 : Hid (∀ w6, Below w5.heap.size w5 w6 → SeesI w6 v5 X') := fun w6 h => SeesI.below hs5 h
        have CS := hidP (modT_Sub hs5 HX5.out (by omega) (by simp) HQ.out)
        clear hs5 hR5 hb5 CP HXx HP1 HD1 HD2 HLit HB1
        go_wp2_with fail
        refine CS.out.mono ?_
        rintro e w6 ⟨v6, rfl, hs6, hb6⟩
        have HX6 := hidP (HX5.out.below hb6)
        have HP6 := hidP (HP5.out.below hb6)
        have HR6 := hidP (HR5.out.below hb6)
        have HXv6 := hidP (HS5.out w6 hb6)
        have B6 := hidP (step_below B5.out hb6)
        have CG := hidP (mod_Gcd HR6.out hs6 (by have := HD3.out; omega) (by have := nf_len q (padd X' (psc (-1) [0, 1])); rw [padd_len, psc_len] at this; have : ([0, 1] : List Int).length = 2 := rfl; omega) HQ.out)
        have HXl := hidP hXl
        clear hs6 hb6 CS HX5 HP5 HR5 HS5 hXl
        go_wp2_with fail
        refine CG.out.mono ?_
        rintro e w7 ⟨v7, h7, rfl, hs7, hg7, hl7, hb7⟩
        have HP7 := HP6.out.below hb7
        obtain ⟨hgl7, hfr7, hni7, y7, hcy7⟩ := HP7.open hlt
        have mh := hg7.mo HQ.out HD5.out.mR.nf_ne
        obtain ⟨a7, c7, e7, -⟩ := SeesF.form hs7
        subst e7
        obtain ⟨t7, ht7⟩ : ∃ t7, h7.length = t7 := ⟨_, rfl⟩
        rw [ht7] at hs7
        rw [ht7]
        have hnv : notInt (.slice a7 t7 c7) := notInt_slice _ _ _
        have HG7 := hidP hg7
        have HMh := hidP mh
        -- the store
        have HX7 : Hid (SeesI (w7.setCell ⟨G, k, none⟩ (.slice a7 t7 c7)) (.slice (some ⟨G + 1, 0, none⟩) 2 2) [0, 1]) := (HX6.out.below hb7).setCell hni7
        have HR7 : Hid (SeesI (w7.setCell ⟨G, k, none⟩ (.slice a7 t7 c7)) (.slice ar r cr) R') := (HR6.out.below hb7).setCell hni7
        have HXv7 : Hid (SeesI (w7.setCell ⟨G, k, none⟩ (.slice a7 t7 c7)) v5 X') := (HXv6.out.below hb7).setCell hni7
        have HV7 : Hid (SeesI (w7.setCell ⟨G, k, none⟩ (.slice a7 t7 c7)) (.slice a7 t7 c7) h7) := SeesI.setCell hs7 hni7
        have B7 : Hid (Below w.heap.size w (w7.setCell ⟨G, k, none⟩ (.slice a7 t7 c7))) := (step_below B6.out hb7).setCell HGe.out _
        have hcs : (w7.setCell ⟨G, k, none⟩ (.slice a7 t7 c7)).cell? ⟨G, k, none⟩ = some (.slice a7 t7 c7) := World.cell?_setCell_same (h := hcy7) ..
        have HPs : Hid (∀ w8, Below (w7.setCell ⟨G, k, none⟩ (.slice a7 t7 c7)).heap.size (w7.setCell ⟨G, k, none⟩ (.slice a7 t7 c7)) w8 → IsPart q F (k + 1) h7 → PartsAt q F w8 G N (k + 1)) := fun w8 h hi => (HP7.set hlt hnv hs7 hi).below h
        have HCQ := hidP (mod_quotD HR7.out HV7.out (by have := HD3.out; omega) HQ.out HD5.out.mR mh hg7.dvF)
        obtain ⟨Y7, hY7⟩ : ∃ Y7, Y7 = w7.setCell ⟨G, k, none⟩ (.slice a7 t7 c7) := ⟨_, rfl⟩
        have HY7 := hidP hY7
        rw [← hY7] at HX7 HR7 HXv7 HV7 B7 hcs HPs HCQ
        clear HP7 mh hs7 hg7 hl7 hb7 hni7 ht7 hnv HX6 HR6 HXv6 HP6 CG hY7 hcy hfr hgl
        go_wp2_with fail
        rw [← HY7.out]
        refine HCQ.out.mono ?_
        rintro e w8 ⟨v8, K, rfl, hs8, mK, hE8, hl8, hb8⟩
        obtain ⟨st1, st2⟩ := DegInv.step1 HQ.out HD5.out (by have := HD3.out; omega) HRest.out HG7.out HMh.out mK hE8
        have HP8 := hidP (HPs.out w8 hb8 st1)
        have HX8 := hidP (HX7.out.below hb8)
        have HXv8 := hidP (HXv7.out.below hb8)
        have B8 := hidP (step_below B7.out hb8)
        obtain ⟨a8, c8, e8, -⟩ := SeesF.form hs8
        subst e8
        have hKl : 1 ≤ K.length ∧ K.length ≤ 4001 := by
          have := List.length_pos_iff.2 mK.ne; have := List.length_pos_iff.2 HMh.out.ne; have := HD3.out; omega
        obtain ⟨kl1, kl2⟩ := hKl
        have HDn : Hid (∃ X R, SeesI w8 v5 X ∧ SeesI w8 (.slice a8 K.length c8) R ∧ R.length = K.length ∧ X.length ≤ 4001 ∧ DegInv q F (k + 1) X R) := ⟨X', K, HXv8.out, hs8, rfl, HXl.out, st2⟩
        clear hs8 mK hE8 hl8 hb8 st1 st2 HPs HX7 HXv7 HR7 HV7 HCQ hcs HG7 HMh
        go_wp2_with fail
        go_roundw
        case rel => exact ⟨k + 1, K.length, a8, c8, by go_num, by omega, rfl, kl1, kl2, HP8, HDn, HX8, B8⟩
        case measure => simp [intOf]; omega
      · have hge' : ¬ (r : Int) - 1 ≥ 2 * ((k : Int) + 1) := by omega
        by_cases heq : r = k + 2
        · have heq' : (((r : Int) - 1) == ((k : Int) + 1)) = true := by rw [beq_iff_eq]; omega
          obtain ⟨st1, st2⟩ := DegInv.step2 HQ.out HD5.out (by have := HD3.out; omega)
          -- a second literal [1], and the store of rest
          obtain ⟨hgl1, hfr1, hni1, y1, hcy1⟩ := HP1.out.open hlt
          obtain ⟨b2, hb2e⟩ : ∃ b2, b2 = Y1.heap.size := ⟨_, rfl⟩
          obtain ⟨W2, hW2⟩ : ∃ W2, W2 = Y1.setCell ⟨G, k, none⟩ (.slice ar r cr) := ⟨_, rfl⟩
          have hP2 := HP1.out.set hlt (notInt_slice ar r cr) HD2.out st1
          have hX2 : SeesI W2 (.slice (some ⟨G + 1, 0, none⟩) 2 2) [0, 1] := by rw [hW2]; exact HXx.out.setCell hni1
          have hD2' : SeesI W2 u8 X := by rw [hW2]; exact HD1.out.setCell hni1
          have hB2' : Below w.heap.size w W2 := by rw [hW2]; exact HB1.out.setCell HGe.out _
          have hz2 : W2.heap.size = b2 := by rw [hW2, hb2e, Deep.nblk_setCell]
          rw [← hW2] at hP2
          have hb2 : Below W2.heap.size W2 (W2.alloc (.cells #[.int .i64 1] 3)) := (Below.refl _ W2).alloc (Nat.le_refl _) _
          have hLit2 : SeesI (W2.alloc (.cells #[.int .i64 1] 3)) (.slice (some ⟨b2, 0, none⟩) 1 1) [1] := by
            have := SeesF.lit (f := vI) (d := 0) W2 3 [1] (by simp)
            rw [hz2] at this
            exact this
          have HP2 := hidP (hP2.below hb2)
          have HX2 := hidP (hX2.below hb2)
          have B2' : Hid (Below w.heap.size w (W2.alloc (.cells #[.int .i64 1] 3))) := step_below hB2' hb2
          have HDn : Hid (∃ X R, SeesI (W2.alloc (.cells #[.int .i64 1] 3)) u8 X ∧ SeesI (W2.alloc (.cells #[.int .i64 1] 3)) (.slice (some ⟨b2, 0, none⟩) 1 1) R ∧ R.length = 1 ∧ X.length ≤ 4001 ∧ DegInv q F (k + 1) X R) :=
            ⟨X, [1], hD2'.below hb2, hLit2, rfl, HD4.out, st2⟩
          obtain ⟨Y2, hY2⟩ : ∃ Y2, Y2 = W2.alloc (.cells #[.int .i64 1] 3) := ⟨_, rfl⟩
          rw [← hY2] at HP2 HX2 B2' HDn
          rw [hW2] at hY2
          have HY2 := hidP hY2
          have HB2e := hidP hb2e
          clear heq hY2 hb2e hb2 hLit2 hni1 st1 st2 hP2 hX2 hD2' hB2' hz2 hW2 W2
          go_upto_region 18 with fail
          rw [← HB1e.out, ← HY1.out]
          go_wp2_with fail
          rw [← HB2e.out, ← HY2.out]
          go_roundw
          case rel => exact ⟨k + 1, 1, _, 1, by go_num, by omega, rfl, by omega, by omega, HP2, HDn, HX2, B2'⟩
          case measure => simp [intOf]; omega
        · have heq' : (((r : Int) - 1) == ((k : Int) + 1)) = false := by rw [beq_eq_false_iff_ne]; omega
          obtain ⟨st1, st2⟩ := DegInv.step3 HQ.out HD5.out (by have := HD3.out; omega) (by have := HD3.out; omega)
          have HPn : Hid (PartsAt q F Y1 G N (k + 1)) := by
            obtain ⟨vs, p1, p2, p3, p4⟩ := HP1.out
            refine ⟨vs, p1, p2, p3, fun i hi => ?_⟩
            by_cases hik : i = k
            · subst hik
              have hc := p2.cell (i := i) (by omega)
              rw [Option.some.inj (hc.symm.trans HC1.out)]
              exact ⟨[1], HLit.out, st1⟩
            · exact p4 i (by omega)
          have HDn : Hid (∃ X R, SeesI Y1 u8 X ∧ SeesI Y1 (.slice ar r cr) R ∧ R.length = r ∧ X.length ≤ 4001 ∧ DegInv q F (k + 1) X R) := ⟨X, R', HD1.out, HD2.out, HD3.out, HD4.out, st2⟩
          clear st1 st2
          go_wp2_with fail
          rw [← HB1e.out, ← HY1.out]
          go_roundw
          case rel => exact ⟨k + 1, r, ar, cr, by go_num, by omega, rfl, hr1, hr2, HPn, HDn, HXx, HB1⟩
          case measure => simp [intOf]; omega
    · obtain rfl : k = N := by omega
      obtain ⟨L, l1, l2, l3⟩ := hP.out.done (by omega)
      subst l1
      have HR : Hid (DegTells q f w (.returned (.tuple #[.slice (some ⟨G, 0, none⟩) L.length L.length, .int .i64 0])) wr) := ⟨_, _, L, rfl, l2, HN.out.symm, fun i hi => by rw [HFe.out]; exact l3 i hi, hB.out⟩
      clear hP hD l2 l3
      go_wp2_with fail
      go_ret2
      exact HR.out
end Go.Proofs.Ytokdcgmjpnanoaa
