/- modular.combine, Add and Sub by their contracts, by a prime. -/
import Derived.Test.YtokdcgmjpnanoaaJaE
import Derived.Test.YtokdcgmjpnanoaaPr5
import Derived.Laws.CopyOwn

set_option linter.unusedVariables false
set_option linter.unusedSimpArgs false
namespace Go.Proofs.Ytokdcgmjpnanoaa
open Go.RowKit

theorem row_splice {w : World} {G N : Nat} {l : List Int} (h : w.heap[G]? = some (.cells (splice (List.replicate N (Value.int .i64 0)) 0 (l.map vI)).toArray 3 (0, 0))) (hl : l.length ≤ N) : RowW w G (l ++ List.replicate (N - l.length) 0) := by
  refine ⟨_, h, ?_, fun i hi => ?_⟩
  · rw [List.size_toArray, length_splice _ _ _ (by simp; omega)]; simp; omega
  · rw [List.getElem?_toArray]
    unfold splice
    simp only [List.take_zero, List.nil_append, Nat.zero_add, List.length_map, List.drop_replicate]
    rw [List.length_append, List.length_replicate] at hi
    rw [List.getD_eq_getElem?_getD]
    by_cases h1 : i < l.length
    · rw [List.getElem?_append_left (by simpa using h1), List.getElem?_append_left h1, List.getElem?_map, List.getElem?_eq_getElem h1]; rfl
    · rw [List.getElem?_append_right (by simpa using h1), List.getElem?_append_right (by omega), List.length_map, List.getElem?_replicate, List.getElem?_replicate, if_pos (by omega), if_pos (by omega)]; rfl
theorem pad_ev (l : List Int) (n : Nat) (x : Int) : ev (l ++ List.replicate n 0) x = ev l x := by rw [ev_append, ev_zeros]; simp
theorem pad_getD (l : List Int) (n i : Nat) : (l ++ List.replicate n 0).getD i 0 = l.getD i 0 := cf_ext (fun x => pad_ev l n x) i
theorem tog_add_E (q : Nat) {l g : List Int} (h : g.length ≤ l.length) : E q (tog (fun a b => a + b) l g 0 g.length) (padd l g) := cf_E fun i => by
  rw [tog_getD, getD_padd]
  by_cases h1 : i < g.length
  · rw [if_pos (by omega)]; rfl
  · rw [if_neg (by omega), getD_over' g i (by omega), Int.add_zero]
theorem tog_sub_E (q : Nat) {l g : List Int} (h : g.length ≤ l.length) : E q (tog (fun a b => a - b) l g 0 g.length) (padd l (psc (-1) g)) := cf_E fun i => by
  rw [tog_getD, getD_padd, getD_psc]
  by_cases h1 : i < g.length
  · rw [if_pos (by omega), Nat.sub_zero]; congr 1; omega
  · rw [if_neg (by omega), getD_over' g i (by omega)]; congr 1; omega
theorem isP_bounds {q : Nat} (hq : IsP q) : 0 < q ∧ q < 2147483648 := ⟨by have := hq.1; omega, hq.2.1⟩
theorem is_prime {q : Nat} (hq : IsP q) (w : World) : Calls Try.prog 30 #[.int .i64 q] w fun e w' => e = .returned (.bool true) ∧ Below w.heap.size w w' := by
  have := prime_is (q : Int) (by omega) (by have := hq.2.1; omega) w
  rwa [isP_of hq] at this

set_option maxRecDepth 100000 in
set_option maxHeartbeats 4000000 in
theorem mod_combine_add {va vb : Value} {q : Nat} {f g : List Int} {w : World} (hf : SeesI w va f) (hg : SeesI w vb g) (hlf : f.length ≤ 65536) (hlg : g.length ≤ 65536) (hq : IsP q) :
    Calls Try.prog 66 #[va, vb, .int .i64 q, .func (.func 91) #[] #[]] w fun e w' => ∃ v' g', e = .returned v' ∧ w.heap.size ≤ g' ∧ Mine w' g' v' (nf q (padd f g)) ∧ Below w.heap.size w w' := by
  obtain ⟨hq0, hq2⟩ := isP_bounds hq
  have IS := hidP (fun w => is_prime hq w)
  have hsz : (Try.prog.info? 3).map (·.size) = some 1 := by kernel_rfl
  have S : Hid (∀ v g' l w, Mine w g' v l → Calls Try.prog 87 #[v, .int .i64 q] w fun e w' => ∃ v', e = .returned v' ∧ Mine w' g' v' (nf q l) ∧ w.grownBy w' (some g')) := fun v g' l w h => mod_settle h hq0 hq2
  have PF : Hid (∀ w1, Below w.heap.size w w1 → Calls Try.prog 57 #[va, .int .i64 q] w1 fun e w' => ∃ v' g, e = .returned v' ∧ w1.heap.size ≤ g ∧ Mine w' g v' (nf q f) ∧ Below w1.heap.size w1 w') := fun w1 h => mod_plain (SeesI.below hf h) (by omega) hq0 hq2
  have PG : Hid (∀ w1, Below w.heap.size w w1 → Calls Try.prog 57 #[vb, .int .i64 q] w1 fun e w' => ∃ v' g', e = .returned v' ∧ w1.heap.size ≤ g' ∧ Mine w' g' v' (nf q g) ∧ Below w1.heap.size w1 w') := fun w1 h => mod_plain (SeesI.below hg h) (by omega) hq0 hq2
  have HEE : Hid (E q (padd (nf q f) (nf q g)) (padd f g)) := (nf_E q f).add (nf_E q g)
  have lf := nf_len q f
  have lg := nf_len q g
  obtain ⟨A, ca, rfl, hcap⟩ := SeesF.form hf
  obtain ⟨B, cb, rfl, hcap2⟩ := SeesF.form hg
  clear hf hg hq
  by_cases h : (f.length : Int) < (g.length : Int)
  · have hmk := run_make_row' (P := Try.prog) 22 3 (.int .i64 0) 8 Try.underlying22 info_int rfl .i64 .i64 g.length (by omega) (by omega)
    have hNf : (nf q f).length ≤ g.length := by omega
    have hNg : (nf q g).length ≤ g.length := by omega
    have HNf := hidP hNf
    have HNg := hidP hNg
    clear hNf hNg
    go_enter Try.func66, Try.ntmps66
    go_wp2_with fail
    refine (IS.out _).mono ?_
    rintro e w1 ⟨rfl, hb1⟩
    have B1 := hidP hb1
    clear hb1
    go_wp2_with fail
    have HRow : Hid ((w1.alloc (.cells (madeCells #[.int .i64 0] g.length) 3)).heap[w1.heap.size]? = some (.cells (List.replicate g.length (Value.int .i64 0)).toArray 3 (0, 0))) := by
      show _ = _
      rw [Deep.blk_alloc_new]; congr 2; apply Array.ext'; rw [toList_madeCells_one]
    have HBa : Hid (Below w1.heap.size w1 (w1.alloc (.cells (madeCells #[.int .i64 0] g.length) 3))) := (Below.refl _ w1).alloc (Nat.le_refl _) _
    have HSz : Hid (w1.heap.size < (w1.alloc (.cells (madeCells #[.int .i64 0] g.length) 3)).heap.size) := by show _ < _; simp
    obtain ⟨G, hG⟩ : ∃ G, G = w1.heap.size := ⟨_, rfl⟩
    rw [← hG] at HRow HSz
    rw [← hG]
    obtain ⟨Y, hY⟩ : ∃ x, x = w1.alloc (.cells (madeCells #[.int .i64 0] g.length) 3) := ⟨_, rfl⟩
    rw [← hY] at HRow HBa HSz ⊢
    have HGe := hidP hG
    clear hmk hY hG
    refine (PF.out _ (step_below B1.out HBa.out)).mono ?_
    rintro e w3 ⟨v3, g3, rfl, hg3, hm3, hb3⟩
    obtain ⟨a3, c3, rfl, hc3⟩ := SeesF.form hm3.sees
    have B3 : Hid (Below w1.heap.size w1 w3) := step_below HBa.out hb3
    have HR3 : Hid (w3.heap[G]? = some (.cells (List.replicate g.length (Value.int .i64 0)).toArray 3 (0, 0))) := (hb3.block G HSz.out).trans HRow.out
    have HS3 : Hid (0 < ((nf q f).map vI).length → ∃ ad, a3 = some ad ∧ ∀ j v, ((nf q f).map vI)[j]? = some v → w3.cell? (ad.add j) = some v) := fun hp => by
      rw [List.length_map] at hp
      obtain ⟨b, o, ha, -⟩ := hm3.sees.at hp
      subst ha
      exact ⟨_, rfl, hm3.sees.news⟩
    clear hg3 hm3 hb3 HRow HBa
    go_wp2_with (with_reducible refine wpList_copy_splice rfl (.tmp 19) (.tmp 22) 22 22 rfl 3 Try.underlying22 hsz (some ⟨G, 0, none⟩) a3 g.length g.length (nf q f).length c3 rfl rfl G 0 (List.replicate g.length (Value.int .i64 0)) 3 HR3.out ((nf q f).map vI) ?hn1 (fun h => ⟨rfl, HS3.out h⟩) ?hfit1 (oneCell_ints _) w1.heap.size w1 B3.out (by rw [HGe.out]; exact Nat.le_refl _) ?_)
    case hn1 => rw [List.length_map]; exact (Nat.min_eq_left HNf.out).symm
    case hfit1 => rw [List.length_map, List.length_replicate, Nat.zero_add]; exact HNf.out
    intro w4 hg4 hb4
    have HR4 := hidP (row_splice hg4.out HNf.out)
    have B4 := hidP (step_below B1.out hb4)
    have HGl4 : Hid (G < w4.heap.size) := (Array.getElem?_eq_some_iff.1 hg4.out).1
    clear hg4 hb4 HS3 HR3 B3
    go_wp2_with fail
    refine (PG.out _ B4.out).mono ?_
    rintro e w5 ⟨v5, g5, rfl, hg5, hm5, hb5⟩
    obtain ⟨a5, c5, rfl, hc5⟩ := SeesF.form hm5.sees
    have B5 := hidP (step_below B4.out hb5)
    have HR5 := hidP (HR4.out.below hb5)
    have hlen5 : (nf q f ++ List.replicate (g.length - (nf q f).length) (0 : Int)).length = g.length := by rw [List.length_append, List.length_replicate]; have := HNf.out; omega
    have CT := hidP (mod_together_add (ao := some ⟨G, 0, none⟩) (n := g.length) (cap := g.length) (a := 0) (gf := G) (F := fun a b => a + b) (w := w5) (fun _ => rfl) (fun _ => HR5.out) (by rw [hlen5, Nat.zero_add]; exact HNg.out) (by rw [hlen5]; rfl) (by rw [hlen5]; omega)
      (fun w1 h => (hm5.grown h (by have := HGl4.out; omega)).sees) (fun w1 k h hk => by
        rw [pad_getD]
        have x1 := res_nf hq0 f (0 + k)
        have x2 := res_nf hq0 g k
        exact op_add _ _ (by omega) (by omega) w1))
    have HE := hidP ((tog_add_E q (l := nf q f ++ List.replicate (g.length - (nf q f).length) 0) (g := nf q g) (by rw [hlen5]; exact HNg.out)).trans ((E.of_ev (g := padd (nf q f) (nf q g)) (fun x => by simp only [ev_padd, ev_psc, pad_ev])).trans (HEE.out)))
    have HTl := hidP (tog_len (fun a b => a + b) (nf q f ++ List.replicate (g.length - (nf q f).length) 0) (nf q g) 0 (nf q g).length)
    rw [hlen5] at HTl
    clear hg5 hm5 hb5 HR4 hlen5
    go_wp2_with fail
    refine CT.out.mono ?_
    rintro e w6 ⟨rfl, hr6, hgr6⟩
    have B6 := hidP (below_in B5.out hgr6 (by have := B1.out.size; rw [HGe.out]; exact this))
    have CS := hidP (S.out (.slice (some ⟨G, 0, none⟩) g.length g.length) G _ w6 ⟨_, g.length, by rw [HTl.out], by rw [HTl.out]; exact Nat.le_refl _, by rw [HTl.out]; omega, (fun e => by cases e), fun hp => ⟨rfl, hr6 (by rw [HTl.out] at hp; have := HR5.out; rw [List.length_append, List.length_replicate]; have := HNf.out; omega)⟩⟩)
    rw [nf_eq HE.out] at CS
    clear hr6 hgr6
    go_wp2_with fail
    refine CS.out.mono ?_
    rintro e w7 ⟨v7, rfl, hm7, hgr7⟩
    have HM7 := hidP hm7
    have B7 := hidP (below_in B6.out hgr7 (by have := B1.out.size; rw [HGe.out]; exact this))
    clear hm7 hgr7
    go_wp2
    go_ret
    exact ⟨_, G, rfl, by have := B1.out.size; rw [HGe.out]; exact this, HM7.out, B7.out⟩
  · have hmk := run_make_row' (P := Try.prog) 22 3 (.int .i64 0) 8 Try.underlying22 info_int rfl .i64 .i64 f.length (by omega) (by omega)
    have hNf : (nf q f).length ≤ f.length := by omega
    have hNg : (nf q g).length ≤ f.length := by omega
    have HNf := hidP hNf
    have HNg := hidP hNg
    clear hNf hNg
    go_enter Try.func66, Try.ntmps66
    go_wp2_with fail
    refine (IS.out _).mono ?_
    rintro e w1 ⟨rfl, hb1⟩
    have B1 := hidP hb1
    clear hb1
    go_wp2_with fail
    have HRow : Hid ((w1.alloc (.cells (madeCells #[.int .i64 0] f.length) 3)).heap[w1.heap.size]? = some (.cells (List.replicate f.length (Value.int .i64 0)).toArray 3 (0, 0))) := by
      show _ = _
      rw [Deep.blk_alloc_new]; congr 2; apply Array.ext'; rw [toList_madeCells_one]
    have HBa : Hid (Below w1.heap.size w1 (w1.alloc (.cells (madeCells #[.int .i64 0] f.length) 3))) := (Below.refl _ w1).alloc (Nat.le_refl _) _
    have HSz : Hid (w1.heap.size < (w1.alloc (.cells (madeCells #[.int .i64 0] f.length) 3)).heap.size) := by show _ < _; simp
    obtain ⟨G, hG⟩ : ∃ G, G = w1.heap.size := ⟨_, rfl⟩
    rw [← hG] at HRow HSz
    rw [← hG]
    obtain ⟨Y, hY⟩ : ∃ x, x = w1.alloc (.cells (madeCells #[.int .i64 0] f.length) 3) := ⟨_, rfl⟩
    rw [← hY] at HRow HBa HSz ⊢
    have HGe := hidP hG
    clear hmk hY hG
    refine (PF.out _ (step_below B1.out HBa.out)).mono ?_
    rintro e w3 ⟨v3, g3, rfl, hg3, hm3, hb3⟩
    obtain ⟨a3, c3, rfl, hc3⟩ := SeesF.form hm3.sees
    have B3 : Hid (Below w1.heap.size w1 w3) := step_below HBa.out hb3
    have HR3 : Hid (w3.heap[G]? = some (.cells (List.replicate f.length (Value.int .i64 0)).toArray 3 (0, 0))) := (hb3.block G HSz.out).trans HRow.out
    have HS3 : Hid (0 < ((nf q f).map vI).length → ∃ ad, a3 = some ad ∧ ∀ j v, ((nf q f).map vI)[j]? = some v → w3.cell? (ad.add j) = some v) := fun hp => by
      rw [List.length_map] at hp
      obtain ⟨b, o, ha, -⟩ := hm3.sees.at hp
      subst ha
      exact ⟨_, rfl, hm3.sees.news⟩
    clear hg3 hm3 hb3 HRow HBa
    go_wp2_with (with_reducible refine wpList_copy_splice rfl (.tmp 19) (.tmp 22) 22 22 rfl 3 Try.underlying22 hsz (some ⟨G, 0, none⟩) a3 f.length f.length (nf q f).length c3 rfl rfl G 0 (List.replicate f.length (Value.int .i64 0)) 3 HR3.out ((nf q f).map vI) ?hn1 (fun h => ⟨rfl, HS3.out h⟩) ?hfit1 (oneCell_ints _) w1.heap.size w1 B3.out (by rw [HGe.out]; exact Nat.le_refl _) ?_)
    case hn1 => rw [List.length_map]; exact (Nat.min_eq_left HNf.out).symm
    case hfit1 => rw [List.length_map, List.length_replicate, Nat.zero_add]; exact HNf.out
    intro w4 hg4 hb4
    have HR4 := hidP (row_splice hg4.out HNf.out)
    have B4 := hidP (step_below B1.out hb4)
    have HGl4 : Hid (G < w4.heap.size) := (Array.getElem?_eq_some_iff.1 hg4.out).1
    clear hg4 hb4 HS3 HR3 B3
    go_wp2_with fail
    refine (PG.out _ B4.out).mono ?_
    rintro e w5 ⟨v5, g5, rfl, hg5, hm5, hb5⟩
    obtain ⟨a5, c5, rfl, hc5⟩ := SeesF.form hm5.sees
    have B5 := hidP (step_below B4.out hb5)
    have HR5 := hidP (HR4.out.below hb5)
    have hlen5 : (nf q f ++ List.replicate (f.length - (nf q f).length) (0 : Int)).length = f.length := by rw [List.length_append, List.length_replicate]; have := HNf.out; omega
    have CT := hidP (mod_together_add (ao := some ⟨G, 0, none⟩) (n := f.length) (cap := f.length) (a := 0) (gf := G) (F := fun a b => a + b) (w := w5) (fun _ => rfl) (fun _ => HR5.out) (by rw [hlen5, Nat.zero_add]; exact HNg.out) (by rw [hlen5]; rfl) (by rw [hlen5]; omega)
      (fun w1 h => (hm5.grown h (by have := HGl4.out; omega)).sees) (fun w1 k h hk => by
        rw [pad_getD]
        have x1 := res_nf hq0 f (0 + k)
        have x2 := res_nf hq0 g k
        exact op_add _ _ (by omega) (by omega) w1))
    have HE := hidP ((tog_add_E q (l := nf q f ++ List.replicate (f.length - (nf q f).length) 0) (g := nf q g) (by rw [hlen5]; exact HNg.out)).trans ((E.of_ev (g := padd (nf q f) (nf q g)) (fun x => by simp only [ev_padd, ev_psc, pad_ev])).trans (HEE.out)))
    have HTl := hidP (tog_len (fun a b => a + b) (nf q f ++ List.replicate (f.length - (nf q f).length) 0) (nf q g) 0 (nf q g).length)
    rw [hlen5] at HTl
    clear hg5 hm5 hb5 HR4 hlen5
    go_wp2_with fail
    refine CT.out.mono ?_
    rintro e w6 ⟨rfl, hr6, hgr6⟩
    have B6 := hidP (below_in B5.out hgr6 (by have := B1.out.size; rw [HGe.out]; exact this))
    have CS := hidP (S.out (.slice (some ⟨G, 0, none⟩) f.length f.length) G _ w6 ⟨_, f.length, by rw [HTl.out], by rw [HTl.out]; exact Nat.le_refl _, by rw [HTl.out]; omega, (fun e => by cases e), fun hp => ⟨rfl, hr6 (by rw [HTl.out] at hp; have := HR5.out; rw [List.length_append, List.length_replicate]; have := HNf.out; omega)⟩⟩)
    rw [nf_eq HE.out] at CS
    clear hr6 hgr6
    go_wp2_with fail
    refine CS.out.mono ?_
    rintro e w7 ⟨v7, rfl, hm7, hgr7⟩
    have HM7 := hidP hm7
    have B7 := hidP (below_in B6.out hgr7 (by have := B1.out.size; rw [HGe.out]; exact this))
    clear hm7 hgr7
    go_wp2
    go_ret
    exact ⟨_, G, rfl, by have := B1.out.size; rw [HGe.out]; exact this, HM7.out, B7.out⟩

set_option maxRecDepth 100000 in
set_option maxHeartbeats 4000000 in
theorem mod_combine_sub {va vb : Value} {q : Nat} {f g : List Int} {w : World} (hf : SeesI w va f) (hg : SeesI w vb g) (hlf : f.length ≤ 65536) (hlg : g.length ≤ 65536) (hq : IsP q) :
    Calls Try.prog 66 #[va, vb, .int .i64 q, .func (.func 67) #[] #[]] w fun e w' => ∃ v' g', e = .returned v' ∧ w.heap.size ≤ g' ∧ Mine w' g' v' (nf q (padd f (psc (-1) g))) ∧ Below w.heap.size w w' := by
  obtain ⟨hq0, hq2⟩ := isP_bounds hq
  have IS := hidP (fun w => is_prime hq w)
  have hsz : (Try.prog.info? 3).map (·.size) = some 1 := by kernel_rfl
  have S : Hid (∀ v g' l w, Mine w g' v l → Calls Try.prog 87 #[v, .int .i64 q] w fun e w' => ∃ v', e = .returned v' ∧ Mine w' g' v' (nf q l) ∧ w.grownBy w' (some g')) := fun v g' l w h => mod_settle h hq0 hq2
  have PF : Hid (∀ w1, Below w.heap.size w w1 → Calls Try.prog 57 #[va, .int .i64 q] w1 fun e w' => ∃ v' g, e = .returned v' ∧ w1.heap.size ≤ g ∧ Mine w' g v' (nf q f) ∧ Below w1.heap.size w1 w') := fun w1 h => mod_plain (SeesI.below hf h) (by omega) hq0 hq2
  have PG : Hid (∀ w1, Below w.heap.size w w1 → Calls Try.prog 57 #[vb, .int .i64 q] w1 fun e w' => ∃ v' g', e = .returned v' ∧ w1.heap.size ≤ g' ∧ Mine w' g' v' (nf q g) ∧ Below w1.heap.size w1 w') := fun w1 h => mod_plain (SeesI.below hg h) (by omega) hq0 hq2
  have HEE : Hid (E q (padd (nf q f) (psc (-1) (nf q g))) (padd f (psc (-1) g))) := (nf_E q f).add ((nf_E q g).sc (-1))
  have lf := nf_len q f
  have lg := nf_len q g
  obtain ⟨A, ca, rfl, hcap⟩ := SeesF.form hf
  obtain ⟨B, cb, rfl, hcap2⟩ := SeesF.form hg
  clear hf hg hq
  by_cases h : (f.length : Int) < (g.length : Int)
  · have hmk := run_make_row' (P := Try.prog) 22 3 (.int .i64 0) 8 Try.underlying22 info_int rfl .i64 .i64 g.length (by omega) (by omega)
    have hNf : (nf q f).length ≤ g.length := by omega
    have hNg : (nf q g).length ≤ g.length := by omega
    have HNf := hidP hNf
    have HNg := hidP hNg
    clear hNf hNg
    go_enter Try.func66, Try.ntmps66
    go_wp2_with fail
    refine (IS.out _).mono ?_
    rintro e w1 ⟨rfl, hb1⟩
    have B1 := hidP hb1
    clear hb1
    go_wp2_with fail
    have HRow : Hid ((w1.alloc (.cells (madeCells #[.int .i64 0] g.length) 3)).heap[w1.heap.size]? = some (.cells (List.replicate g.length (Value.int .i64 0)).toArray 3 (0, 0))) := by
      show _ = _
      rw [Deep.blk_alloc_new]; congr 2; apply Array.ext'; rw [toList_madeCells_one]
    have HBa : Hid (Below w1.heap.size w1 (w1.alloc (.cells (madeCells #[.int .i64 0] g.length) 3))) := (Below.refl _ w1).alloc (Nat.le_refl _) _
    have HSz : Hid (w1.heap.size < (w1.alloc (.cells (madeCells #[.int .i64 0] g.length) 3)).heap.size) := by show _ < _; simp
    obtain ⟨G, hG⟩ : ∃ G, G = w1.heap.size := ⟨_, rfl⟩
    rw [← hG] at HRow HSz
    rw [← hG]
    obtain ⟨Y, hY⟩ : ∃ x, x = w1.alloc (.cells (madeCells #[.int .i64 0] g.length) 3) := ⟨_, rfl⟩
    rw [← hY] at HRow HBa HSz ⊢
    have HGe := hidP hG
    clear hmk hY hG
    refine (PF.out _ (step_below B1.out HBa.out)).mono ?_
    rintro e w3 ⟨v3, g3, rfl, hg3, hm3, hb3⟩
    obtain ⟨a3, c3, rfl, hc3⟩ := SeesF.form hm3.sees
    have B3 : Hid (Below w1.heap.size w1 w3) := step_below HBa.out hb3
    have HR3 : Hid (w3.heap[G]? = some (.cells (List.replicate g.length (Value.int .i64 0)).toArray 3 (0, 0))) := (hb3.block G HSz.out).trans HRow.out
    have HS3 : Hid (0 < ((nf q f).map vI).length → ∃ ad, a3 = some ad ∧ ∀ j v, ((nf q f).map vI)[j]? = some v → w3.cell? (ad.add j) = some v) := fun hp => by
      rw [List.length_map] at hp
      obtain ⟨b, o, ha, -⟩ := hm3.sees.at hp
      subst ha
      exact ⟨_, rfl, hm3.sees.news⟩
    clear hg3 hm3 hb3 HRow HBa
    go_wp2_with (with_reducible refine wpList_copy_splice rfl (.tmp 19) (.tmp 22) 22 22 rfl 3 Try.underlying22 hsz (some ⟨G, 0, none⟩) a3 g.length g.length (nf q f).length c3 rfl rfl G 0 (List.replicate g.length (Value.int .i64 0)) 3 HR3.out ((nf q f).map vI) ?hn1 (fun h => ⟨rfl, HS3.out h⟩) ?hfit1 (oneCell_ints _) w1.heap.size w1 B3.out (by rw [HGe.out]; exact Nat.le_refl _) ?_)
    case hn1 => rw [List.length_map]; exact (Nat.min_eq_left HNf.out).symm
    case hfit1 => rw [List.length_map, List.length_replicate, Nat.zero_add]; exact HNf.out
    intro w4 hg4 hb4
    have HR4 := hidP (row_splice hg4.out HNf.out)
    have B4 := hidP (step_below B1.out hb4)
    have HGl4 : Hid (G < w4.heap.size) := (Array.getElem?_eq_some_iff.1 hg4.out).1
    clear hg4 hb4 HS3 HR3 B3
    go_wp2_with fail
    refine (PG.out _ B4.out).mono ?_
    rintro e w5 ⟨v5, g5, rfl, hg5, hm5, hb5⟩
    obtain ⟨a5, c5, rfl, hc5⟩ := SeesF.form hm5.sees
    have B5 := hidP (step_below B4.out hb5)
    have HR5 := hidP (HR4.out.below hb5)
    have hlen5 : (nf q f ++ List.replicate (g.length - (nf q f).length) (0 : Int)).length = g.length := by rw [List.length_append, List.length_replicate]; have := HNf.out; omega
    have CT := hidP (mod_together_sub (ao := some ⟨G, 0, none⟩) (n := g.length) (cap := g.length) (a := 0) (gf := G) (F := fun a b => a - b) (w := w5) (fun _ => rfl) (fun _ => HR5.out) (by rw [hlen5, Nat.zero_add]; exact HNg.out) (by rw [hlen5]; rfl) (by rw [hlen5]; omega)
      (fun w1 h => (hm5.grown h (by have := HGl4.out; omega)).sees) (fun w1 k h hk => by
        rw [pad_getD]
        have x1 := res_nf hq0 f (0 + k)
        have x2 := res_nf hq0 g k
        exact op_sub _ _ (by omega) (by omega) w1))
    have HE := hidP ((tog_sub_E q (l := nf q f ++ List.replicate (g.length - (nf q f).length) 0) (g := nf q g) (by rw [hlen5]; exact HNg.out)).trans ((E.of_ev (g := padd (nf q f) (psc (-1) (nf q g))) (fun x => by simp only [ev_padd, ev_psc, pad_ev])).trans (HEE.out)))
    have HTl := hidP (tog_len (fun a b => a - b) (nf q f ++ List.replicate (g.length - (nf q f).length) 0) (nf q g) 0 (nf q g).length)
    rw [hlen5] at HTl
    clear hg5 hm5 hb5 HR4 hlen5
    go_wp2_with fail
    refine CT.out.mono ?_
    rintro e w6 ⟨rfl, hr6, hgr6⟩
    have B6 := hidP (below_in B5.out hgr6 (by have := B1.out.size; rw [HGe.out]; exact this))
    have CS := hidP (S.out (.slice (some ⟨G, 0, none⟩) g.length g.length) G _ w6 ⟨_, g.length, by rw [HTl.out], by rw [HTl.out]; exact Nat.le_refl _, by rw [HTl.out]; omega, (fun e => by cases e), fun hp => ⟨rfl, hr6 (by rw [HTl.out] at hp; have := HR5.out; rw [List.length_append, List.length_replicate]; have := HNf.out; omega)⟩⟩)
    rw [nf_eq HE.out] at CS
    clear hr6 hgr6
    go_wp2_with fail
    refine CS.out.mono ?_
    rintro e w7 ⟨v7, rfl, hm7, hgr7⟩
    have HM7 := hidP hm7
    have B7 := hidP (below_in B6.out hgr7 (by have := B1.out.size; rw [HGe.out]; exact this))
    clear hm7 hgr7
    go_wp2
    go_ret
    exact ⟨_, G, rfl, by have := B1.out.size; rw [HGe.out]; exact this, HM7.out, B7.out⟩
  · have hmk := run_make_row' (P := Try.prog) 22 3 (.int .i64 0) 8 Try.underlying22 info_int rfl .i64 .i64 f.length (by omega) (by omega)
    have hNf : (nf q f).length ≤ f.length := by omega
    have hNg : (nf q g).length ≤ f.length := by omega
    have HNf := hidP hNf
    have HNg := hidP hNg
    clear hNf hNg
    go_enter Try.func66, Try.ntmps66
    go_wp2_with fail
    refine (IS.out _).mono ?_
    rintro e w1 ⟨rfl, hb1⟩
    have B1 := hidP hb1
    clear hb1
    go_wp2_with fail
    have HRow : Hid ((w1.alloc (.cells (madeCells #[.int .i64 0] f.length) 3)).heap[w1.heap.size]? = some (.cells (List.replicate f.length (Value.int .i64 0)).toArray 3 (0, 0))) := by
      show _ = _
      rw [Deep.blk_alloc_new]; congr 2; apply Array.ext'; rw [toList_madeCells_one]
    have HBa : Hid (Below w1.heap.size w1 (w1.alloc (.cells (madeCells #[.int .i64 0] f.length) 3))) := (Below.refl _ w1).alloc (Nat.le_refl _) _
    have HSz : Hid (w1.heap.size < (w1.alloc (.cells (madeCells #[.int .i64 0] f.length) 3)).heap.size) := by show _ < _; simp
    obtain ⟨G, hG⟩ : ∃ G, G = w1.heap.size := ⟨_, rfl⟩
    rw [← hG] at HRow HSz
    rw [← hG]
    obtain ⟨Y, hY⟩ : ∃ x, x = w1.alloc (.cells (madeCells #[.int .i64 0] f.length) 3) := ⟨_, rfl⟩
    rw [← hY] at HRow HBa HSz ⊢
    have HGe := hidP hG
    clear hmk hY hG
    refine (PF.out _ (step_below B1.out HBa.out)).mono ?_
    rintro e w3 ⟨v3, g3, rfl, hg3, hm3, hb3⟩
    obtain ⟨a3, c3, rfl, hc3⟩ := SeesF.form hm3.sees
    have B3 : Hid (Below w1.heap.size w1 w3) := step_below HBa.out hb3
    have HR3 : Hid (w3.heap[G]? = some (.cells (List.replicate f.length (Value.int .i64 0)).toArray 3 (0, 0))) := (hb3.block G HSz.out).trans HRow.out
    have HS3 : Hid (0 < ((nf q f).map vI).length → ∃ ad, a3 = some ad ∧ ∀ j v, ((nf q f).map vI)[j]? = some v → w3.cell? (ad.add j) = some v) := fun hp => by
      rw [List.length_map] at hp
      obtain ⟨b, o, ha, -⟩ := hm3.sees.at hp
      subst ha
      exact ⟨_, rfl, hm3.sees.news⟩
    clear hg3 hm3 hb3 HRow HBa
    go_wp2_with (with_reducible refine wpList_copy_splice rfl (.tmp 19) (.tmp 22) 22 22 rfl 3 Try.underlying22 hsz (some ⟨G, 0, none⟩) a3 f.length f.length (nf q f).length c3 rfl rfl G 0 (List.replicate f.length (Value.int .i64 0)) 3 HR3.out ((nf q f).map vI) ?hn1 (fun h => ⟨rfl, HS3.out h⟩) ?hfit1 (oneCell_ints _) w1.heap.size w1 B3.out (by rw [HGe.out]; exact Nat.le_refl _) ?_)
    case hn1 => rw [List.length_map]; exact (Nat.min_eq_left HNf.out).symm
    case hfit1 => rw [List.length_map, List.length_replicate, Nat.zero_add]; exact HNf.out
    intro w4 hg4 hb4
    have HR4 := hidP (row_splice hg4.out HNf.out)
    have B4 := hidP (step_below B1.out hb4)
    have HGl4 : Hid (G < w4.heap.size) := (Array.getElem?_eq_some_iff.1 hg4.out).1
    clear hg4 hb4 HS3 HR3 B3
    go_wp2_with fail
    refine (PG.out _ B4.out).mono ?_
    rintro e w5 ⟨v5, g5, rfl, hg5, hm5, hb5⟩
    obtain ⟨a5, c5, rfl, hc5⟩ := SeesF.form hm5.sees
    have B5 := hidP (step_below B4.out hb5)
    have HR5 := hidP (HR4.out.below hb5)
    have hlen5 : (nf q f ++ List.replicate (f.length - (nf q f).length) (0 : Int)).length = f.length := by rw [List.length_append, List.length_replicate]; have := HNf.out; omega
    have CT := hidP (mod_together_sub (ao := some ⟨G, 0, none⟩) (n := f.length) (cap := f.length) (a := 0) (gf := G) (F := fun a b => a - b) (w := w5) (fun _ => rfl) (fun _ => HR5.out) (by rw [hlen5, Nat.zero_add]; exact HNg.out) (by rw [hlen5]; rfl) (by rw [hlen5]; omega)
      (fun w1 h => (hm5.grown h (by have := HGl4.out; omega)).sees) (fun w1 k h hk => by
        rw [pad_getD]
        have x1 := res_nf hq0 f (0 + k)
        have x2 := res_nf hq0 g k
        exact op_sub _ _ (by omega) (by omega) w1))
    have HE := hidP ((tog_sub_E q (l := nf q f ++ List.replicate (f.length - (nf q f).length) 0) (g := nf q g) (by rw [hlen5]; exact HNg.out)).trans ((E.of_ev (g := padd (nf q f) (psc (-1) (nf q g))) (fun x => by simp only [ev_padd, ev_psc, pad_ev])).trans (HEE.out)))
    have HTl := hidP (tog_len (fun a b => a - b) (nf q f ++ List.replicate (f.length - (nf q f).length) 0) (nf q g) 0 (nf q g).length)
    rw [hlen5] at HTl
    clear hg5 hm5 hb5 HR4 hlen5
    go_wp2_with fail
    refine CT.out.mono ?_
    rintro e w6 ⟨rfl, hr6, hgr6⟩
    have B6 := hidP (below_in B5.out hgr6 (by have := B1.out.size; rw [HGe.out]; exact this))
    have CS := hidP (S.out (.slice (some ⟨G, 0, none⟩) f.length f.length) G _ w6 ⟨_, f.length, by rw [HTl.out], by rw [HTl.out]; exact Nat.le_refl _, by rw [HTl.out]; omega, (fun e => by cases e), fun hp => ⟨rfl, hr6 (by rw [HTl.out] at hp; have := HR5.out; rw [List.length_append, List.length_replicate]; have := HNf.out; omega)⟩⟩)
    rw [nf_eq HE.out] at CS
    clear hr6 hgr6
    go_wp2_with fail
    refine CS.out.mono ?_
    rintro e w7 ⟨v7, rfl, hm7, hgr7⟩
    have HM7 := hidP hm7
    have B7 := hidP (below_in B6.out hgr7 (by have := B1.out.size; rw [HGe.out]; exact this))
    clear hm7 hgr7
    go_wp2
    go_ret
    exact ⟨_, G, rfl, by have := B1.out.size; rw [HGe.out]; exact this, HM7.out, B7.out⟩

set_option maxRecDepth 100000 in
theorem mod_add {va vb : Value} {q : Nat} {f g : List Int} {w : World} (hf : SeesI w va f) (hg : SeesI w vb g) (hlf : f.length ≤ 65536) (hlg : g.length ≤ 65536) (hq : IsP q) :
    Calls Try.prog 68 #[va, vb, .int .i64 q] w fun e w' => ∃ v' g', e = .returned v' ∧ w.heap.size ≤ g' ∧ Mine w' g' v' (nf q (padd f g)) ∧ Below w.heap.size w w' := by
  have C := hidP (mod_combine_add hf hg hlf hlg hq)
  clear hf hg hlf hlg hq
  go_enter Try.func68, Try.ntmps68
  go_wp2_with fail
  refine C.out.mono ?_
  rintro e w1 ⟨v1, g1, rfl, hg1, hm, hb⟩
  have HG := hidP hg1
  have HM := hidP hm
  have HB := hidP hb
  clear hg1 hm hb
  go_wp2
  go_ret
  exact ⟨_, g1, rfl, HG.out, HM.out, HB.out⟩

set_option maxRecDepth 100000 in
theorem mod_sub {va vb : Value} {q : Nat} {f g : List Int} {w : World} (hf : SeesI w va f) (hg : SeesI w vb g) (hlf : f.length ≤ 65536) (hlg : g.length ≤ 65536) (hq : IsP q) :
    Calls Try.prog 35 #[va, vb, .int .i64 q] w fun e w' => ∃ v' g', e = .returned v' ∧ w.heap.size ≤ g' ∧ Mine w' g' v' (nf q (padd f (psc (-1) g))) ∧ Below w.heap.size w w' := by
  have C := hidP (mod_combine_sub hf hg hlf hlg hq)
  clear hf hg hlf hlg hq
  go_enter Try.func35, Try.ntmps35
  go_wp2_with fail
  refine C.out.mono ?_
  rintro e w1 ⟨v1, g1, rfl, hg1, hm, hb⟩
  have HG := hidP hg1
  have HM := hidP hm
  have HB := hidP hb
  clear hg1 hm hb
  go_wp2
  go_ret
  exact ⟨_, g1, rfl, HG.out, HM.out, HB.out⟩
end Go.Proofs.Ytokdcgmjpnanoaa
