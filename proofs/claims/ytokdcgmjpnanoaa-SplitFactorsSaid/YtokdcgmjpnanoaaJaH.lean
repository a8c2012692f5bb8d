/- modular.divide by its contract. -/
import Derived.Test.YtokdcgmjpnanoaaJaG
import Derived.Deep.RegionHeld3

set_option linter.unusedVariables false
set_option linter.unusedSimpArgs false
namespace Go.Proofs.Ytokdcgmjpnanoaa
open Go.RowKit

theorem grownBy_new {a b : World} {r : Option Nat} (h : a.grownBy b r) {g : Nat} (hg : a.heap.size ≤ g) (i : Nat) (v : Value) : a.grownBy (b.setCell ⟨g, i, none⟩ v) r :=
  ⟨h.os, h.tape, h.output, by rw [Deep.nblk_setCell]; exact h.size, fun k hk hr => (Deep.blk_setCell_other b ⟨g, i, none⟩ v k (by show k ≠ g; omega)).trans (h.block k hk hr)⟩
theorem set_ev (x c : Int) : ∀ (l : List Int) (m : Nat), m < l.length → l.getD m 0 = 0 → ev (l.set m c) x = ev l x + x ^ m * c
  | [], m, h, _ => by simp at h
  | a :: l, 0, _, h0 => by
    rw [getD_cons_zero'] at h0
    subst h0
    simp only [List.set_cons_zero, ev]; grind
  | a :: l, m + 1, h, h0 => by
    rw [getD_cons_succ'] at h0
    have := set_ev x c l m (by simpa using h) h0
    simp only [List.set_cons_succ, ev, this, Int.pow_succ]; grind
/-- One step of a division by a monic g. -/
theorem div_step {q : Nat} {f g l l' Q : List Int} {m : Nat} {c d : Int} (hm : m < Q.length) (h0 : Q.getD m 0 = 0) (h : E q f (padd l (pmul Q g))) (hd : (d + c) % (q : Int) = 0) (h' : E q l' (padd l (pup m (psc d g)))) : E q f (padd l' (pmul (Q.set m c) g)) := by
  obtain ⟨a, ha⟩ := h
  obtain ⟨b, hb⟩ := h'
  obtain ⟨r, hr⟩ : ∃ r, d + c = q * r := Int.dvd_of_emod_eq_zero hd
  refine ⟨padd (padd a (psc (-1) b)) (pup m (psc (-r) g)), fun x => ?_⟩
  have h1 := ha x; have h2 := hb x
  simp only [ev_padd, ev_pmul, ev_pup, ev_psc, set_ev x c Q m hm h0] at h1 h2 ⊢
  grind
/-- The coefficients of l from n on are multiples. -/
theorem div_zero {q : Nat} {g l l' : List Int} {m : Nat} {c d : Int} (hg0 : g ≠ []) (hg1 : g.getD (g.length - 1) 0 = 1) (hz : ∀ i, m + 1 + g.length - 1 ≤ i → l.getD i 0 % (q : Int) = 0) (hc : l.getD (m + g.length - 1) 0 % (q : Int) = c % (q : Int)) (hd : (d + c) % (q : Int) = 0) (h' : E q l' (padd l (pup m (psc d g)))) :
    ∀ i, m + g.length - 1 ≤ i → l'.getD i 0 % (q : Int) = 0 := by
  intro i hi
  have hl : 0 < g.length := List.length_pos_iff.2 hg0
  rw [E_cf h' i, getD_padd, getD_pup, getD_psc, if_neg (by omega)]
  by_cases e : i = m + g.length - 1
  · subst e
    rw [show m + g.length - 1 - m = g.length - 1 by omega, hg1, Int.mul_one, Int.add_emod, hc, ← Int.add_emod, Int.add_comm]; exact hd
  · rw [getD_over' g _ (by omega), Int.mul_zero, Int.add_zero]; exact hz i (by omega)
theorem short_nf {q : Nat} {l : List Int} {n : Nat} (h : ∀ i, n ≤ i → l.getD i 0 % (q : Int) = 0) : (nf q l).length ≤ n := by
  rcases Nat.lt_or_ge n (nf q l).length with h1 | h1
  · exfalso
    have hne : nf q l ≠ [] := by intro e; rw [e] at h1; simp at h1
    have h2 : (nf q l).getD ((nf q l).length - 1) 0 ≠ 0 := trim_last _ hne
    rw [getD_nf, h _ (by omega)] at h2
    exact h2 rfl
  · exact h1
theorem res_set {q : Nat} {l : List Int} (h : Res q l) (m : Nat) {c : Int} (h0 : 0 ≤ c) (h1 : c < q) : Res q (l.set m c) := by
  intro i
  rw [getD_set']
  split
  · exact ⟨h0, h1⟩
  · exact h i

/-- What divide answers. -/
structure Divided (q : Nat) (f g Q R : List Int) : Prop where
  eq : E q f (padd (pmul Q g) R)
  rq : Res q Q
  pr : Plain q R
  lt : R.length < g.length
  lq : Q.length ≤ f.length
/-- The loop's list and quotient, n places left. -/
structure Under (q : Nat) (f g : List Int) (N n : Nat) (l Q : List Int) : Prop where
  ll : l.length = f.length
  lq : Q.length = N
  low : Low q l
  rq : Res q Q
  eq : E q f (padd l (pmul Q g))
  q0 : ∀ i, i < n → Q.getD i 0 = 0
  l0 : ∀ i, n + g.length - 1 ≤ i → l.getD i 0 % (q : Int) = 0
theorem Under.start {q : Nat} {f g : List Int} {N : Nat} (hq : 0 < q) (hN : N + g.length = f.length + 1) (hf : Res q f) (hg : g ≠ []) : Under q f g N N f (List.replicate N 0) := by
  have hz : ∀ i, (List.replicate N (0 : Int)).getD i 0 = 0 := fun i => by rw [List.getD_eq_getElem?_getD, List.getElem?_replicate]; split <;> rfl
  refine ⟨rfl, List.length_replicate, fun i => ?_, fun i => by rw [hz]; omega, .of_ev fun x => ?_, fun i _ => hz i, fun i hi => ?_⟩
  · have := hf i
    refine ⟨this.1, ?_⟩
    have h1 : (q : Int) * 1 ≤ (q : Int) * q := Int.mul_le_mul_of_nonneg_left (by omega) (by omega)
    omega
  · rw [ev_padd, ev_pmul, ev_zeros]; simp
  · have hl : 0 < g.length := List.length_pos_iff.2 hg
    rw [getD_over' f i (by omega)]; rfl
theorem Under.step {q : Nat} {f g l l' Q : List Int} {N m : Nat} {c d : Int} (h : Under q f g N (m + 1) l Q) (hm : m < N) (hg0 : g ≠ []) (hg1 : g.getD (g.length - 1) 0 = 1) (hc : l.getD (m + g.length - 1) 0 % (q : Int) = c) (hc0 : 0 ≤ c) (hc1 : c < q) (hd : (d + c) % (q : Int) = 0)
    (k2 : l'.length = l.length) (k3 : Low q l') (k4 : E q l' (padd l (pup m (psc d g)))) : Under q f g N m l' (Q.set m c) := by
  refine ⟨k2.trans h.ll, by rw [List.length_set]; exact h.lq, k3, res_set h.rq m hc0 hc1, div_step (by rw [h.lq]; exact hm) (h.q0 m (by omega)) h.eq hd k4, fun i hi => ?_, div_zero hg0 hg1 h.l0 (by rw [hc, Int.emod_eq_of_lt hc0 hc1]) hd k4⟩
  rw [getD_set', if_neg (by omega)]; exact h.q0 i (by omega)
theorem Under.done {q : Nat} {f g l Q : List Int} {N : Nat} (h : Under q f g N 0 l Q) (hq : 0 < q) (hN : N + g.length = f.length + 1) (hg : g ≠ []) : Divided q f g Q (nf q l) := by
  have hl : 0 < g.length := List.length_pos_iff.2 hg
  have h1 := short_nf (q := q) (l := l) (n := g.length - 1) (fun i hi => h.l0 i (by omega))
  refine ⟨?_, h.rq, nf_plain hq l, by omega, by have := h.lq; omega⟩
  refine h.eq.trans (((nf_E q l).symm.add (E.refl q _)).trans (.of_ev fun x => ?_))
  rw [ev_padd, ev_padd, Int.add_comm]

set_option maxRecDepth 100000 in
set_option maxHeartbeats 4000000 in
theorem mod_divide {vf vb : Value} {gf q : Nat} {f g : List Int} {w : World} (hM : Mine w gf vf f) (hg : ∀ w1, w.grownBy w1 (some gf) → SeesI w1 vb g) (hf : Res q f) (hgm : Mon q g) (hg0 : g ≠ []) (hq : IsP q) (hlf : f.length ≤ 65536) (hlg : g.length ≤ 65536) :
    Calls Try.prog 62 #[vf, vb, .int .i64 q] w fun e w' => ∃ vq vr gq Q R, e = .returned (.tuple #[vq, vr]) ∧ w.heap.size ≤ gq ∧ Mine w' gq vq Q ∧ Mine w' gf vr R ∧ w.grownBy w' (some gf) ∧ Divided q f g Q R := by
  obtain ⟨hq0, hq2⟩ := isP_bounds hq
  have hgl : 0 < g.length := List.length_pos_iff.2 hg0
  have S : Hid (∀ v l w, Mine w gf v l → Calls Try.prog 87 #[v, .int .i64 q] w fun e w' => ∃ v', e = .returned v' ∧ Mine w' gf v' (nf q l) ∧ w.grownBy w' (some gf)) := fun v l w h => mod_settle h hq0 hq2
  have HG := hidP hg
  obtain ⟨B, cb, rfl, hcb⟩ := SeesF.form (hg w (grownBy_refl _ _))
  by_cases hlt : f.length < g.length
  · have HDv : Hid (Divided q f g [] (nf q f)) := ⟨(nf_E q f).symm.trans (.of_ev fun x => by rw [ev_padd, ev_pmul, ev_nil]; simp), fun i => by simp; omega, nf_plain hq0 f, by have := nf_len q f; omega, by simp⟩
    have hmk := run_make_row' (P := Try.prog) 22 3 (.int .i64 0) 8 Try.underlying22 info_int rfl .i64 .i64 0 (by omega) (by omega)
    simp only [Int.natCast_zero] at hmk
    have HMq := hidP (Mine.made w 0 (by omega))
    have HB : Hid (Below w.heap.size w (w.alloc (.cells (madeCells #[.int .i64 0] 0) 3))) := (Below.refl _ w).alloc (Nat.le_refl _) _
    have HMf := hidP (hM.below HB.out)
    obtain ⟨Y, hY⟩ : ∃ Y, Y = w.alloc (.cells (madeCells #[.int .i64 0] 0) 3) := ⟨_, rfl⟩
    rw [← hY] at HMq HB HMf
    have HY := hidP hY
    have CS := hidP (S.out _ _ _ HMf.out)
    have HGf : Hid (gf ≠ w.heap.size ∨ f = []) := by
      show _ ∨ _
      rcases Nat.eq_zero_or_pos f.length with h | h
      · right; exact List.eq_nil_of_length_eq_zero h
      · left
        obtain ⟨_, _, _, _, _, _, h5⟩ := hM
        have := (h5 h).2.lt; omega
    have HMq2 : Hid (∀ w2, Y.grownBy w2 (some gf) → Mine w2 w.heap.size (.slice (some ⟨w.heap.size, 0, none⟩) 0 0) []) := fun w2 _ => ⟨_, 0, rfl, Nat.le_refl _, by simp, (fun e => by cases e), fun h => absurd h (by simp)⟩
    obtain ⟨ao, cap, rfl, hcap, hlen, hno, hrow⟩ := hM
    obtain ⟨z, hz, hz0⟩ : ∃ z : Int, (f.length : Int) - (g.length : Int) + 1 = z ∧ z ≤ 0 := ⟨_, rfl, by omega⟩
    obtain ⟨d, hd⟩ : ∃ d : Int, (f.length : Int) - (g.length : Int) = d := ⟨_, rfl⟩
    rw [hd] at hz
    have hw1 : IntKind.i64.wrap d = d := by rw [IntKind.wrap_i64]; omega
    have hw2 : IntKind.i64.wrap z = z := by rw [IntKind.wrap_i64]; omega
    have h01 : z < 0 ∨ z = 0 := by omega
    clear hg hno hrow hY HMq
    rcases h01 with h01 | h01
    all_goals
      try subst z
      go_enter Try.func62, Try.ntmps62
      go_wp2_with fail
      refine wp_loop_rounds 1 ?_
      rw [rounds_succ]
      go_wp2_with fail
      rw [← HY.out]
      refine CS.out.mono ?_
      rintro e w2 ⟨v2, rfl, hm2, hgr2⟩
      have HM2 := hidP hm2
      have HQ2 := hidP (HMq2.out w2 hgr2)
      have HB2 := hidP (grownBy_trans (below_grownBy HB.out (some gf)) hgr2)
      clear hm2 hgr2
      go_wp2
      go_ret2
      exact ⟨_, _, _, _, _, rfl, Nat.le_refl _, HQ2.out, HM2.out, HB2.out, HDv.out⟩
  · obtain ⟨N, hN⟩ : ∃ N : Nat, N + g.length = f.length + 1 := ⟨f.length + 1 - g.length, by omega⟩
    have hN1 : 0 < N := by omega
    have hmk := run_make_row' (P := Try.prog) 22 3 (.int .i64 0) 8 Try.underlying22 info_int rfl .i64 .i64 N (by omega) (by omega)
    have HB : Hid (Below w.heap.size w (w.alloc (.cells (madeCells #[.int .i64 0] N) 3))) := (Below.refl _ w).alloc (Nat.le_refl _) _
    obtain ⟨ao, cap, rfl, hcap, hlen, hno, hrow⟩ := hM
    obtain ⟨rfl, hrf⟩ := hrow (by omega)
    have HRf := hidP (hrf.below HB.out)
    have HRq := hidP (RowW.made w N)
    have hgfs := hrf.lt
    obtain ⟨GQ, hGQ⟩ : ∃ G, G = w.heap.size := ⟨_, rfl⟩
    have HGQ := hidP hGQ
    have hne : gf ≠ GQ := by omega
    have HU := hidP (Under.start hq0 hN hf hg0)
    have HGm1 : Hid (g.getD (g.length - 1) 0 = 1) := hgm.2 hg0
    have HRes : Hid (Res q g) := hgm.1.1
    have HR2 : Hid (∀ (z : Int) w, Calls Try.prog 88 #[.int .i64 z, .int .i64 q] w fun e w' => e = .returned (.int .i64 (z % (q : Int))) ∧ w = w') := fun z w => mod_residue z q (by omega) (by omega) w
    obtain ⟨d, hd⟩ : ∃ d : Int, (f.length : Int) - (g.length : Int) = d := ⟨_, rfl⟩
    have hd1 : d + 1 = (N : Int) := by omega
    have hw1 : IntKind.i64.wrap d = d := by rw [IntKind.wrap_i64]; omega
    have hw2 : IntKind.i64.wrap (N : Int) = (N : Int) := by rw [IntKind.wrap_i64]; omega
    have hw3 : IntKind.i64.wrap ((N : Int) - 1) = (N : Int) - 1 := by rw [IntKind.wrap_i64]; omega
    have hwd : RowKit.wrap64 (d + 1) = (N : Int) := by unfold RowKit.wrap64; omega
    have HNN := hidP hN
    clear hg hno hrow hrf hf hgm hGQ hq
    go_enter Try.func62, Try.ntmps62
    go_wp2
    rw [← HGQ.out]
    obtain ⟨Y, hY⟩ : ∃ Y, Y = w.alloc (.cells (madeCells #[.int .i64 0] N) 3) := ⟨_, rfl⟩
    rw [← hY] at HB HRf HRq ⊢
    rw [← HGQ.out] at HRq
    clear hmk hY hd hd1 hw1 hwd
    go_loopg [8] N (fun gm v8 wr => ∃ n : Nat, n = gm ∧ n ≤ N ∧ v8 = .int .i64 ((n : Int) - 1) ∧ Hid (∃ l Q, Under q f g N n l Q ∧ RowW wr gf l ∧ RowW wr GQ Q) ∧ Hid (w.grownBy wr (some gf)))
    case atStart => exact ⟨N, rfl, Nat.le_refl _, by go_num, ⟨_, _, HU.out, HRf.out, HRq.out⟩, below_grownBy HB.out _⟩
    case round =>
      clear HU HRf HRq HB
      obtain ⟨n, rfl, hn, rfl, hst, hgr⟩ := hrel
      obtain ⟨l, Q, hu, hrl, hrq⟩ := hst.out
      clear hst
      rcases Nat.eq_zero_or_pos n with h0 | h0
      · subst h0
        have HMq : Hid (Mine wr GQ (.slice (some ⟨GQ, 0, none⟩) N N) Q) := ⟨_, N, by rw [hu.lq], by rw [hu.lq]; exact Nat.le_refl _, by rw [hu.lq]; omega, (fun e => by cases e), fun _ => ⟨rfl, hrq⟩⟩
        have HDv := hidP (hu.done hq0 HNN.out hg0)
        have CS := hidP (S.out (.slice (some ⟨gf, 0, none⟩) f.length cap) l wr ⟨_, cap, by rw [hu.ll], by rw [hu.ll]; exact hcap, by rw [hu.ll]; exact hlen, (fun e => by cases e), fun _ => ⟨rfl, hrl⟩⟩)
        clear hu hrl hrq
        go_wp2_with fail
        refine CS.out.mono ?_
        rintro e w2 ⟨v2, rfl, hm2, hgr2⟩
        have HM2 := hidP hm2
        have HQ2 := hidP (HMq.out.grown hgr2 (fun h => hne h.symm))
        have HB2 := hidP (grownBy_trans hgr.out hgr2)
        clear hm2 hgr2
        go_wp2
        go_ret2
        exact ⟨_, _, _, _, _, rfl, by rw [HGQ.out]; exact Nat.le_refl _, HQ2.out, HM2.out, HB2.out, HDv.out⟩
      · obtain ⟨m, rfl⟩ : ∃ m, n = m + 1 := ⟨n - 1, by omega⟩
        have e1 : ((m + 1 : Nat) : Int) - 1 = (m : Int) := by omega
        rw [e1]
        obtain ⟨P, hP⟩ : ∃ P, P = m + g.length - 1 := ⟨_, rfl⟩
        have hPl : P < f.length := by omega
        have hc1 := hrl.cell (i := P) (by rw [hu.ll]; exact hPl)
        have hfq := hrq.frozen m
        have hcq1 := hrq.cell (i := m) (by rw [hu.lq]; omega)
        obtain ⟨y0, hy0⟩ : ∃ y0, Q.getD m 0 = y0 := ⟨_, rfl⟩
        rw [hy0] at hcq1
        clear hy0
        have hlow := hu.low P
        have hmod : l.getD P 0 % (q : Int) = l.getD P 0 % (q : Int) := rfl
        have hst : ∀ c d : Int, ∀ l', l.getD P 0 % (q : Int) = c → 0 ≤ c → c < q → (d + c) % (q : Int) = 0 → l'.length = l.length → Low q l' → E q l' (padd l (pup m (psc d g))) → Under q f g N m l' (Q.set m c) := by
          intro c d l' a1 a2 a3 a4 a5 a6 a7
          rw [hP] at a1
          exact hu.step (by omega) hg0 HGm1.out a1 a2 a3 a4 a5 a6 a7
        have hc0 := Int.emod_nonneg (l.getD P 0) (show (q : Int) ≠ 0 by omega)
        have hcq := Int.emod_lt_of_pos (l.getD P 0) (show (0 : Int) < q by omega)
        have hqq : (q : Int) * q ≤ 4611686018427387904 := by
          have : (q : Int) * q ≤ 2147483648 * q := Int.mul_le_mul_of_nonneg_right (by omega) (by omega)
          omega
        have ht : Int.tmod (l.getD P 0) (q : Int) = l.getD P 0 % (q : Int) := Int.tmod_eq_emod_of_nonneg hlow.1
        obtain ⟨x, hx⟩ : ∃ x, l.getD P 0 = x := ⟨_, rfl⟩
        rw [hx] at hc1 hst hc0 hcq ht hlow
        obtain ⟨c, hc⟩ : ∃ c, x % (q : Int) = c := ⟨_, rfl⟩
        rw [hc] at hst hc0 hcq ht
        have hst2 := fun l' => hst c ((-c) % (q : Int)) l' rfl hc0 hcq (by rw [Int.emod_add_emod, Int.add_left_neg]; exact Int.zero_emod _)
        have hd0 := Int.emod_nonneg (-c) (show (q : Int) ≠ 0 by omega)
        have hdq := Int.emod_lt_of_pos (-c) (show (0 : Int) < q by omega)
        have CR := hidP fun w => HR2.out (-c) w
        obtain ⟨d2, hd2⟩ : ∃ d2, (-c) % (q : Int) = d2 := ⟨_, rfl⟩
        rw [hd2] at hst2 hd0 hdq
        simp only [hd2] at CR
        -- the world behind the store
        have hrq2 := hrq.set (i := m) (by rw [hu.lq]; omega) c
        have hrl2 : RowW (wr.setCell ⟨GQ, m, none⟩ (.int .i64 c)) gf l := hrl.of_block (Deep.blk_setCell_other _ _ _ _ hne)
        have hgr2 : w.grownBy (wr.setCell ⟨GQ, m, none⟩ (.int .i64 c)) (some gf) := grownBy_new hgr.out (by rw [HGQ.out]; exact Nat.le_refl _) _ _
        have hcc := hrq2.cell (i := m) (by rw [List.length_set, hu.lq]; omega)
        rw [getD_set', if_pos ⟨rfl, by rw [hu.lq]; omega⟩] at hcc
        have hll := hu.ll
        have CA := hidP (mod_addTimes (ao := some ⟨gf, m, none⟩) (n := f.length - m) (cap := cap - m) (c := d2) (l := l) (a := m) (w := (wr.setCell ⟨GQ, m, none⟩ (.int .i64 c)).drew) (fun _ => rfl) (fun _ => hrl2) (by omega) (by omega) (by omega)
          (fun w1 h => HG.out w1 (grownBy_trans (grownBy_drew hgr2) h)) hq0 hq2 hu.low HRes.out hd0 hdq)
        have HST := hidP hst2
        have HLL : Hid (0 < l.length) := by show 0 < _; omega
        have HRQ2 := hidP hrq2
        have HGR2 := hidP hgr2
        have hX : (m : Int) + (g.length : Int) = (P : Int) + 1 := by omega
        have hX1 : IntKind.i64.wrap ((P : Int) + 1) = (P : Int) + 1 := by rw [IntKind.wrap_i64]; omega
        have hX2 : (P : Int) + 1 - 1 = (P : Int) := by omega
        have hX3 : IntKind.i64.wrap (P : Int) = (P : Int) := by rw [IntKind.wrap_i64]; omega
        have hPi : (P : Int) < (f.length : Int) := by omega
        have h0P : 0 + P = P := Nat.zero_add P
        have h0m : 0 + m = m := Nat.zero_add m
        have hwc : IntKind.i64.wrap c = c := by rw [IntKind.wrap_i64]; omega
        have hwn : IntKind.i64.wrap (-c) = -c := by rw [IntKind.wrap_i64]; omega
        have hmN : (m : Int) < (N : Int) := by omega
        have hmf : (m : Int) ≤ (f.length : Int) := by omega
        have hcm : ¬ cap = m := by omega
        have hq00 : ¬ (q : Int) = 0 := by omega
        have hm1 : IntKind.i64.wrap ((m : Int) - 1) = (m : Int) - 1 := by rw [IntKind.wrap_i64]; omega
        clear hst hst2 hrq2 hrl2 hgr2 hrl hrq hu hgr hx hc hd2 hd0 hdq hP hqq hlow hmod e1 hll hc0 hcq
        go_wp2
        obtain ⟨y, hy⟩ : ∃ y, y = wr.setCell ⟨GQ, m, none⟩ (.int .i64 c) := ⟨_, rfl⟩
        rw [← hy] at hcc CA HRQ2 HGR2 ⊢
        have HD := hidP (grownBy_drew (grownBy_refl y (some gf)))
        have hgq : some GQ ≠ some gf := fun h => hne (Option.some.inj h).symm
        clear hy hfq hcq1 hc1
        go_region_held3 (fun w' => w'.cell? ⟨GQ, m, none⟩ = some (.int .i64 c) ∧ Hid (y.grownBy w' (some gf))) (exact ⟨by assumption, by assumption⟩) (first
          | (go_at_call 88
             refine (CR.out _).mono ?_
             rintro e wx ⟨rfl, rfl⟩)
          | (go_at_call 89
             refine CA.out.mono ?_
             rintro e wx ⟨rfl, l', k1, k2, k3, k4, k5⟩
             have hgn : Hid (y.grownBy wx (some gf)) := grownBy_trans HD.out k5
             have hr9 := HRQ2.out.grown hgn.out hgq
             have hc9 : wx.cell? ⟨GQ, m, none⟩ = some (.int .i64 c) := (hgn.out.cell hcc hgq)
             have HR9 := hidP hr9
             have HK := hidP (And.intro k1 (And.intro k2 (And.intro k3 k4)))
             clear k1 k2 k3 k4 k5 hr9))
        have HF : Hid (∃ l Q, Under q f g N m l Q ∧ RowW wx gf l ∧ RowW wx GQ Q) := ⟨l', Q.set m c, HST.out l' HK.out.2.1 HK.out.2.2.1 HK.out.2.2.2, HK.out.1 HLL.out, HR9.out⟩
        have HFB := hidP (grownBy_trans HGR2.out hgn.out)
        clear HK HR9 hgn hc9 HST HLL CA CR HD HRQ2 HGR2 hcc
        go_wp2
        go_roundg m
        case rel => exact ⟨m, rfl, by omega, by go_num, HF, HFB⟩
        case measure => omega
end Go.Proofs.Ytokdcgmjpnanoaa
