/- modular.Plain, Scale, Mul, Monic and DivMod by their contracts, by a prime. -/
import Derived.Test.YtokdcgmjpnanoaaJaH

set_option linter.unusedVariables false
set_option linter.unusedSimpArgs false
namespace Go.Proofs.Ytokdcgmjpnanoaa
open Go.RowKit

/-- The call returns a slice of these ints; nothing that was there has turned. -/
def Tells (X : List Int) (w : World) (e : Ending) (w' : World) : Prop := ∃ v, e = .returned v ∧ SeesI w' v X ∧ Below w.heap.size w w'
theorem Mine.keep {w w' : World} {g g' : Nat} {v : Value} {l : List Int} (h : Mine w g v l) (hb : w.grownBy w' (some g')) (hr : l ≠ [] → g ≠ g') : Mine w' g v l := by
  obtain ⟨ao, cap, h1, h2, h3, h4, h5⟩ := h
  exact ⟨ao, cap, h1, h2, h3, h4, fun hp => ⟨(h5 hp).1, (h5 hp).2.grown hb (fun e => hr (List.length_pos_iff.1 hp) (Option.some.inj e))⟩⟩
theorem Mine.lt {w : World} {g : Nat} {v : Value} {l : List Int} (h : Mine w g v l) (h0 : l ≠ []) : g < w.heap.size := by
  obtain ⟨ao, cap, h1, h2, h3, h4, h5⟩ := h
  exact (h5 (List.length_pos_iff.2 h0)).2.lt
theorem Mine.any {w : World} {g : Nat} {v : Value} (h : Mine w g v []) (g' : Nat) : Mine w g' v [] := by
  obtain ⟨ao, cap, h1, h2, h3, h4, h5⟩ := h
  exact ⟨ao, cap, h1, h2, h3, h4, fun hp => absurd hp (by simp)⟩
theorem plain_at {vf : Value} {q : Nat} {f : List Int} {w : World} (hq : IsP q) (hf : SeesI w vf f) (hl : f.length ≤ 65536) : Hid (∀ w1, Below w.heap.size w w1 → Calls Try.prog 57 #[vf, .int .i64 q] w1 fun e w' => ∃ v' g, e = .returned v' ∧ w1.heap.size ≤ g ∧ Mine w' g v' (nf q f) ∧ Below w1.heap.size w1 w') :=
  fun w1 h => mod_plain (SeesI.below hf h) (by omega) (isP_bounds hq).1 (isP_bounds hq).2
theorem mon_unit {q : Nat} (hq : IsP q) {f : List Int} (hf : Plain q f) : ∃ c c' : Int, (c * c') % (q : Int) = 1 % (q : Int) ∧ 0 ≤ c ∧ c < q ∧ E q (mon q f) (psc c f) ∧ (f ≠ [] → c = invR q (f.getD (f.length - 1) 0)) := by
  have h2 := hq.1
  have h1 : (1 : Int) % (q : Int) = 1 := Int.emod_eq_of_lt (by omega) (by omega)
  by_cases h : f = []
  · subst h
    exact ⟨1, 1, by rw [Int.mul_one], by omega, by omega, E.of_ev fun x => by simp [mon, ev_psc, ev], fun h => absurd rfl h⟩
  · have hm := invR_mul hq (hf.1 (f.length - 1)) (hf.2 h)
    have hr := invR_range (isP_bounds hq).1 (f.getD (f.length - 1) 0)
    refine ⟨invR q (f.getD (f.length - 1) 0), f.getD (f.length - 1) 0, by rw [Int.mul_comm, hm, h1], hr.1, hr.2, ?_, fun _ => rfl⟩
    unfold mon
    rw [if_neg h]
    exact nf_E q _

set_option maxRecDepth 100000 in
theorem mod_Mul {vf vg : Value} {q : Nat} {f g : List Int} {w : World} (hf : SeesI w vf f) (hg : SeesI w vg g) (hlf : f.length ≤ 65536) (hlg : g.length ≤ 65536) (hq : IsP q) :
    Calls Try.prog 59 #[vf, vg, .int .i64 q] w fun e w' => Tells (nf q (pmul f g)) w e w' := by
  obtain ⟨hq0, hq2⟩ := isP_bounds hq
  have PF := plain_at hq hf hlf
  have PG := plain_at hq hg hlg
  have IS := hidP (fun w => is_prime hq w)
  have HE : Hid (nf q (pmul (nf q f) (nf q g)) = nf q (pmul f g)) := nf_eq ((nf_E q f).mul (nf_E q g))
  have CP : Hid (∀ v u w, SeesI w v (nf q f) → SeesI w u (nf q g) → Calls Try.prog 64 #[v, u, .int .i64 q] w fun e w' => ∃ v' g', e = .returned v' ∧ w.heap.size ≤ g' ∧ Mine w' g' v' (nf q (pmul (nf q f) (nf q g))) ∧ Below w.heap.size w w') := fun v u w h1 h2 => mod_product h1 h2 (by have := nf_len q f; omega) (by have := nf_len q g; omega) hq0 hq2 (res_nf hq0 f) (res_nf hq0 g)
  clear hf hg hlf hlg hq
  go_enter Try.func59, Try.ntmps59
  go_wp2_with fail
  refine (IS.out _).mono ?_
  rintro e w1 ⟨rfl, hb1⟩
  have B1 := hidP hb1
  clear hb1
  go_wp2_with fail
  refine (PF.out _ B1.out).mono ?_
  rintro e w2 ⟨v2, g2, rfl, hg2, hm2, hb2⟩
  have HM2 := hidP hm2.sees
  have B2 := hidP (step_below B1.out hb2)
  clear hg2 hm2 hb2
  go_wp2_with fail
  refine (PG.out _ B2.out).mono ?_
  rintro e w3 ⟨v3, g3, rfl, hg3, hm3, hb3⟩
  have HP := hidP (CP.out v2 v3 w3 (HM2.out.below hb3) hm3.sees)
  have B3 := hidP (step_below B2.out hb3)
  clear hg3 hm3 hb3
  go_wp2_with fail
  refine (HP.out).mono ?_
  rintro e w4 ⟨v4, g4, rfl, hg4, hm4, hb4⟩
  rw [HE.out] at hm4
  have HM := hidP hm4.sees
  have HB := hidP (step_below B3.out hb4)
  clear hm4 hb4 hg4
  go_wp2_with fail
  go_ret
  exact ⟨_, rfl, HM.out, HB.out⟩

set_option maxRecDepth 100000 in
theorem mod_Monic {vf : Value} {q : Nat} {f : List Int} {w : World} (hf : SeesI w vf f) (hlf : f.length ≤ 65536) (hq : IsP q) :
    Calls Try.prog 31 #[vf, .int .i64 q] w fun e w' => Tells (mon q (nf q f)) w e w' := by
  obtain ⟨hq0, hq2⟩ := isP_bounds hq
  have PF := plain_at hq hf hlf
  have IS := hidP (fun w => is_prime hq w)
  have CM : Hid (∀ v g w, Mine w g v (nf q f) → Calls Try.prog 56 #[v, .int .i64 q] w fun e w' => ∃ v', e = .returned v' ∧ Mine w' g v' (mon q (nf q f)) ∧ w.grownBy w' (some g)) := fun v g w h => mod_monic h hq (nf_plain hq0 f)
  clear hf hlf hq
  go_enter Try.func31, Try.ntmps31
  go_wp2_with fail
  refine (IS.out _).mono ?_
  rintro e w1 ⟨rfl, hb1⟩
  have B1 := hidP hb1
  clear hb1
  go_wp2_with fail
  refine (PF.out _ B1.out).mono ?_
  rintro e w2 ⟨v2, g2, rfl, hg2, hm2, hb2⟩
  have HS := hidP (CM.out v2 g2 w2 hm2)
  have B2 := hidP (step_below B1.out hb2)
  have HG2 : Hid (w.heap.size ≤ g2) := Nat.le_trans B1.out.size hg2
  clear hg2 hm2 hb2
  go_wp2_with fail
  refine (HS.out).mono ?_
  rintro e w4 ⟨v4, rfl, hm4, hgr4⟩
  have HM := hidP hm4.sees
  have HB := hidP (below_in B2.out hgr4 HG2.out)
  clear hm4 hgr4
  go_wp2_with fail
  go_ret
  exact ⟨_, rfl, HM.out, HB.out⟩

theorem Divided.nil {q : Nat} (hq0 : 0 < q) {g Q R : List Int} (h : Divided q [] g Q R) : R = [] := by
  have h3 : Q = [] := List.eq_nil_of_length_eq_zero (by have := h.lq; simpa using this)
  have h1 := h.eq
  subst h3
  exact (h.pr.ext (Plain.nil q hq0) ((h1.trans (.of_ev fun x => by rw [ev_padd, ev_pmul, ev_nil]; simp)).symm))
theorem divmod_is {q : Nat} (hq : IsP q) {f g Q R : List Int} (hg : nf q g ≠ []) (h : Divided q (nf q f) (mon q (nf q g)) Q R) : DivIs q f g (nf q (psc (invR q ((nf q g).getD ((nf q g).length - 1) 0)) Q)) R := by
  obtain ⟨hq0, hq2⟩ := isP_bounds hq
  obtain ⟨c, c', h1, h2, h3, h4, h5⟩ := mon_unit hq (nf_plain hq0 g)
  rw [← h5 hg]
  have hl := (mon_mon hq (nf_plain hq0 g)).2
  refine ⟨?_, nf_plain hq0 _, h.pr, by have := h.lt; omega⟩
  have e1 : E q (mon q (nf q g)) (psc c g) := h4.trans ((nf_E q g).sc c)
  refine (nf_E q f).symm.trans (h.eq.trans (((E.refl q Q).mul e1).add (E.refl q R) |>.trans ?_))
  have e2 : E q (pmul Q (psc c g)) (pmul (psc c Q) g) := .of_ev fun x => by simp only [ev_pmul, ev_psc]; grind
  exact (e2.trans ((nf_E q _).symm.mul (E.refl q g))).add (E.refl q R)

set_option maxRecDepth 100000 in
set_option maxHeartbeats 2000000 in
theorem mod_DivMod {vf vg : Value} {q : Nat} {f g : List Int} {w : World} (hf : SeesI w vf f) (hg : SeesI w vg g) (hlf : f.length ≤ 65536) (hlg : g.length ≤ 65536) (hq : IsP q) :
    Calls Try.prog 39 #[vf, vg, .int .i64 q] w fun e w' =>
      (nf q g = [] ∧ e = .returned (.tuple #[.slice none 0 0, .slice none 0 0, .int .i64 30]) ∧ Below w.heap.size w w') ∨
      (∃ vq vr Q R, e = .returned (.tuple #[vq, vr, .int .i64 0]) ∧ DivIs q f g Q R ∧ SeesI w' vq Q ∧ SeesI w' vr R ∧ Below w.heap.size w w') := by
  obtain ⟨hq0, hq2⟩ := isP_bounds hq
  have PF := plain_at hq hf hlf
  have PG := plain_at hq hg hlg
  have IS := hidP (fun w => is_prime hq w)
  have hlg2 := nf_len q g
  have hlf2 := nf_len q f
  by_cases h0 : nf q g = []
  · have HZ := hidP h0
    simp only [h0] at PG
    clear h0 hf hg PF hlg2
    go_enter Try.func39, Try.ntmps39
    go_wp2_with fail
    refine (IS.out _).mono ?_
    rintro e w1 ⟨rfl, hb1⟩
    have B1 := hidP hb1
    clear hb1
    go_wp2_with fail
    refine (PG.out _ B1.out).mono ?_
    rintro e w2 ⟨v2, g2, rfl, hg2, hm2, hb2⟩
    obtain ⟨a2, c2, rfl, hc2⟩ := SeesF.form hm2.sees
    have HB := hidP (step_below B1.out hb2)
    clear hg2 hm2 hb2 hc2
    go_wp2_with fail
    go_ret3
    exact Or.inl ⟨HZ.out, rfl, HB.out⟩
  · have HDI : Hid (∀ Q R, Divided q (nf q f) (mon q (nf q g)) Q R → DivIs q f g (nf q (psc (invR q ((nf q g).getD ((nf q g).length - 1) 0)) Q)) R) := fun Q R h => divmod_is hq h0 h
    have hpl := nf_plain hq0 g
    have hmon : nf q (psc (invR q ((nf q g).getD ((nf q g).length - 1) 0)) (nf q g)) = mon q (nf q g) := by unfold mon; rw [if_neg h0]
    have hmm := mon_mon hq hpl
    have hGl : 0 < (nf q g).length := List.length_pos_iff.2 h0
    have hm0 : mon q (nf q g) ≠ [] := List.length_pos_iff.1 (by rw [hmm.2]; exact hGl)
    have hIR := invR_range hq0 ((nf q g).getD ((nf q g).length - 1) 0)
    have CI := hidP fun w => mod_inverse (w := w) hq (hpl.1 ((nf q g).length - 1))
    have CSg : Hid (∀ v k w, Mine w k v (nf q g) → Calls Try.prog 71 #[v, .int .i64 (invR q ((nf q g).getD ((nf q g).length - 1) 0)), .int .i64 q] w fun e w' => ∃ v', e = .returned v' ∧ Mine w' k v' (mon q (nf q g)) ∧ w.grownBy w' (some k)) := fun v k w h => by
      rw [← hmon]; exact mod_scaled h hq0 hq2 hpl.1 hIR.1 hIR.2
    have CSq : Hid (∀ v k w Q, Res q Q → Mine w k v Q → Calls Try.prog 71 #[v, .int .i64 (invR q ((nf q g).getD ((nf q g).length - 1) 0)), .int .i64 q] w fun e w' => ∃ v', e = .returned v' ∧ Mine w' k v' (nf q (psc (invR q ((nf q g).getD ((nf q g).length - 1) 0)) Q)) ∧ w.grownBy w' (some k)) := fun v k w Q hr h => mod_scaled h hq0 hq2 hr hIR.1 hIR.2
    have CD : Hid (∀ v u k w, Mine w k v (nf q f) → (∀ w1, w.grownBy w1 (some k) → SeesI w1 u (mon q (nf q g))) → Calls Try.prog 62 #[v, u, .int .i64 q] w fun e w' => ∃ vq vr gq Q R, e = .returned (.tuple #[vq, vr]) ∧ w.heap.size ≤ gq ∧ Mine w' gq vq Q ∧ Mine w' k vr R ∧ w.grownBy w' (some k) ∧ Divided q (nf q f) (mon q (nf q g)) Q R) :=
      fun v u k w h1 h2 => mod_divide h1 h2 (res_nf hq0 f) hmm.1 hm0 hq (by omega) (by rw [hmm.2]; omega)
    obtain ⟨N, hN⟩ : ∃ N, (nf q g).length = N + 1 := ⟨(nf q g).length - 1, by omega⟩
    have eN : (nf q g).length - 1 = N := by omega
    rw [eN] at CI CSg CSq HDI
    obtain ⟨c, hc⟩ : ∃ c, (nf q g).getD N 0 = c := ⟨_, rfl⟩
    rw [hc] at CI CSg CSq HDI
    obtain ⟨u, hu⟩ : ∃ u, invR q c = u := ⟨_, rfl⟩
    rw [hu] at CI CSg CSq HDI
    have HC := hidP hc
    have HNl := hidP hN
    have HM0 := hidP hm0
    have hNb : N ≤ 65536 := by omega
    clear hf hg hlg2 hlf2 hpl hmon hmm hIR hq eN hc hu h0 hGl hm0
    go_enter Try.func39, Try.ntmps39
    go_wp2_with fail
    refine (IS.out _).mono ?_
    rintro e w1 ⟨rfl, hb1⟩
    have B1 := hidP hb1
    clear hb1
    go_wp2_with fail
    refine (PG.out _ B1.out).mono ?_
    rintro e w2 ⟨v2, g2, rfl, hg2, hm2, hb2⟩
    have hs2 := hm2.sees
    obtain ⟨a2, c2, rfl, hc2⟩ := SeesF.form hs2
    obtain ⟨b2, o2, e2, hcell⟩ := hs2.at (by have := HNl.out; omega)
    subst e2
    have hc1 := hcell N (by have := HNl.out; omega)
    rw [HC.out] at hc1
    have HM2 := hidP hm2
    have B2 := hidP (step_below B1.out hb2)
    have HG2 : Hid (w.heap.size ≤ g2) := Nat.le_trans B1.out.size hg2
    have e1 : (((nf q g).length : Nat) : Int) - 1 = (N : Int) := by omega
    have hb0 : (((nf q g).length : Int) == 0) = false := by rw [beq_eq_false_iff_ne]; omega
    have hwN : IntKind.i64.wrap (N : Int) = (N : Int) := by rw [IntKind.wrap_i64]; omega
    have hlN : (N : Int) < ((nf q g).length : Int) := by omega
    clear hg2 hm2 hb2 hs2 hcell hN
    go_wp2_with fail
    refine (CI.out _).mono ?_
    rintro e w3 ⟨rfl, hb3⟩
    have HM3 := hidP (HM2.out.below hb3)
    have B3 := hidP (step_below B2.out hb3)
    clear hb3 HM2
    go_wp2_with fail
    refine (PF.out _ B3.out).mono ?_
    rintro e w4 ⟨v4, g4, rfl, hg4, hm4, hb4⟩
    have HM4 := hidP (HM3.out.below hb4)
    have HMf := hidP hm4
    have B4 := hidP (step_below B3.out hb4)
    have HGf : Hid (w.heap.size ≤ g4) := Nat.le_trans B3.out.size hg4
    have HNe : Hid (g4 ≠ g2) := by have := HM3.out.lt (List.length_pos_iff.1 (by have := HNl.out; omega)); show g4 ≠ g2; omega
    have CSg4 := hidP (CSg.out _ g2 w4 HM4.out)
    clear hg4 hm4 hb4 HM3
    go_wp2_with fail
    refine (CSg4.out).mono ?_
    rintro e w5 ⟨v5, rfl, hm5, hgr5⟩
    have HMf5 := hidP (HMf.out.keep hgr5 (fun _ => HNe.out))
    have B5 := hidP (below_in B4.out hgr5 HG2.out)
    have CD5 := hidP (CD.out v4 v5 g4 w5 HMf5.out (fun w1 h => (hm5.keep h (fun _ => fun e => HNe.out e.symm)).sees))
    clear hm5 hgr5 HMf
    go_wp2_with fail
    refine (CD5.out).mono ?_
    rintro e w6 ⟨vq, vr, gq, Q, R, rfl, hgq, hmq, hmr, hgr6, hdv⟩
    have B6 := hidP (below_in B5.out hgr6 HGf.out)
    have HGq : Hid (w.heap.size ≤ gq) := Nat.le_trans B5.out.size hgq
    have HNe2 : Hid (R ≠ [] → g4 ≠ gq) := fun h => by have := HMf5.out.lt (fun e => h (Divided.nil hq0 (e ▸ hdv))); omega
    have HRm := hidP hmr
    have CQ := hidP (CSq.out vq gq w6 Q hdv.rq hmq)
    have HDV := hidP hdv
    clear hgq hmq hmr hgr6 hdv HMf5
    go_wp2_with fail
    refine (CQ.out).mono ?_
    rintro e w7 ⟨v7, rfl, hm7, hgr7⟩
    have HR7 := hidP ((HRm.out.keep hgr7 HNe2.out).sees)
    have HQ7 := hidP hm7.sees
    have HB := hidP (below_in B6.out hgr7 HGq.out)
    clear hm7 hgr7
    go_wp2_with fail
    go_ret3
    exact Or.inr ⟨_, _, _, _, rfl, HDI.out Q R HDV.out, HQ7.out, HR7.out, HB.out⟩
end Go.Proofs.Ytokdcgmjpnanoaa
