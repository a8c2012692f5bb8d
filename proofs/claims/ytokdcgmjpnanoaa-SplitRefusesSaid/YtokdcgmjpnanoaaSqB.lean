/- split.multiplicity and split.radical by their contracts. -/
import Derived.Test.YtokdcgmjpnanoaaSqA

set_option linter.unusedVariables false
set_option linter.unusedSimpArgs false
namespace Go.Proofs.Ytokdcgmjpnanoaa
open Go.RowKit

theorem pder_dr (q : Nat) (f : List Int) : E q (pder f) (dr f) := cf_E fun i => by rw [getD_pder, getD_dr]
theorem GcdIs.congrR {q : Nat} {f g g' d : List Int} (h : GcdIs q f g d) (e : E q g g') : GcdIs q f g' d :=
  ⟨h.mon, h.sp.trans ⟨.left q f g', (Span.right q f g').congr e, .left q f g, (Span.right q f g).congr e.symm⟩⟩
theorem GcdIs.swap {q : Nat} {f g d : List Int} (h : GcdIs q f g d) : GcdIs q g f d := ⟨h.mon, h.sp.trans (Both.swap q g f)⟩
theorem Mo.two_of {q : Nat} {f : List Int} (h : Mo q f) (h1 : f.length ≠ 1) : 2 ≤ f.length := by
  have := List.length_pos_iff.2 h.ne; omega
/-- What is divided by a monic divisor. -/
theorem quot_mo {q : Nat} (hq : IsP q) {f c Q : List Int} (hf : Mo q f) (hc : Mo q c) (e : E q f (pmul Q c)) (hQ : Plain q Q) : Mo q Q ∧ Q.length + c.length = f.length + 1 := by
  have hq0 := hq.pos
  have hQ0 : Q ≠ [] := by
    rintro rfl
    have h1 : E q f [] := e.trans (.of_ev fun x => by simp [ev_pmul, ev])
    exact hf.nf_ne (nf_zero.2 h1)
  have hd := dg_mul hq (a := Q) (b := c) (by rw [nf_self hQ]; exact hQ0) hc.nf_ne
  rw [← dg_congr e, hf.dg, hc.dg, dg_plain hQ] at hd
  refine ⟨⟨hQ, hQ0, ?_⟩, by omega⟩
  have ht := top_mul c hc.ne Q hQ0
  rw [hc.top, Int.mul_one] at ht
  have hql := List.length_pos_iff.2 hQ0
  have hcl := List.length_pos_iff.2 hc.ne
  have h1 := E_cf e (f.length - 1)
  rw [show f.length - 1 = Q.length + c.length - 2 by omega, ht, show Q.length + c.length - 2 = f.length - 1 by omega, hf.top] at h1
  have h2 := hQ.1 (Q.length - 1)
  rw [Int.emod_eq_of_lt (a := 1) (by omega) (by have := hq.1; omega), Int.emod_eq_of_lt h2.1 h2.2] at h1
  exact h1.symm
theorem Quot.of_dv {q : Nat} (hq : IsP q) {f c Q R : List Int} (hc : nf q c ≠ []) (hd : Dv q c f) (h : DivIs q f c Q R) : E q f (pmul Q c) := by
  have hR := rest_nil hq hc hd h
  subst hR
  exact h.eq.trans (.of_ev fun x => by simp only [ev_padd, ev]; omega)
/-- The quotient by a monic divisor. -/
def QuotD (q : Nat) (f c : List Int) (w : World) (e : Ending) (w' : World) : Prop := ∃ vq Q, e = .returned vq ∧ SeesI w' vq Q ∧ Mo q Q ∧ E q f (pmul Q c) ∧ Q.length + c.length = f.length + 1 ∧ Below w.heap.size w w'
theorem mod_quotD {va vb : Value} {q : Nat} {f c : List Int} {w : World} (hf : SeesI w va f) (hc : SeesI w vb c) (hlf : f.length ≤ 4096) (hq : IsP q) (mf : Mo q f) (mc : Mo q c) (hd : Dv q c f) :
    Calls Try.prog 36 #[va, vb, .int .i64 q] w fun e w' => QuotD q f c w e w' := by
  have hcl := (hd.len hq mf.nf_ne).2
  rw [mf.dg, mc.dg] at hcl
  refine (mod_quot hf hc (by omega) (by omega) hq mc.nf_ne).mono ?_
  rintro e w1 ⟨vq, Q, R, he, h1, h2, h3⟩
  have hE := Quot.of_dv hq mc.nf_ne hd h2
  have hm := quot_mo hq mf mc hE h2.pq
  exact ⟨vq, Q, he, h1, hm.1, hE, hm.2, h3⟩
theorem ref_overD {va vb : Value} {q : Nat} {f c : List Int} {w : World} (hf : SeesI w va f) (hc : SeesI w vb c) (hlf : f.length ≤ 4096) (hq : IsP q) (mf : Mo q f) (mc : Mo q c) (hd : Dv q c f) :
    Calls Try.prog 50 #[va, vb, .int .i64 q] w fun e w' => QuotD q f c w e w' := by
  have hcl := (hd.len hq mf.nf_ne).2
  rw [mf.dg, mc.dg] at hcl
  refine (ref_quot hf hc (by omega) (by omega) hq mc.nf_ne).mono ?_
  rintro e w1 ⟨vq, Q, R, he, h1, h2, h3⟩
  have hE := Quot.of_dv hq mc.nf_ne hd h2
  have hm := quot_mo hq mf mc hE h2.pq
  exact ⟨vq, Q, he, h1, hm.1, hE, hm.2, h3⟩

set_option maxRecDepth 100000 in
set_option maxHeartbeats 2000000 in
theorem mod_multiplicity {vg vf : Value} {q : Nat} {g f : List Int} {w : World} (hg : SeesI w vg g) (hf : SeesI w vf f) (hlf : f.length ≤ 4096) (hlg : g.length ≤ 4096) (hq : IsP q) (ig : Irr q g) (f0 : nf q f ≠ []) :
    Calls Try.prog 18 #[vg, vf, .int .i64 q] w fun e w' => ∃ (m : Nat) (h : List Int), e = .returned (.int .i64 m) ∧ E q f (pmul (ppow g m) h) ∧ ¬ Dv q g h ∧ m ≤ 4096 ∧ Below w.heap.size w w' := by
  have C : Hid (∀ w1 v X, Below w.heap.size w w1 → SeesI w1 v X → X.length ≤ 16384 → Calls Try.prog 39 #[v, vg, .int .i64 q] w1 fun e w' => ∃ vq ao cap Q R, e = .returned (.tuple #[vq, .slice ao R.length cap, .int .i64 0]) ∧ SeesI w' vq Q ∧ SeesI w' (.slice ao R.length cap) R ∧ DivIs q X g Q R ∧ Below w1.heap.size w1 w') :=
    fun w1 v X h1 h2 h3 => mod_DMl h2 (SeesI.below hg h1) (by omega) (by omega) hq ig.mo.nf_ne
  have HQ := hidP hq
  have HI := hidP ig
  have hdl : dg q f ≤ 4096 := by have := nf_len q f; unfold dg; omega
  have HS : Hid (∃ X : List Int, X.length ≤ 4096 ∧ SeesI w vf X ∧ nf q X ≠ [] ∧ E q f (pmul (ppow g 0) X) ∧ dg q X = dg q f) := ⟨f, hlf, hf, f0, .of_ev fun x => by simp [ppow, ev_pmul, ev], rfl⟩
  clear hf hg hlg f0 ig hq hlf
  go_enter Try.func18, Try.ntmps18
  go_wp2_with fail
  go_loopg [1, 7] (dg q f) (fun gm v1 v7 wr => ∃ n : Nat, v7 = .int .i64 n ∧ n + gm ≤ 4096 ∧ Hid (∃ X : List Int, X.length ≤ 4096 ∧ SeesI wr v1 X ∧ nf q X ≠ [] ∧ E q f (pmul (ppow g n) X) ∧ dg q X = gm) ∧ Hid (Below w.heap.size w wr))
  case atStart => exact ⟨0, rfl, by omega, HS, Below.refl _ _⟩
  case round =>
    clear HS
    obtain ⟨n, rfl, hn, hX, hB⟩ := hrel
    obtain ⟨X, hXl, hXs, hX0, hXE, hXd⟩ := hX.out
    have C1 := hidP (C.out _ _ X hB.out hXs (by omega))
    have HX0 := hidP hX0
    have HXE := hidP hXE
    have HXd := hidP hXd
    have HXl := hidP hXl
    have hn1 : IntKind.i64.wrap ((n : Int) + 1) = (n : Int) + 1 := by rw [IntKind.wrap_i64]; omega
    clear hX hXl hXs hX0 hXE hXd C
    go_wp2_with fail
    refine C1.out.mono ?_
    rintro e w2 ⟨vq, ao, cap, Q, R, rfl, h1, h2, h3, h4⟩
    have HQs := hidP h1
    have HD := hidP h3
    have B2 := hidP (step_below hB.out h4)
    obtain ⟨r, hr⟩ : ∃ r, R.length = r := ⟨_, rfl⟩
    have HR := hidP hr
    rw [hr]
    have hrb : r < 9223372036854775808 := by have := h2.len; omega
    clear h1 h2 h3 h4 C1 hr
    by_cases h0 : r = 0
    · subst h0
      have hR0 : R = [] := List.eq_nil_of_length_eq_zero HR.out
      have hE : E q X (pmul Q g) := by
        have := HD.out; rw [hR0] at this
        exact this.eq.trans (.of_ev fun x => by simp only [ev_padd, ev]; omega)
      have hne := ne_of_mul (by rw [← nf_eq hE]; exact HX0.out)
      have hd := dg_mul HQ.out hne.1 hne.2
      rw [← dg_congr hE, HI.out.mo.dg, HXd.out] at hd
      have two := HI.out.two
      obtain ⟨gm', hgm⟩ : ∃ k, dg q Q = k := ⟨_, rfl⟩
      have HQl : Q.length ≤ 4096 := by have := dg_plain HD.out.pq; have := nf_len q X; have := HXl.out; have := HXd.out; unfold dg at *; omega
      have HS : Hid (∃ X : List Int, X.length ≤ 4096 ∧ SeesI w2 vq X ∧ nf q X ≠ [] ∧ E q f (pmul (ppow g (n + 1)) X) ∧ dg q X = gm') := ⟨Q, HQl, HQs.out, hne.1, HXE.out.trans (((E.refl q _).mul hE).trans (.of_ev fun x => by simp only [ev_pmul, ev_ppow, Int.pow_succ]; grind)), hgm⟩
      have hlt : gm' < gk := by omega
      clear hR0 hE hne hd two hgm HQl
      go_wp2_with fail
      go_roundg gm'
      case rel => exact ⟨n + 1, by go_num, by omega, HS, B2⟩
      case measure => omega
    · have HN : Hid (¬ Dv q g X) := fun d => by
        have := rest_nil HQ.out HI.out.mo.nf_ne d HD.out
        rw [this] at HR; exact h0 HR.out.symm
      have hr0 : (0 : Int) < (r : Int) := by omega
      go_wp2_with fail
      go_ret
      exact ⟨n, X, rfl, HXE.out, HN.out, by omega, B2.out⟩

set_option maxRecDepth 100000 in
set_option maxHeartbeats 4000000 in
theorem mod_radical {q : Nat} (hq : IsP q) : ∀ (n : Nat) (vf : Value) (f : List Int) (w : World), f.length ≤ n → f.length ≤ 4096 → Mo q f → SeesI w vf f →
    Calls Try.prog 32 #[vf, .int .i64 q] w fun e w' => ∃ vr R, e = .returned vr ∧ SeesI w' vr R ∧ RadOf q f R ∧ R.length ≤ f.length ∧ Below w.heap.size w w' := by
  intro n
  induction n with
  | zero => intro vf f w h _ mf; exact absurd (List.eq_nil_of_length_eq_zero (by omega)) mf.ne
  | succ n ih =>
    intro vf f w hn hl mf hf
    by_cases h1 : f.length = 1
    · have e1 : f = [1] := mf.is_one hq (by omega)
      subst e1
      have HS := hidP hf
      obtain ⟨ao, cap, rfl, -⟩ := SeesF.form hf
      clear ih hf mf hn hl
      go_enter Try.func32, Try.ntmps32
      go_wp2_with fail
      go_ret
      exact ⟨_, [1], rfl, HS.out, RadOf.one hq, Nat.le_refl _, Below.refl _ _⟩
    · have h2 := mf.two_of h1
      have HF : Hid (∀ w1, Below w.heap.size w w1 → SeesI w1 vf f) := fun w1 h => SeesI.below hf h
      have CD := hidP (mod_Deriv hf (by omega) hq)
      have HM := hidP mf
      have HQ := hidP hq
      obtain ⟨ao, cap, rfl, -⟩ := SeesF.form hf
      have hb1 : ((f.length : Int) == 1) = false := by rw [beq_eq_false_iff_ne]; omega
      obtain ⟨N, hN⟩ : ∃ N, f.length = N := ⟨_, rfl⟩
      have HN := hidP hN
      rw [hN] at h1 h2 hb1 hn hl
      rw [hN] at HF CD ⊢
      have IH := hidP ih
      clear hf mf hq hN ih
      go_enter Try.func32, Try.ntmps32
      go_wp2_with fail
      refine CD.out.mono ?_
      rintro e w1 ⟨v1, rfl, hs1, hb1'⟩
      have B1 := hidP hb1'
      have CG := hidP (mod_Gcd (HF.out w1 hb1') hs1 (by have := HN.out; omega) (by have := nf_len q (pder f); have : (pder f).length = f.length - 1 := by simp [pder]
                                                                                   have := HN.out; omega) HQ.out)
      clear hs1 hb1' CD
      go_wp2_with fail
      refine CG.out.mono ?_
      rintro e w2 ⟨v2, c, rfl, hs2, hg2, hl2, hb2⟩
      have B2 := hidP (step_below B1.out hb2)
      have hgc : GcdIs q f (dr f) c := hg2.congrR ((nf_E q _).trans (pder_dr q f))
      have mc := hgc.mo HQ.out HM.out.nf_ne
      have HGC := hidP hgc
      have HMC := hidP mc
      have CQ := hidP (mod_quotD (HF.out w2 B2.out) hs2 (by have := HN.out; omega) HQ.out HM.out mc hgc.dvF)
      have HS2 := hidP hs2
      clear hs2 hg2 hl2 hb2 CG hgc mc
      go_wp2_with fail
      refine CQ.out.mono ?_
      rintro e w3 ⟨v3, o, rfl, hs3, mo, hE3, hlen3, hb3⟩
      have B3 := hidP (step_below B2.out hb3)
      have HC3 := hidP (HS2.out.below hb3)
      have HO : Hid (∀ w4, Below w3.heap.size w3 w4 → SeesI w4 v3 o) := fun w4 h => SeesI.below hs3 h
      have HMo := hidP mo
      have HE3 := hidP hE3
      have HOn : Hid (∀ g, Irr q g → ¬ Dv q (pmul g g) o ∧ (¬ Dv q g o → Dv q g f → ∃ m h, E q f (pmul (ppow g (q * m)) h) ∧ ¬ Dv q g h)) := fun g hg => once_of HQ.out HM.out.nf_ne HGC.out hE3 hg
      have HI3 := hidP (RadInv.start HQ.out mo HMC.out hE3)
      have HL3 := hidP hlen3
      have hol : o.length ≤ N ∧ 1 ≤ o.length ∧ 1 ≤ c.length ∧ c.length ≤ N := by
        have a1 := List.length_pos_iff.2 mo.ne; have a2 := List.length_pos_iff.2 HMC.out.ne; have := HN.out; omega
      have HOF : Hid (Dv q o f) := ⟨c, hE3.trans (.of_ev fun x => by simp only [ev_pmul]; grind)⟩
      obtain ⟨o1, o2, o3, o4⟩ := hol
      obtain ⟨a3, c3, e3, -⟩ := SeesF.form hs3
      subst e3
      have HS3 := hidP hs3
      clear hs3 mo hE3 hlen3 hb3 HS2 CQ HMC HGC
      go_wp2_with fail
      go_loopg [5, 7] (c.length + (if 1 < o.length then 1 else 0)) (fun gm v5 v7 wr => ∃ (s : Nat) (asl : Option Addr) (cs : Nat), v7 = .slice asl s cs ∧ 1 ≤ s ∧ s ≤ N ∧ Hid (∃ C S : List Int, SeesI wr v5 C ∧ SeesI wr (.slice asl s cs) S ∧ S.length = s ∧ C.length ≤ c.length ∧ RadInv q f o C S ∧ gm = C.length + (if 1 < s then 1 else 0)) ∧ Hid (Below w3.heap.size w3 wr))
      case atStart => exact ⟨o.length, a3, c3, rfl, o2, o1, ⟨c, o, HC3.out, HS3.out, rfl, Nat.le_refl _, HI3.out, rfl⟩, Below.refl _ _⟩
      case round =>
        clear HI3 HC3 HS3
        obtain ⟨s, asl, cs, rfl, hs1, hsN, hX, hB⟩ := hrel
        obtain ⟨C, S, k1, k2, k3, k4, k5, k6⟩ := hX.out
        by_cases hs : 1 < s
        · rw [if_pos hs] at k6
          have hst : (1 : Int) < (s : Int) := by omega
          have CMu := hidP (mod_Mul k2 k2 (by omega) (by omega) HQ.out)
          have HK1 : Hid (∀ w4, Below wr.heap.size wr w4 → SeesI w4 u5 C) := fun w4 h => SeesI.below k1 h
          have HK5 := hidP k5
          have HK6 := hidP k6
          have HKl := hidP k4
          have HKs := hidP k3
          clear hX k1 k2 k3 k4 k5 k6
          go_wp2_with fail
          refine CMu.out.mono ?_
          rintro e w4 ⟨v4, rfl, hs4, hb4⟩
          have B4 := hidP (step_below hB.out hb4)
          have CGc := hidP (mod_Gcd (HK1.out w4 hb4) hs4 (by have := HKl.out; omega) (by have := nf_len q (pmul S S); have := pmul_len S S; have := HKs.out; omega) HQ.out)
          have BB4 := hidP hb4
          clear hs4 hb4 CMu
          go_wp2_with fail
          refine CGc.out.mono ?_
          rintro e w5 ⟨v5, S', rfl, hs5, hg5, hl5, hb5⟩
          have B5 := hidP (step_below B4.out hb5)
          have hgs : GcdIs q C (pmul S S) S' := hg5.congrR (nf_E q _)
          have ms' := hgs.mo HQ.out HK5.out.mc.nf_ne
          have BB5 := hidP (step_below BB4.out hb5)
          have CQu := hidP (mod_quotD (HK1.out w5 BB5.out) hs5 (by have := HKl.out; omega) HQ.out HK5.out.mc ms' hgs.dvF)
          have HS5 : Hid (∀ w6, Below w5.heap.size w5 w6 → SeesI w6 v5 S') := fun w6 h => SeesI.below hs5 h
          have HGs := hidP hgs
          have HMs := hidP ms'
          obtain ⟨a5, c5, e5, -⟩ := SeesF.form hs5
          subst e5
          have hs'1 := List.length_pos_iff.2 ms'.ne
          clear hs5 hg5 hl5 hb5 hgs ms' CGc BB4 BB5 HK1
          go_wp2_with fail
          refine CQu.out.mono ?_
          rintro e w6 ⟨v6, C', rfl, hs6, mC', hE6, hlen6, hb6⟩
          have B6 := hidP (step_below B5.out hb6)
          have HS6 := hidP (HS5.out w6 hb6)
          have HI6 := hidP (RadInv.step HQ.out HK5.out mC' HMs.out HGs.out hE6)
          obtain ⟨t, ht⟩ : ∃ t, S'.length = t := ⟨_, rfl⟩
          have hC1 := List.length_pos_iff.2 mC'.ne
          have hK6 := HK6.out
          have hK4 := HKl.out
          have hsv : t ≤ N := by omega
          have hlt : C'.length + (if 1 < t then 1 else 0) < gk := by
            rw [hK6]; split <;> omega
          have HX : Hid (∃ C S : List Int, SeesI w6 v6 C ∧ SeesI w6 (.slice a5 t c5) S ∧ S.length = t ∧ C.length ≤ c.length ∧ RadInv q f o C S ∧ C'.length + (if 1 < t then 1 else 0) = C.length + (if 1 < t then 1 else 0)) :=
            ⟨C', S', hs6, by rw [← ht]; exact HS6.out, ht, by omega, HI6.out, rfl⟩
          rw [ht]
          rw [ht] at hs'1
          obtain ⟨gn, hgn⟩ : ∃ gn, C'.length + (if 1 < t then 1 else 0) = gn := ⟨_, rfl⟩
          rw [hgn] at HX hlt
          clear hs6 mC' hE6 hlen6 hb6 HS5 HS6 HI6 CQu HMs HGs HK5 HK6 HKl HKs ht hC1 hK6 hK4 hgn
          go_wp2_with fail
          go_roundg gn
          case rel => exact ⟨t, a5, c5, rfl, hs'1, hsv, HX, B6⟩
          case measure => omega
        · have hs0 : s = 1 := by omega
          subst hs0
          have S1 : S = [1] := k5.ms.is_one HQ.out (by omega)
          rw [S1] at k5
          have hdr := RadInv.root HQ.out HM.out k5 (fun g hg => (HOn.out g hg).2)
          obtain ⟨r1, r2, r3, r4⟩ := root_of HQ.out k5.mc hdr
          have hrl : (rootL q C).length ≤ n ∧ (rootL q C).length ≤ C.length := by
            have := rootL_len q C HQ.out.pos
            by_cases hc2 : 2 ≤ C.length
            · have := r3 hc2; omega
            · have := r4 (by omega); rw [this]; have := List.length_pos_iff.2 k5.mc.ne
              constructor
              · show 1 ≤ n; omega
              · show 1 ≤ _; omega
          have CR := hidP (mod_root k1 (by omega) HQ.out)
          have HDone : Hid (∀ R, RadOf q (rootL q C) R → RadOf q f (nf q (pmul o R))) := fun R hR => k5.done HQ.out HMo.out HOF.out (fun g hg => (HOn.out g hg).1) r1 hR
          have HIH : Hid (∀ w5 v5, SeesI w5 v5 (rootL q C) → Calls Try.prog 32 #[v5, .int .i64 q] w5 fun e w' => ∃ vr R, e = .returned vr ∧ SeesI w' vr R ∧ RadOf q (rootL q C) R ∧ R.length ≤ (rootL q C).length ∧ Below w5.heap.size w5 w') :=
            fun w5 v5 h => IH.out v5 _ w5 hrl.1 (by omega) r2 h
          have HRl : Hid ((rootL q C).length ≤ c.length) := by show _ ≤ _; omega
          clear hX k1 k2 k3 k4 k5 k6 S1 hdr r1 r2 r3 r4 hrl
          go_wp2_with fail
          refine CR.out.mono ?_
          rintro e w4 ⟨v4, rfl, hs4, hb4⟩
          have B4 := hidP (step_below hB.out hb4)
          have CI := hidP (HIH.out w4 v4 hs4)
          clear hs4 hb4 CR
          go_wp2_with fail
          refine CI.out.mono ?_
          rintro e w5 ⟨v5, R, rfl, hs5, hR5, hl5, hb5⟩
          have B5 := hidP (step_below B4.out hb5)
          have CM := hidP (mod_Mul (HO.out w5 B5.out) hs5 (by omega) (by have := HRl.out; omega) HQ.out)
          have HD5 := hidP (HDone.out R hR5)
          have HLn : Hid ((nf q (pmul o R)).length ≤ N) := by
            have := mo_mul_len HQ.out HMo.out hR5.1
            have := HL3.out; have := HN.out; have := HRl.out
            show _ ≤ _; omega
          clear hs5 hR5 hl5 hb5 CI HIH
          go_wp2_with fail
          refine CM.out.mono ?_
          rintro e w6 ⟨v6, rfl, hs6, hb6⟩
          have HS6 := hidP hs6
          have B6 := hidP (step_below B3.out (step_below B5.out hb6))
          clear hs6 hb6 CM
          go_wp2_with fail
          go_ret
          exact ⟨_, _, rfl, HS6.out, HD5.out, HLn.out, B6.out⟩
end Go.Proofs.Ytokdcgmjpnanoaa
