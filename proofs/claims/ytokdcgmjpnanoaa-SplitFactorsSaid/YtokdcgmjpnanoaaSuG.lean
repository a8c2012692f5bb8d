/- The document's pieces and Factor by their contracts. -/
import Derived.Test.YtokdcgmjpnanoaaSuF

set_option linter.unusedVariables false
set_option linter.unusedSimpArgs false
namespace Go.Proofs.Ytokdcgmjpnanoaa
open Go.RowKit

def PiecesTells (q : Nat) (f : List Int) (w : World) (e : Ending) (w' : World) : Prop := ∃ v L, e = .returned v ∧ SeesL w' v L ∧ FactorsOf q f L ∧ Below w.heap.size w w'
theorem timesL_len (l : List (List Int)) : ∀ n, (timesL l n).length = n * l.length
  | 0 => by simp [timesL]
  | n + 1 => by rw [timesL, List.length_append, timesL_len l n, Nat.succ_mul]
theorem pder_len {q : Nat} (f : List Int) (h : 1 ≤ f.length) : (nf q (pder f)).length + 1 ≤ f.length := by
  have h1 := nf_len q (pder f)
  have h2 : (pder f).length = f.length - 1 := by simp [pder]
  omega

set_option maxRecDepth 100000 in
set_option maxHeartbeats 8000000 in
theorem ref_pieces {q : Nat} (hq : IsP q) (hq7 : q ≤ 7) : ∀ (N : Nat) (vf : Value) (F : List Int) (w : World), F.length ≤ N → F.length ≤ 60 → SeesI w vf F → Mo q F →
    Calls Try.prog 24 #[vf, .int .i64 q] w fun e w' => PiecesTells q F w e w' := by
  obtain ⟨hq0, hq2⟩ := isP_bounds hq
  have HQ := hidP hq
  intro N
  induction N with
  | zero => intro vf F w h _ _ mF; exact absurd (List.eq_nil_of_length_eq_zero (by omega)) mF.ne
  | succ N ih =>
    intro vf F w hN hl hf mF
    have HIH := hidP ih
    have HM := hidP mF
    have HF : Hid (∀ w1, Below w.heap.size w w1 → SeesI w1 vf F) := fun w1 h => SeesI.below hf h
    obtain ⟨A, ca, rfl, hcap⟩ := SeesF.form hf
    obtain ⟨lf, hlf⟩ : ∃ lf, F.length = lf := ⟨_, rfl⟩
    have HLf := hidP hlf
    have hpos := List.length_pos_iff.2 mF.ne
    have CD := hidP (ref_Deriv hf (by omega) hq)
    rw [hlf] at HF CD hN hl hpos
    rw [hlf]
    by_cases h1 : lf = 1
    · have e1 : F = [1] := mF.is_one hq (by omega)
      have HR : Hid (PiecesTells q F w (.returned (.slice none 0 0)) w) := ⟨_, [], rfl, SeesL.nil w, by rw [e1]; exact FactorsOf.nil, Below.refl _ _⟩
      have p1 : (lf : Int) < 2 := by omega
      clear ih hf mF hcap hlf e1 h1 CD
      go_enter Try.func24, Try.ntmps24
      go_wp2_with fail
      go_ret
      exact HR.out
    · have h2 : 2 ≤ lf := by omega
      have p1 : ¬ (lf : Int) < 2 := by omega
      have HO0 := hidP (OwnsS.nil w.heap.size w)
      unfold vNil at HO0
      clear ih hf mF hcap hlf h1 hpos
      by_cases hd : nf q (pder F) = []
      · -- a power
        obtain ⟨r1, r2, r3, -⟩ := root_of HQ.out HM.out ((pder_dr q F).symm.trans (nf_zero.1 hd))
        have hrl := r3 (by have := HLf.out; omega)
        have HR2 := hidP r2
        have HR1 := hidP r1
        rw [hd] at CD
        have CRt : Hid (∀ w1, Below w.heap.size w w1 → Calls Try.prog 48 #[.slice A lf ca, .int .i64 q] w1 fun e w' => Tells (rootL q F) w1 e w') := fun w1 h => ref_root (HF.out w1 h) (by have := HLf.out; omega) HQ.out
        have hrl2 : (rootL q F).length ≤ N := by have := HLf.out; omega
        have hrl3 : (rootL q F).length ≤ 60 := by have := HLf.out; omega
        clear hd r1 r2 r3
        go_enter Try.func24, Try.ntmps24
        go_wp2_with fail
        refine CD.out.mono ?_
        rintro e w1 ⟨v1, rfl, hs1, hb1⟩
        obtain ⟨a1, c1, e1, -⟩ := SeesF.form hs1
        subst e1
        have B1 := hidP hb1
        clear hs1 hb1
        go_wp2_with fail
        refine (CRt.out _ B1.out).mono ?_
        rintro e w2 ⟨v2, rfl, hs2, hb2⟩
        have B2 := hidP (step_below B1.out hb2)
        have CP := hidP (HIH.out v2 (rootL q F) w2 hrl2 hrl3 hs2 HR2.out)
        clear hs2 hb2
        go_wp2_with fail
        refine CP.out.mono ?_
        rintro e w3 ⟨v3, L0, rfl, hs3, hf3, hb3⟩
        have B3 := hidP (step_below B2.out hb3)
        have HL0 : Hid (∀ w4, Below w3.heap.size w3 w4 → SeesL w4 v3 L0) := fun w4 h => hs3.below h
        have hll : L0.length ≤ 60 := by have := hf3.len HQ.out HR2.out; omega
        have HFc := hidP hf3
        have HV0 : Hid (SeesL w3 (.slice none 0 0) (timesL L0 0)) := SeesL.nil w3
        have HB0 : Hid (Below w3.heap.size w3 w3) := Below.refl _ _
        clear hs3 hf3 hb3 CP
        go_wp2_with fail
        go_loopg [5, 8] q (fun gz v5 v8 wy => ∃ i : Nat, v8 = .int .i64 i ∧ i ≤ q ∧ Hid (q - i = gz) ∧ Hid (SeesL wy v5 (timesL L0 i)) ∧ Hid (Below w3.heap.size w3 wy))
        case atStart => exact ⟨0, rfl, Nat.zero_le _, rfl, HV0, HB0⟩
        case round =>
          clear HV0 HB0
          obtain ⟨i, rfl, hi, hgz, hV, hB⟩ := hrel
          by_cases hiq : i < q
          · have hlen : (timesL L0 i).length + L0.length ≤ 2000000 := by
              rw [timesL_len]
              have : i * L0.length ≤ 7 * 60 := Nat.mul_le_mul (by omega) hll
              omega
            have CJ := hidP (ref_joined hV.out (HL0.out wr hB.out) hlen)
            have q2 : IntKind.i64.wrap ((i : Int) + 1) = (i : Int) + 1 := by rw [IntKind.wrap_i64]; omega
            have p2 : (i : Int) < (q : Int) := by omega
            clear hV
            go_wp2_with fail
            refine CJ.out.mono ?_
            rintro e w4 ⟨v4, rfl, hO, hb4⟩
            have HN : Hid (SeesL w4 v4 (timesL L0 (i + 1))) := hO.owns.sees (by rw [List.length_append]; omega)
            have HBn := hidP (step_below hB.out hb4)
            clear hO hb4 CJ
            go_wp2_with fail
            go_roundg (q - (i + 1))
            case rel => exact ⟨i + 1, by go_num, by omega, rfl, HN, HBn⟩
            case measure => have := hgz.out; omega
          · obtain rfl : i = q := by omega
            have HR : Hid (PiecesTells i F w (.returned u5) wr) := ⟨_, _, rfl, hV.out, (HFc.out.times i).congr HR1.out, step_below B3.out hB.out⟩
            have p2 : ¬ (i : Int) < (i : Int) := by omega
            clear hV
            go_wp2_with fail
            go_ret
            exact HR.out
      · have hdl : (nf q (pder F)).length + 1 ≤ F.length := pder_len F (by have := HLf.out; omega)
        have hd0 : nf q (nf q (pder F)) ≠ [] := by rw [nf_self (nf_plain hq0 _)]; exact hd
        have hdb : (((nf q (pder F)).length : Int) == 0) = false := by rw [beq_eq_false_iff_ne]; have := List.length_pos_iff.2 hd; omega
        obtain ⟨D, hD⟩ : ∃ D, nf q (pder F) = D := ⟨_, rfl⟩
        have HD := hidP hD
        rw [hD] at CD hdl hd0 hdb
        clear hd hD
        go_enter Try.func24, Try.ntmps24
        go_wp2_with fail
        refine CD.out.mono ?_
        rintro e w1 ⟨v1, rfl, hs1, hb1⟩
        obtain ⟨a1, c1, e1, -⟩ := SeesF.form hs1
        subst e1
        have B1 := hidP hb1
        have CG := hidP (ref_Gcd (HF.out w1 hb1) hs1 (by have := HLf.out; omega) (by have := HLf.out; omega) HQ.out)
        clear hs1 hb1 CD
        go_wp2_with fail
        refine CG.out.mono ?_
        rintro e w2 ⟨v2, g, rfl, hs2, hg2, hb2⟩
        have B2 := hidP (step_below B1.out hb2)
        have mg := hg2.mo HQ.out HM.out.nf_ne
        have HSg : Hid (∀ w3, Below w2.heap.size w2 w3 → SeesI w3 v2 g) := fun w3 h => SeesI.below hs2 h
        have hgl : g.length + 1 ≤ F.length := by
          have h3 := (hg2.dvG.len HQ.out hd0).2
          rw [mg.dg] at h3
          have h4 : dg q D ≤ D.length := nf_len q D
          omega
        have HMg := hidP mg
        have HGc := hidP hg2
        obtain ⟨a2, c2, e2, -⟩ := SeesF.form hs2
        subst e2
        obtain ⟨lg, hlg⟩ : ∃ lg, g.length = lg := ⟨_, rfl⟩
        have HLg := hidP hlg
        have hg1 := List.length_pos_iff.2 mg.ne
        rw [hlg] at HSg hgl hg1
        rw [hlg]
        have hgl2 : lg ≤ N := by have := HLf.out; omega
        clear hs2 hg2 hb2 mg hlg CG
        by_cases hg : 2 ≤ lg
        · have p2 : (lg : Int) > 1 := by omega
          have HSg0 := hidP (HSg.out w2 (Below.refl _ _))
          have CA := hidP (HIH.out _ g w2 (by have := HLg.out; omega) (by have := HLg.out; have := HLf.out; omega) HSg0.out HMg.out)
          go_wp2_with fail
          refine CA.out.mono ?_
          rintro e wa ⟨va, La, rfl, hsa, hfa, hba⟩
          have BA := hidP (step_below B2.out hba)
          have HSa : Hid (∀ w9, Below wa.heap.size wa w9 → SeesL w9 va La) := fun w9 k => hsa.below k
          have HFa := hidP hfa
          have CO := hidP (ref_overD (HF.out wa BA.out) (HSg.out wa hba) (by have := HLf.out; omega) HQ.out HM.out HMg.out HGc.out.dvF)
          have hlA : La.length ≤ 60 := by have := hfa.len HQ.out HMg.out; have := HLg.out; have := HLf.out; omega
          clear hsa hfa hba CA
          go_wp2_with fail
          refine CO.out.mono ?_
          rintro e wb ⟨vq, Q, rfl, hsq', mQ, eQ, lQ, hbb⟩
          have BB := hidP (step_below BA.out hbb)
          have HBb := hidP hbb
          have HEq := hidP eQ
          have HMQ := hidP mQ
          have hQN : Q.length ≤ N := by have := HLg.out; have := HLf.out; omega
          have hQ6 : Q.length ≤ 60 := by have := HLg.out; have := HLf.out; omega
          have CB := hidP (HIH.out _ Q wb hQN hQ6 hsq' mQ)
          clear hsq' mQ eQ lQ hbb CO
          go_wp2_with fail
          refine CB.out.mono ?_
          rintro e wc ⟨vb, Lb, rfl, hsb, hfb, hbc⟩
          have BC := hidP (step_below BB.out hbc)
          have hlB : Lb.length ≤ 60 := by have := hfb.len HQ.out HMQ.out; omega
          have CJ := hidP (ref_joined (HSa.out wc (step_below HBb.out hbc)) hsb (by omega))
          have HFb := hidP hfb
          clear hsb hfb hbc CB
          go_wp2_with fail
          refine CJ.out.mono ?_
          rintro e wd ⟨vj, rfl, hO, hbd⟩
          have HR : Hid (PiecesTells q F w (.returned vj) wd) := ⟨_, _, rfl, hO.owns.sees (by rw [List.length_append]; omega), HFa.out.app HFb.out (HEq.out.trans (.of_ev fun x => by rw [ev_pmul, ev_pmul, Int.mul_comm])), step_below BC.out hbd⟩
          clear hO hbd CJ
          go_wp2_with fail
          go_ret
          exact HR.out
        · have p2 : ¬ (lg : Int) > 1 := by omega
          have HSq : Hid (SqF q F) := by
            have e1 : g = [1] := HMg.out.is_one HQ.out (by have := HLg.out; omega)
            have h3 := HGc.out
            rw [e1] at h3
            have h4 : E q D (dr F) := by have h5 := (nf_E q (pder F)); rw [HD.out] at h5; exact h5.trans (pder_dr q F)
            exact sqf_of_cop HQ.out (h3.congrR h4).cop
          obtain ⟨n, hn⟩ : ∃ n, F.length = n + 1 := ⟨F.length - 1, by have := HLf.out; omega⟩
          have CF := hidP (ref_fixed (HF.out w2 B2.out) hn (by have := HLf.out; omega) (by have := HLf.out; omega) HQ.out HM.out)
          clear HSg HMg HGc HLg hn hgl hg1 hgl2 hg
          go_wp2_with fail
          refine CF.out.mono ?_
          rintro e w3 ⟨v3, b, rfl, ht, hfl, hb3⟩
          have B3 := hidP (step_below B2.out hb3)
          cases b with
          | false =>
            have HI := hidP (fixed_irr HQ.out HM.out (by have := HLf.out; omega) HSq.out (hfl rfl))
            clear ht hfl hb3 CF
            go_wp2_with fail
            go_loopw [12, 13, 14] (fun v12 v13 v14 wy => v12 = .int .i64 (0 : Nat) ∧ wy = w3) (fun _ _ _ _ => 0)
            case atStart => exact ⟨rfl, rfl⟩
            case round =>
              obtain ⟨rfl, rfl⟩ := hrel
              have hMy := SeesL.one (HF.out wr B3.out)
              have HMy := hidP hMy
              have hA : Below wr.heap.size wr (wr.alloc (.cells #[.slice A lf ca] 22)) := (Below.refl _ wr).alloc (Nat.le_refl _) _
              have HO3 : Hid (OwnsS w.heap.size (wr.alloc (.cells #[.slice A lf ca] 22)) (.slice none 0 0) []) := OwnsS.nil _ _
              have HSz : Hid (w.heap.size ≤ (wr.alloc (.cells #[.slice A lf ca] 22)).heap.size) := by show _ ≤ _; have := B3.out.size; simp; omega
              have HBa := hidP (step_below B3.out hA)
              clear hMy hA
              go_wp2_with (at_builtin; refine wpList_append_list rfl _ _ rfl rfl HO3.out rfl HMy.out (by simp) HSz.out ?_)
              intro v' w4 ho hg4 hk4
              have HR : Hid (PiecesTells q F w (.returned v') w4) := ⟨_, [F], rfl, by have := ho.owns.sees (by simp); simpa using this, FactorsOf.single HI.out, HBa.out.grown hg4 HSz.out (fun k e => by cases e)⟩
              clear ho hg4 hk4
              go_wp2_with fail
              go_ret
              exact HR.out
          | true =>
            obtain ⟨l, hsl, hfx, hl2, hll, hlp⟩ := ht rfl
            have HSl : Hid (∀ w4, Below w3.heap.size w3 w4 → SeesI w4 v3 l) := fun w4 h => SeesI.below hsl h
            have HFx := hidP hfx
            have HLp := hidP hlp
            have HNo : Hid (∀ s' : Nat, s' < 0 → ∃ d, GcdIs q (padd l (psc (-1) [(s' : Int)])) F d ∧ d.length < 2) := fun s' h => by omega
            have HB30 : Hid (Below w3.heap.size w3 w3) := Below.refl _ _
            clear ht hfl hb3 CF hsl hfx hlp
            go_wp2_with fail
            go_loopg [12, 13, 14] q (fun gz v12 v13 v14 wy => ∃ s : Nat, v12 = .int .i64 s ∧ s ≤ q ∧ Hid (q - s = gz) ∧ Hid (∀ s' : Nat, s' < s → ∃ d, GcdIs q (padd l (psc (-1) [(s' : Int)])) F d ∧ d.length < 2) ∧ Hid (Below w3.heap.size w3 wy))
            case atStart => exact ⟨0, rfl, Nat.zero_le _, rfl, HNo, HB30⟩
            case round =>
              clear HNo HB30
              obtain ⟨s, rfl, hs, hgz, hNo, hB⟩ := hrel
              by_cases hsq : s < q
              · have q2 : IntKind.i64.wrap ((s : Int) + 1) = (s : Int) + 1 := by rw [IntKind.wrap_i64]; omega
                have p3 : (s : Int) < (q : Int) := by omega
                obtain ⟨W1, cc, hW1, hcc, hs1, hbW⟩ := grown_one wr (s : Int)
                have HW1 := hidP hW1
                have HCc := hidP hcc
                have B4 := hidP (step_below hB.out hbW)
                have CS := hidP (refT_Sub (HSl.out W1 B4.out) hs1 (by have := HLf.out; omega) (by simp) HQ.out)
                clear hW1 hcc hs1 hbW hB
                go_wp2_with fail
                rw [← HCc.out, ← HW1.out]
                refine CS.out.mono ?_
                rintro e w5 ⟨v5, rfl, hs5, hb5⟩
                have B5 := hidP (step_below B4.out hb5)
                have hpl : (nf q (padd l (psc (-1) [(s : Int)]))).length ≤ 100 := by
                  refine Nat.le_trans (nf_len q _) ?_
                  rw [padd_len, psc_len]
                  have := HLf.out
                  simp; omega
                have CG := hidP (ref_Gcd hs5 (HF.out w5 (step_below B3.out B5.out)) (by omega) (by have := HLf.out; omega) HQ.out)
                clear hs5 hb5 CS HW1 HCc
                go_wp2_with fail
                refine CG.out.mono ?_
                rintro e w6 ⟨v6, h, rfl, hs6, hg6, hb6⟩
                have B6 := hidP (step_below B5.out hb6)
                have BW := hidP (step_below B3.out B6.out)
                have hg7 : GcdIs q (padd l (psc (-1) [(s : Int)])) F h := (hg6.swap.congrR (nf_E q _)).swap
                have mh : Mo q h := hg7.swap.mo HQ.out HM.out.nf_ne
                have hhl := splits_less HQ.out HM.out (by rw [dg_plain HLp.out]; exact hl2) (by rw [dg_plain HLp.out]; exact hll) hg7
                have HSh : Hid (∀ w7, Below w6.heap.size w6 w7 → SeesI w7 v6 h) := fun w7 k => SeesI.below hs6 k
                have HSh0 := hidP hs6
                have HMh := hidP mh
                have HGh := hidP hg7
                obtain ⟨a6, c6, e6, -⟩ := SeesF.form hs6
                subst e6
                obtain ⟨lh, hlh⟩ : ∃ lh, h.length = lh := ⟨_, rfl⟩
                have HLh := hidP hlh
                have hh1 := List.length_pos_iff.2 mh.ne
                rw [hlh] at HSh HSh0 hhl hh1
                rw [hlh]
                have hgl2 : lh ≤ N := by have := HLf.out; omega
                have p4 : (lh : Int) < (lf : Int) := by have := HLf.out; omega
                clear hs6 hg6 hb6 hg7 mh hlh CG
                by_cases hh : 2 ≤ lh
                · have p5 : (lh : Int) > 1 := by omega
                  clear hNo
                  have CA := hidP (HIH.out _ h w6 (by have := HLh.out; omega) (by have := HLh.out; have := HLf.out; omega) HSh0.out HMh.out)
                  go_wp2_with fail
                  refine CA.out.mono ?_
                  rintro e wa ⟨va, La, rfl, hsa, hfa, hba⟩
                  have BA := hidP (step_below BW.out hba)
                  have HSa : Hid (∀ w9, Below wa.heap.size wa w9 → SeesL w9 va La) := fun w9 k => hsa.below k
                  have HFa := hidP hfa
                  have CO := hidP (ref_overD (HF.out wa BA.out) (HSh.out wa hba) (by have := HLf.out; omega) HQ.out HM.out HMh.out HGh.out.dvG)
                  have hlA : La.length ≤ 60 := by have := hfa.len HQ.out HMh.out; have := HLh.out; have := HLf.out; omega
                  clear hsa hfa hba CA
                  go_wp2_with fail
                  refine CO.out.mono ?_
                  rintro e wb ⟨vq, Q, rfl, hsq', mQ, eQ, lQ, hbb⟩
                  have BB := hidP (step_below BA.out hbb)
                  have HBb := hidP hbb
                  have HEq := hidP eQ
                  have HMQ := hidP mQ
                  have hQN : Q.length ≤ N := by have := HLh.out; have := HLf.out; omega
                  have hQ6 : Q.length ≤ 60 := by have := HLh.out; have := HLf.out; omega
                  have CB := hidP (HIH.out _ Q wb hQN hQ6 hsq' mQ)
                  clear hsq' mQ eQ lQ hbb CO
                  go_wp2_with fail
                  refine CB.out.mono ?_
                  rintro e wc ⟨vb, Lb, rfl, hsb, hfb, hbc⟩
                  have BC := hidP (step_below BB.out hbc)
                  have hlB : Lb.length ≤ 60 := by have := hfb.len HQ.out HMQ.out; omega
                  have CJ := hidP (ref_joined (HSa.out wc (step_below HBb.out hbc)) hsb (by omega))
                  have HFb := hidP hfb
                  clear hsb hfb hbc CB
                  go_wp2_with fail
                  refine CJ.out.mono ?_
                  rintro e wd ⟨vj, rfl, hO, hbd⟩
                  have HR : Hid (PiecesTells q F w (.returned vj) wd) := ⟨_, _, rfl, hO.owns.sees (by rw [List.length_append]; omega), HFa.out.app HFb.out (HEq.out.trans (.of_ev fun x => by rw [ev_pmul, ev_pmul, Int.mul_comm])), step_below BC.out hbd⟩
                  clear hO hbd CJ
                  go_wp2_with fail
                  go_ret
                  exact HR.out
                · have p5 : ¬ (lh : Int) > 1 := by omega
                  have HNn : Hid (∀ s' : Nat, s' < s + 1 → ∃ d, GcdIs q (padd l (psc (-1) [(s' : Int)])) F d ∧ d.length < 2) := fun s' k => by
                    by_cases e : s' = s
                    · subst e; exact ⟨h, HGh.out, by have := HLh.out; omega⟩
                    · exact hNo.out s' (by omega)
                  clear hNo HSh HSh0
                  go_wp2_with fail
                  go_roundg (q - (s + 1))
                  case rel => exact ⟨s + 1, by go_num, by omega, rfl, HNn, B6⟩
                  case measure => have := hgz.out; omega
              · exfalso
                obtain ⟨s', h3, h4⟩ := fixed_splits HQ.out HM.out (by have := HLf.out; omega) HFx.out
                obtain ⟨d, h5, h6⟩ := hNo.out s' (by omega)
                have := h4 d h5
                omega
end Go.Proofs.Ytokdcgmjpnanoaa
