/- Merged: SqI SqJ. -/
import Derived.Test.YtokdcgmjpnanoaaSqE
/- split.Irreducible and the document's by their contracts. -/
set_option linter.unusedVariables false
set_option linter.unusedSimpArgs false
namespace Go.Proofs.Ytokdcgmjpnanoaa
open Go.RowKit

/-- Irreducible or not. -/
def IrrTells (q : Nat) (f : List Int) (w : World) (e : Ending) (w' : World) : Prop := ∃ b : Bool, e = .returned (.bool b) ∧ (b = true ↔ Irr q (monF q f)) ∧ Below w.heap.size w w'
theorem monF_zero {q : Nat} (hq : IsP q) {f : List Int} (h : nf q f = []) : monF q f = [] := by
  unfold monF
  rw [h]; exact List.eq_nil_of_length_eq_zero (mon_mon hq (Plain.nil q hq.pos)).2
set_option maxRecDepth 100000 in
theorem none_Irreducible {vf : Value} {p : Int} {w : World} (h1 : -9223372036854775808 ≤ p) (h2 : p < 9223372036854775808) (hp : isP p = false) :
    Calls Try.prog 12 #[vf, .int .i64 p] w fun e w' => e = .returned (.bool false) ∧ Below w.heap.size w w' := by
  have C := hidP (none_Degrees (vf := vf) (w := w) h1 h2 hp)
  clear h1 h2 hp
  go_enter Try.func12, Try.ntmps12
  go_wp2_with fail
  refine C.out.mono ?_
  rintro e w1 ⟨rfl, hb1⟩
  have B1 := hidP hb1
  clear hb1
  go_wp2_with fail
  go_ret
  exact ⟨rfl, B1.out⟩
set_option maxRecDepth 100000 in
theorem mod_Irreducible {vf : Value} {q : Nat} {f : List Int} {w : World} (hf : SeesI w vf f) (hlf : f.length ≤ 4000) (hq : IsP q) :
    Calls Try.prog 12 #[vf, .int .i64 q] w fun e w' => IrrTells q f w e w' := by
  by_cases hz : nf q f = []
  · have C := hidP (zero_Degrees hf (by omega) hq hz)
    have HN : Hid (¬ Irr q (monF q f)) := fun h => h.mo.ne (monF_zero hq hz)
    clear hf hlf hq hz
    go_enter Try.func12, Try.ntmps12
    go_wp2_with fail
    refine C.out.mono ?_
    rintro e w1 ⟨rfl, hb1⟩
    have B1 := hidP hb1
    clear hb1
    go_wp2_with fail
    go_ret
    exact ⟨false, rfl, by simp [HN.out], B1.out⟩
  · have C := hidP (mod_Degrees hf hlf hq hz)
    obtain ⟨mF, hFl⟩ := monF_mo hq hz
    have HM := hidP mF
    have HL := hidP hFl
    have HQ := hidP hq
    have hnl := nf_len q f
    have HNL : Hid ((nf q f).length ≤ 4000) := by show _ ≤ _; omega
    clear hf hlf hq hz mF hFl hnl
    go_enter Try.func12, Try.ntmps12
    go_wp2_with fail
    refine C.out.mono ?_
    rintro e w1 ⟨ao, cap, L, rfl, hs, hl, hp, hb1⟩
    have B1 := hidP hb1
    have HP := hidP hp
    have HS := hidP hs
    have HLl := hidP hl
    obtain ⟨n, hn⟩ : ∃ n, L.length = n := ⟨_, rfl⟩
    have Hn := hidP hn
    have hn4 : n ≤ 4000 := by have := HNL.out; omega
    rw [hn] at HS
    rw [hn]
    clear hs hl hp hb1 C hn
    rcases Nat.eq_zero_or_pos n with h0 | h0
    · subst h0
      have HN : Hid (¬ Irr q (monF q f)) := fun h => by have := h.two; have := HL.out; have := HLl.out; have := Hn.out; omega
      go_wp2_with fail
      go_ret
      exact ⟨false, rfl, by simp [HN.out], B1.out⟩
    · obtain ⟨m, rfl⟩ : ∃ m, n = m + 1 := ⟨n - 1, by omega⟩
      obtain ⟨b, o, v, ha, hc, hv⟩ := HS.out.at (i := m) (by have := Hn.out; omega)
      subst ha
      obtain ⟨a3, c3, e3, -⟩ := SeesF.form hv
      subst e3
      have hIff := (HP.out m (by have := Hn.out; omega)).irr_iff HQ.out HM.out (by have := HL.out; have := HLl.out; have := Hn.out; omega) (by omega)
      have hPl : (L.getD m []).length ≤ 70368744177664 := SeesI.len hv
      obtain ⟨t, ht⟩ : ∃ t, (L.getD m []).length = t := ⟨_, rfl⟩
      rw [ht] at hc hIff hPl
      have h1 : ((m + 1 : Nat) : Int) > 0 := by omega
      have h2 : ((m + 1 : Nat) : Int) - 1 = (m : Int) := by omega
      have h3 : IntKind.i64.wrap (m : Int) = (m : Int) := by rw [IntKind.wrap_i64]; omega
      have h4 : (m : Int) < ((m + 1 : Nat) : Int) := by omega
      have HIff := hidP hIff
      clear hv hIff ht h0
      go_wp2_with fail
      go_ret
      exact ⟨_, rfl, ⟨fun h => HIff.out.1 (by have := beq_iff_eq.1 h; omega), fun h => beq_iff_eq.2 (by have := HIff.out.2 h; omega)⟩, B1.out⟩

/-- The next round of Rabin's test. -/
theorem rab_next {q : Nat} {F X Y : List Int} {k : Nat} (h : M q F X (ppow pX (q ^ k))) (hY : RestIs q (ppow X q) F Y) : M q F Y (ppow pX (q ^ (k + 1))) :=
  hY.eq.symm.trans ((h.pow q).trans (.of_ev fun x => by rw [Nat.pow_succ, ppow_mul]))
theorem rab_z {q : Nat} {F X Y : List Int} {k : Nat} (h : M q F Y (ppow pX (q ^ k))) (hX : M q F X pX) : M q F (nf q (padd Y (psc (-1) X))) (xq q k) :=
  ((nf_E q _).m F).trans (h.add (M.mul (M.refl F [-1]) hX |> fun z => (M.of_ev (g := pmul [-1] X) (fun x => by simp only [ev_psc, ev_pmul, ev]; grind)).trans (z.trans (.of_ev fun x => by simp only [ev_psc, ev_pmul, ev]; grind))))
theorem rab_gcd {q : Nat} (hq : IsP q) {F Z h : List Int} {d : Nat} (hF : Mo q F) (hz : M q F Z (xq q d)) (hg : GcdIs q Z F h) : h.length = 1 ↔ Cop q F (xq q d) := by
  have hg2 := hg.congrM hz
  have mh : Mo q h := hg.swap.mo hq hF.nf_ne
  constructor
  · intro hl
    have := mh.is_one hq (by omega)
    subst this
    exact hg2.cop.symm
  · intro hc
    have h1 : Dv q h [1] := Span.dv hc hg2.dvG hg2.dvF
    have h2 := (h1.len hq (Mo.one hq).nf_ne).2
    rw [mh.dg, dg_one hq] at h2
    have := List.length_pos_iff.2 mh.ne
    omega
theorem rab_end {q : Nat} (hq : IsP q) {F X Y : List Int} {d : Nat} (hF : Mo q F) (hY : M q F Y (ppow pX (q ^ d))) (hX : M q F X pX) (pX' : Plain q X) (lX : X.length < F.length) (pY : Plain q Y) (lY : Y.length < F.length) : XF q F d ↔ (nf q (padd Y (psc (-1) X))).length = 0 := by
  constructor
  · intro h
    have e : Y = X := M_unique hq hF.pl pY pX' lY lX (hY.trans (h.trans hX.symm))
    subst e
    have : nf q (padd Y (psc (-1) Y)) = nf q [] := nf_eq (.of_ev fun x => by simp only [ev_padd, ev_psc, ev]; omega)
    rw [this]; rfl
  · intro h
    have h0 := nf_zero.1 (List.eq_nil_of_length_eq_zero h)
    have e : E q Y X := by
      obtain ⟨a, ha⟩ := h0
      exact ⟨a, fun x => by have := ha x; simp only [ev_padd, ev_psc, ev] at this; omega⟩
    exact hY.symm.trans ((e.m F).trans hX)
end Go.Proofs.Ytokdcgmjpnanoaa
/- The document's Irreducible (Rabin's test) by its contract. -/
set_option linter.unusedVariables false
set_option linter.unusedSimpArgs false
namespace Go.Proofs.Ytokdcgmjpnanoaa
open Go.RowKit

/-- The literal [y, z] appended to nil. -/
theorem grown_two (wr : World) (y z : Int) : ∃ W cap, W = ((wr.alloc (.cells #[.int .i64 y, .int .i64 z] 3)).alloc (.cells (#[.int .i64 y, .int .i64 z] ++ Builtin.zeroCells #[.int .i64 0] (cap - 2)) 3)).drew ∧ cap = (Question.appendCap 2 0 3).cut (wr.tape wr.drawn (Question.appendCap 2 0 3)) ∧ SeesI W (.slice (some ⟨wr.heap.size + 1, 0, none⟩) 2 cap) [y, z] ∧ Below wr.heap.size wr W := by
  have hc := grownCap_ge wr 2 0 3
  refine ⟨_, _, rfl, rfl, ?_, ((((Below.refl _ wr).alloc (Nat.le_refl _) _).alloc (by simp) _)).drew⟩
  refine ⟨_, _, rfl, hc, by simp, (fun e => by cases e), fun _ => ⟨_, 0, rfl, fun i hi => ?_⟩⟩
  show ((wr.alloc (.cells #[.int .i64 y, .int .i64 z] 3)).alloc _).cell? ⟨wr.heap.size + 1, 0 + i, none⟩ = _
  have hi2 : i = 0 ∨ i = 1 := by simp at hi; omega
  rcases hi2 with rfl | rfl
  · rw [World.cell?_alloc_at _ _ _ _ (by simp), Array.getElem?_append_left (by simp)]; rfl
  · rw [World.cell?_alloc_at _ _ _ _ (by simp), Array.getElem?_append_left (by simp)]; rfl
theorem refT_Sub {vf vg : Value} {q : Nat} {f g : List Int} {w : World} (hf : SeesI w vf f) (hg : SeesI w vg g) (hlf : f.length ≤ 65536) (hlg : g.length ≤ 65536) (hq : IsP q) :
    Calls Try.prog 28 #[vf, vg, .int .i64 q] w fun e w' => Tells (nf q (padd f (psc (-1) g))) w e w' := by
  have hq2 := (isP_bounds hq).2
  have := ref_Sub (p := (q : Int)) hf hg hlf hlg (by omega) (by omega)
  rwa [nfZ_prime hq] at this
theorem rabF {q : Nat} (hq : IsP q) {F : List Int} {n d : Nat} (hF : Mo q F) (hn : F.length = n + 1) (h1 : 1 ≤ d) (h2 : d < n) (h3 : d ∣ n) (h : ¬ Cop q F (xq q d)) : ¬ Irr q F := fun hi => by
  have := (rabin hq hF (by omega)).1 hi
  exact h (this.2 d h1 (by omega) (by rw [hn, Nat.add_sub_cancel]; exact h3))

set_option maxRecDepth 100000 in
set_option maxHeartbeats 4000000 in
theorem ref_Irreducible {vf : Value} {q : Nat} {f : List Int} {w : World} (hf : SeesI w vf f) (hlf : f.length ≤ 4000) (hq : IsP q) :
    Calls Try.prog 13 #[vf, .int .i64 q] w fun e w' => IrrTells q f w e w' := by
  obtain ⟨hq0, hq2⟩ := isP_bounds hq
  have CM : Hid (Calls Try.prog 22 #[vf, .int .i64 q] w fun e w' => Tells (monF q f) w e w') := ref_Monic hf (by omega) hq
  have HQ := hidP hq
  by_cases hs : (monF q f).length ≤ 1
  · have HN : Hid (¬ Irr q (monF q f)) := fun h => by have := h.two; omega
    obtain ⟨l, hl⟩ : ∃ l, (monF q f).length = l := ⟨_, rfl⟩
    have HL := hidP hl
    rw [hl] at hs
    have hlt : ((l : Int) - 1) < 1 := by omega
    have hw1 : IntKind.i64.wrap ((l : Int) - 1) = (l : Int) - 1 := by rw [IntKind.wrap_i64]; omega
    clear hf hlf hq hl
    go_enter Try.func13, Try.ntmps13
    go_wp2_with fail
    refine CM.out.mono ?_
    rintro e w1 ⟨v1, rfl, hs1, hb1⟩
    obtain ⟨a1, c1, e1, -⟩ := SeesF.form hs1
    subst e1
    rw [HL.out]
    have B1 := hidP hb1
    clear hs1 hb1
    go_wp2_with fail
    go_ret
    exact ⟨false, rfl, by simp [HN.out], B1.out⟩
  · have hz : nf q f ≠ [] := fun h => by rw [monF_zero hq h] at hs; simp at hs
    obtain ⟨mF, hFl⟩ := monF_mo hq hz
    have hnl := nf_len q f
    have HM := hidP mF
    have HRab := hidP fun (d : Nat) n hn h1 h2 h3 h => rabF (d := d) hq (n := n) mF hn h1 h2 h3 h
    have HRb := hidP (rabin hq mF (by omega))
    obtain ⟨n, hn⟩ : ∃ n, (monF q f).length = n + 1 := ⟨(monF q f).length - 1, by omega⟩
    have HFn := hidP hn
    have hn0 : 1 ≤ n := by omega
    have hn4 : n ≤ 4000 := by omega
    obtain ⟨F, hF⟩ : ∃ F, monF q f = F := ⟨_, rfl⟩
    have HFe := hidP hF
    rw [hF] at CM HM HRab HRb HFn
    obtain ⟨lf, hlf'⟩ : ∃ lf : Nat, lf = n + 1 := ⟨_, rfl⟩
    rw [← hlf'] at HFn
    have Hlf := hidP hlf'
    have hw1 : (lf : Int) - 1 = (n : Int) := by omega
    have hw2 : IntKind.i64.wrap (n : Int) = (n : Int) := by rw [IntKind.wrap_i64]; omega
    have hge : ¬ (n : Int) < 1 := by omega
    clear hf hlf hq hs hz mF hFl hnl hn hF hlf'
    go_enter Try.func13, Try.ntmps13
    go_wp2_with fail
    refine CM.out.mono ?_
    rintro e w1 ⟨v1, rfl, hs1, hb1⟩
    obtain ⟨a1, c1, e1, -⟩ := SeesF.form hs1
    subst e1
    rw [HFn.out] at hs1
    rw [HFn.out]
    have B1 := hidP hb1
    have HS1 : Hid (∀ w2, Below w1.heap.size w1 w2 → SeesI w2 (.slice a1 lf c1) F) := fun w2 h => SeesI.below hs1 h
    obtain ⟨w2, c2, hW2, hc2, hs2, hb2⟩ := grown_two w1 0 1
    have HW2 := hidP hW2
    have HC2 := hidP hc2
    have B2 := hidP hb2
    have CR := hidP (ref_Rest hs2 (HS1.out w2 hb2) (by simp) (by have := HFn.out; have := Hlf.out; omega) HQ.out HM.out.nf_ne)
    clear hs1 hb1 hW2 hc2 hb2 hs2 CM
    go_wp2_with fail
    rw [← HC2.out, ← HW2.out]
    refine CR.out.mono ?_
    rintro e w3 ⟨v3, Q3, X, rfl, hs3, hd3, hb3⟩
    have B3 := hidP (step_below B2.out hb3)
    have hr3 := hd3.rest
    have HX3 : Hid (∀ w4, Below w3.heap.size w3 w4 → SeesI w4 v3 X) := fun w4 h => SeesI.below hs3 h
    have HXm : Hid (M q F X pX) := hr3.eq.symm
    have HXp := hidP hr3.pr
    have HXl : Hid (X.length < F.length) := by have := hr3.lt; rw [nf_self HM.out.pl] at this; exact this
    have HS3 : Hid (∀ w4, Below w3.heap.size w3 w4 → SeesI w4 (.slice a1 lf c1) F) := fun w4 h => HS1.out w4 (step_below B3.out h)
    have HI0 : Hid (∃ Y, SeesI w3 v3 Y ∧ Plain q Y ∧ Y.length < F.length ∧ M q F Y (ppow pX (q ^ 0))) := ⟨X, hs3, hr3.pr, HXl.out, HXm.out.trans (.of_ev fun x => by rw [Nat.pow_zero, ev_ppow, Int.pow_succ, Int.pow_zero, Int.one_mul])⟩
    have HB3 : Hid (Below w.heap.size w w3) := step_below B1.out B3.out
    clear hs3 hd3 hb3 hr3 CR HS1 B2
    go_wp2_with fail
    go_loopw [8, 9, 10] (fun v8 v9 v10 wr => ∃ d : Nat, v9 = .int .i64 ((d : Int) + 1) ∧ d ≤ n ∧ Hid (∃ Y, SeesI wr v8 Y ∧ Plain q Y ∧ Y.length < F.length ∧ M q F Y (ppow pX (q ^ d))) ∧ Hid (∀ d', 1 ≤ d' → d' ≤ d → d' < n → d' ∣ n → Cop q F (xq q d')) ∧ Hid (d = n → XF q F n) ∧ Hid (Below w3.heap.size w3 wr)) (fun _ v _ _ => n + 1 - (intOf v).toNat)
    case atStart => exact ⟨0, by go_num, Nat.zero_le _, HI0, fun d' h1 h2 => by omega, fun h => by omega, Below.refl _ _⟩
    case round =>
      clear HI0
      obtain ⟨d, rfl, hd, hY, hC, hE, hB⟩ := hrel
      by_cases hlt : d < n
      · obtain ⟨Y, y1, y2, y3, y4⟩ := hY.out
        have hle : (d : Int) + 1 ≤ (n : Int) := by omega
        have CP := hidP (ref_PW (n := q) y1 (HS3.out wr hB.out) (by omega) (by have := HFn.out; have := Hlf.out; omega) (by have := HFn.out; have := Hlf.out; omega) HQ.out HM.out.nf_ne)
        have HY4 := hidP y4
        have hk1 : IntKind.i64.wrap ((d : Int) + 1 + 1) = (d : Int) + 1 + 1 := by rw [IntKind.wrap_i64]; omega
        clear hY y1 y2 y3 y4 hE
        go_wp2_with fail
        refine CP.out.mono ?_
        rintro e w4 ⟨v4, Z, rfl, hs4, hr4, hb4⟩
        have B4 := hidP (step_below hB.out hb4)
        have HZ4 : Hid (∀ w5, Below w4.heap.size w4 w5 → SeesI w5 v4 Z) := fun w5 h => SeesI.below hs4 h
        have HZm := hidP (rab_next HY4.out hr4)
        have HZl : Hid (Z.length < F.length) := by have := hr4.lt; rw [nf_self HM.out.pl] at this; exact this
        have HZp := hidP hr4.pr
        have CS := hidP (refT_Sub hs4 (HX3.out w4 B4.out) (by have := HZl.out; have := HFn.out; have := Hlf.out; omega) (by have := HXl.out; have := HFn.out; have := Hlf.out; omega) HQ.out)
        clear hs4 hr4 hb4 CP HY4
        go_wp2_with fail
        refine CS.out.mono ?_
        rintro e w5 ⟨v5, rfl, hs5, hb5⟩
        have B5 := hidP (step_below B4.out hb5)
        have HZ5 := hidP (HZ4.out w5 hb5)
        have HZ5' : Hid (∀ w6, Below w5.heap.size w5 w6 → SeesI w6 v4 Z) := fun w6 h => HZ5.out.below h
        have hzl : (nf q (padd Z (psc (-1) X))).length ≤ 4001 := by
          have := nf_len q (padd Z (psc (-1) X)); rw [padd_len, psc_len] at this
          have := HZl.out; have := HXl.out; have := HFn.out; have := Hlf.out; omega
        have CG := hidP (ref_Gcd hs5 (HS3.out w5 B5.out) (by omega) (by have := HFn.out; have := Hlf.out; omega) HQ.out)
        have HGz := hidP fun h (hg : GcdIs q (nf q (padd Z (psc (-1) X))) F h) => rab_gcd HQ.out HM.out (rab_z HZm.out HXm.out) hg
        have HEnd := hidP (rab_end HQ.out HM.out HZm.out HXm.out HXp.out HXl.out HZp.out HZl.out)
        obtain ⟨a5, c5, e5, -⟩ := SeesF.form hs5
        subst e5
        obtain ⟨zl, hzl'⟩ : ∃ zl, (nf q (padd Z (psc (-1) X))).length = zl := ⟨_, rfl⟩
        rw [hzl'] at HEnd hzl
        rw [hzl'] at CG
        rw [hzl']
        clear hs5 hb5 CS HZ4 hzl'
        by_cases hd1 : d + 1 < n
        · have hl1 : (d : Int) + 1 < (n : Int) := by omega
          have hne : (((d : Int) + 1) == (n : Int)) = false := by rw [beq_eq_false_iff_ne]; omega
          have htm : Int.tmod (n : Int) ((d : Int) + 1) = ((n % (d + 1) : Nat) : Int) := by
            rw [Int.tmod_eq_emod_of_nonneg (by omega)]; push_cast; rfl
          have htm2 : (n : Int) % ((d : Int) + 1) = ((n % (d + 1) : Nat) : Int) := by push_cast; rfl
          have hnz : ((d : Int) + 1) ≠ 0 := by omega
          have hmlt : n % (d + 1) < 4002 := by have := Nat.mod_lt n (show 0 < d + 1 by omega); omega
          have hE' : Hid (d + 1 = n → XF q F n) := fun h => by omega
          by_cases hdv : n % (d + 1) = 0
          · have hb0 : (((n % (d + 1) : Nat) : Int) == 0) = true := by rw [hdv]; rfl
            have HDv : Hid (d + 1 ∣ n) := Nat.dvd_of_mod_eq_zero hdv
            rw [hdv] at htm htm2
            clear hdv hb0 hmlt
            go_wp2_with fail
            refine CG.out.mono ?_
            rintro e w6 ⟨v6, h6, rfl, hs6, hg6, hb6⟩
            have B6 := hidP (step_below B5.out hb6)
            have HZ6 := hidP (HZ5'.out w6 hb6)
            have hiff := HGz.out h6 hg6
            obtain ⟨a6, c6, e6, -⟩ := SeesF.form hs6
            subst e6
            obtain ⟨l6, hl6⟩ : ∃ l6, h6.length = l6 := ⟨_, rfl⟩
            rw [hl6] at hiff
            rw [hl6]
            have hl6b : l6 < 9223372036854775808 := by have := hs6.len; omega
            clear hs6 hg6 hb6 CG HGz hl6
            by_cases h1 : l6 = 1
            · subst h1
              have HCn : Hid (∀ d', 1 ≤ d' → d' ≤ d + 1 → d' < n → d' ∣ n → Cop q F (xq q d')) := fun d' a b c e => by
                by_cases hdd : d' = d + 1
                · subst hdd; exact hiff.1 rfl
                · exact hC.out d' a (by omega) c e
              have HYn : Hid (∃ Y, SeesI w6 v4 Y ∧ Plain q Y ∧ Y.length < F.length ∧ M q F Y (ppow pX (q ^ (d + 1)))) := ⟨Z, HZ6.out, HZp.out, HZl.out, HZm.out⟩
              clear hiff HZ6 HZm HZl HZp HEnd HZ5 HZ5'
              go_wp2_with fail
              go_roundw
              case rel => exact ⟨d + 1, by first | rfl | go_num, by omega, HYn, HCn, hE', B6⟩
              case measure => simp [intOf]; omega
            · have hb1 : ((l6 : Int) == 1) = false := by rw [beq_eq_false_iff_ne]; omega
              have HNI : Hid (¬ Irr q F) := HRab.out (d + 1) n (by have := HFn.out; have := Hlf.out; omega) (by omega) hd1 HDv.out (fun hc => h1 (hiff.2 hc))
              have HNI2 : Hid (¬ Irr q (monF q f)) := by show ¬ _; rw [HFe.out]; exact HNI.out
              clear hiff
              go_wp2_with fail
              go_ret
              exact ⟨false, rfl, by simp [HNI2.out], step_below HB3.out B6.out⟩
          · have hb0 : (((n % (d + 1) : Nat) : Int) == 0) = false := by rw [beq_eq_false_iff_ne]; omega
            have HNd : Hid (¬ d + 1 ∣ n) := fun h => hdv (Nat.mod_eq_zero_of_dvd h)
            obtain ⟨mm, hmm⟩ : ∃ mm, n % (d + 1) = mm := ⟨_, rfl⟩
            rw [hmm] at htm htm2 hb0 hmlt
            have HCn : Hid (∀ d', 1 ≤ d' → d' ≤ d + 1 → d' < n → d' ∣ n → Cop q F (xq q d')) := fun d' a b c e => by
              by_cases hdd : d' = d + 1
              · subst hdd; exact absurd e HNd.out
              · exact hC.out d' a (by omega) c e
            have HYn : Hid (∃ Y, SeesI w5 v4 Y ∧ Plain q Y ∧ Y.length < F.length ∧ M q F Y (ppow pX (q ^ (d + 1)))) := ⟨Z, HZ5.out, HZp.out, HZl.out, HZm.out⟩
            clear hdv hmm HZ5 HZm HZl HZp HEnd HZ5' CG HGz
            go_wp2_with fail
            go_roundw
            case rel => exact ⟨d + 1, by first | rfl | go_num, by omega, HYn, HCn, hE', B5⟩
            case measure => simp [intOf]; omega
        · have HN1 : Hid (n = d + 1) := by show n = d + 1; omega
          have hl1 : ¬ (d : Int) + 1 < (n : Int) := by omega
          have hne : (((d : Int) + 1) == (n : Int)) = true := by rw [beq_iff_eq]; omega
          clear CG HGz
          by_cases hz0 : zl = 0
          · subst hz0
            have hE' : Hid (d + 1 = n → XF q F n) := fun _ => by rw [HN1.out]; exact HEnd.out.2 rfl
            have HCn : Hid (∀ d', 1 ≤ d' → d' ≤ d + 1 → d' < n → d' ∣ n → Cop q F (xq q d')) := fun d' a b c e => hC.out d' a (by have := HN1.out; omega) c e
            have HYn : Hid (∃ Y, SeesI w5 v4 Y ∧ Plain q Y ∧ Y.length < F.length ∧ M q F Y (ppow pX (q ^ (d + 1)))) := ⟨Z, HZ5.out, HZp.out, HZl.out, HZm.out⟩
            clear HZ5 HZm HZl HZp HEnd HZ5'
            go_wp2_with fail
            go_roundw
            case rel => exact ⟨d + 1, by first | rfl | go_num, by omega, HYn, HCn, hE', B5⟩
            case measure => simp [intOf]; omega
          · have hb0 : ((zl : Int) == 0) = false := by rw [beq_eq_false_iff_ne]; omega
            have HNI2 : Hid (¬ Irr q (monF q f)) := by
              show ¬ _
              rw [HFe.out]
              intro hi
              have h1 := (HRb.out.1 hi).1
              rw [HFn.out, Hlf.out, Nat.add_sub_cancel, HN1.out] at h1
              exact hz0 (HEnd.out.1 h1)
            go_wp2_with fail
            go_ret
            exact ⟨false, rfl, by simp [HNI2.out], step_below HB3.out B5.out⟩
      · obtain rfl : d = n := by omega
        have hle : ¬ (d : Int) + 1 ≤ (d : Int) := by omega
        have HI : Hid (Irr q (monF q f)) := by
          show Irr _ _
          rw [HFe.out]
          refine HRb.out.2 ⟨by rw [HFn.out, Hlf.out, Nat.add_sub_cancel]; exact hE.out rfl, fun d' a b c => ?_⟩
          rw [HFn.out, Hlf.out, Nat.add_sub_cancel] at b c
          exact hC.out d' a (by omega) b c
        clear hY hC hE
        go_wp2_with fail
        go_ret
        exact ⟨true, rfl, by simp [HI.out], step_below HB3.out hB.out⟩
end Go.Proofs.Ytokdcgmjpnanoaa
