/- The document's DivMod, Rest, Monic and Gcd by their contracts, by a prime. -/
import Derived.Test.YtokdcgmjpnanoaaJaV
import Derived.Test.YtokdcgmjpnanoaaJaJ
import Derived.Test.YtokdcgmjpnanoaaPr5

set_option linter.unusedVariables false
set_option linter.unusedSimpArgs false
namespace Go.Proofs.Ytokdcgmjpnanoaa
open Go.RowKit

theorem invP_invR {q : Nat} (hq : IsP q) {a : Int} (ha : 0 ≤ a ∧ a < q) (h0 : a ≠ 0) : invP a q = invR q a := by
  have h2 := hq.1
  have hm : a % (q : Int) = a := Int.emod_eq_of_lt ha.1 ha.2
  unfold invP powP invR
  rw [if_pos ⟨isP_of hq, by rw [hm]; exact h0⟩, if_pos ⟨by omega, isP_of hq⟩, hm]
  have e : ((q : Int) - 2).toNat = q - 2 := by omega
  rw [e, Int.toNat_natCast]
theorem ref_inv_at {q : Nat} (hq : IsP q) {a : Int} (ha : 0 ≤ a ∧ a < q) (h0 : a ≠ 0) (w : World) : Calls Try.prog 45 #[.int .i64 a, .int .i64 q] w fun e w' => e = .returned (.int .i64 (invR q a)) ∧ Below w.heap.size w w' := by
  have := ref5_inv a (q : Int) (by omega) (by have := hq.2.1; omega) w
  rwa [invP_invR hq ha h0] at this

/-- The literal [z] appended to nil. -/
theorem grown_one (wr : World) (z : Int) : ∃ W cap, W = ((wr.alloc (.cells #[.int .i64 z] 3)).alloc (.cells (#[.int .i64 z] ++ Builtin.zeroCells #[.int .i64 0] (cap - 1)) 3)).drew ∧ cap = (Question.appendCap 1 0 3).cut (wr.tape wr.drawn (Question.appendCap 1 0 3)) ∧ SeesI W (.slice (some ⟨wr.heap.size + 1, 0, none⟩) 1 cap) [z] ∧ Below wr.heap.size wr W := by
  have hc := grownCap_ge wr 1 0 3
  refine ⟨_, _, rfl, rfl, ?_, ((((Below.refl _ wr).alloc (Nat.le_refl _) _).alloc (by simp) _)).drew⟩
  refine ⟨_, _, rfl, hc, by simp, (fun e => by cases e), fun _ => ⟨_, 0, rfl, fun i hi => ?_⟩⟩
  obtain rfl : i = 0 := by simp at hi; omega
  show ((wr.alloc (.cells #[.int .i64 z] 3)).alloc _).cell? ⟨wr.heap.size + 1, 0 + 0, none⟩ = _
  rw [World.cell?_alloc_at _ _ _ _ (by simp), Array.getElem?_append_left (by simp)]
  rfl
/-- One step of the document's division. -/
theorem ref_step {q : Nat} (hq : IsP q) {f g F G Q : List Int} {c : Int} (hG : G = nf q g) (hG0 : G ≠ []) (hF : Plain q F) (hFG : G.length ≤ F.length) (hE : E q f (padd (pmul Q g) F)) (hc : c = F.getD (F.length - 1) 0 * invR q (G.getD (G.length - 1) 0)) :
    E q f (padd (pmul (nf q (padd Q (nf q (pup (F.length - G.length) [c])))) g) (nf q (padd F (psc (-1) (nf q (pmul G (nf q (pup (F.length - G.length) [c])))))))) ∧ (nf q (padd F (psc (-1) (nf q (pmul G (nf q (pup (F.length - G.length) [c]))))))).length < F.length := by
  have hp : Plain q G := by rw [hG]; exact nf_plain (isP_bounds hq).1 g
  have hGl : 0 < G.length := List.length_pos_iff.2 hG0
  obtain ⟨n, hn⟩ : ∃ n, F.length - G.length = n := ⟨_, rfl⟩
  rw [hn]
  obtain ⟨T, hT⟩ : ∃ T, nf q (pup n [c]) = T := ⟨_, rfl⟩
  have eT : E q T (pup n [c]) := by rw [← hT]; exact nf_E q _
  rw [hT]
  have e1 : E q (padd F (psc (-1) (nf q (pmul G T)))) (padd F (psc (-c) (pup n G))) := by
    refine (E.refl q F).add ?_
    refine ((nf_E q (pmul G T)).sc (-1)).trans ((((E.refl q G).mul eT).sc (-1)).trans (.of_ev fun x => ?_))
    simp only [ev_psc, ev_pmul, ev_pup, ev]; grind
  constructor
  · have e2 : E q (pmul (nf q (padd Q T)) g) (pmul (padd Q (pup n [c])) G) := by
      have h1 : E q g G := by rw [hG]; exact (nf_E q g).symm
      exact ((nf_E q _).trans ((E.refl q Q).add eT)).mul h1
    have e3 : E q (pmul Q g) (pmul Q G) := (E.refl q Q).mul (by rw [hG]; exact (nf_E q g).symm)
    refine hE.trans ((e3.add (E.refl q F)).trans ((E.trans (e2.add ((nf_E q _).trans e1)) ?_).symm))
    exact .of_ev fun x => by simp only [ev_padd, ev_pmul, ev_psc, ev_pup, ev]; grind
  · have h0 : ∀ i, F.length - 1 ≤ i → (padd F (psc (-1) (nf q (pmul G T)))).getD i 0 % (q : Int) = 0 := by
      intro i hi
      rw [E_cf e1 i, getD_padd, getD_psc, getD_pup, if_neg (by omega)]
      by_cases e : i = F.length - 1
      · subst e
        have hinv := invR_mul hq (hp.1 (G.length - 1)) (hp.2 hG0)
        rw [show F.length - 1 - n = G.length - 1 by omega, hc]
        obtain ⟨a, ha⟩ : ∃ a, F.getD (F.length - 1) 0 = a := ⟨_, rfl⟩
        obtain ⟨b, hb⟩ : ∃ b, G.getD (G.length - 1) 0 = b := ⟨_, rfl⟩
        rw [ha, hb]
        rw [hb] at hinv
        have h3 : a + -(a * invR q b) * b = a - a * (b * invR q b) := by grind
        rw [h3, Int.sub_emod, Int.mul_emod a (b * invR q b), hinv, Int.mul_one, Int.emod_emod_of_dvd _ (Int.dvd_refl _), Int.sub_self]; rfl
      · rw [getD_over' F i (by omega), getD_over' G _ (by omega)]; simp
    have := short_nf h0
    omega

set_option maxRecDepth 100000 in
set_option maxHeartbeats 4000000 in
theorem ref_DivMod {vf vg : Value} {q : Nat} {f g : List Int} {w : World} (hf : SeesI w vf f) (hg : SeesI w vg g) (hlf : f.length ≤ 16384) (hlg : g.length ≤ 16384) (hq : IsP q) :
    Calls Try.prog 52 #[vf, vg, .int .i64 q] w fun e w' =>
      (nf q g = [] ∧ e = .returned (.tuple #[.slice none 0 0, .slice none 0 0, .int .i64 30]) ∧ Below w.heap.size w w') ∨
      (∃ vq vr Q R, e = .returned (.tuple #[vq, vr, .int .i64 0]) ∧ DivIs q f g Q R ∧ SeesI w' vq Q ∧ SeesI w' vr R ∧ Below w.heap.size w w') := by
  obtain ⟨hq0, hq2⟩ := isP_bounds hq
  have IS := hidP (fun w => ref_is_prime hq w)
  have PL : Hid (∀ v l w, SeesI w v l → l.length ≤ 65536 → Calls Try.prog 43 #[v, .int .i64 q] w fun e w' => Tells (nf q l) w e w') := fun v l w h hl => ref_Plain h hl hq
  have HFv : Hid (∀ w1, Below w.heap.size w w1 → SeesI w1 vf f) := fun w1 h => SeesI.below hf h
  have HGv : Hid (∀ w1, Below w.heap.size w w1 → SeesI w1 vg g) := fun w1 h => SeesI.below hg h
  have hlf2 := nf_len q f
  have hlg2 := nf_len q g
  have CAd : Hid (∀ w1 v u X Y, SeesI w1 v X → SeesI w1 u Y → X.length ≤ 65536 → Y.length ≤ 65536 → Calls Try.prog 54 #[v, u, .int .i64 q] w1 fun e w' => Tells (nf q (padd X Y)) w1 e w') := fun w1 v u X Y h1 h2 h3 h4 => by
    have := ref_Add (p := (q : Int)) h1 h2 h3 h4 (by omega) (by omega)
    rwa [nfZ_prime hq] at this
  have CSu : Hid (∀ w1 v u X Y, SeesI w1 v X → SeesI w1 u Y → X.length ≤ 65536 → Y.length ≤ 65536 → Calls Try.prog 28 #[v, u, .int .i64 q] w1 fun e w' => Tells (nf q (padd X (psc (-1) Y))) w1 e w') := fun w1 v u X Y h1 h2 h3 h4 => by
    have := ref_Sub (p := (q : Int)) h1 h2 h3 h4 (by omega) (by omega)
    rwa [nfZ_prime hq] at this
  have CMu : Hid (∀ w1 v u X Y, SeesI w1 v X → SeesI w1 u Y → X.length ≤ 16384 → Y.length ≤ 16384 → Calls Try.prog 53 #[v, u, .int .i64 q] w1 fun e w' => Tells (nf q (pmul X Y)) w1 e w') := fun w1 v u X Y h1 h2 h3 h4 => ref_Mul h1 h2 h3 h4 hq
  clear hf hg
  by_cases h0 : nf q g = []
  · have HZ := hidP h0
    clear hlf2 hlg2
    go_enter Try.func52, Try.ntmps52
    go_wp2_with fail
    refine (IS.out _).mono ?_
    rintro e w1 ⟨rfl, hb1⟩
    have B1 := hidP hb1
    have C1 := hidP (PL.out vf f w1 (HFv.out w1 hb1) (by omega))
    clear hb1
    go_wp2_with fail
    refine C1.out.mono ?_
    rintro e w2 ⟨v2, rfl, hs2, hb2⟩
    have B2 := hidP (step_below B1.out hb2)
    have C2 := hidP (PL.out vg g w2 (HGv.out w2 B2.out) (by omega))
    rw [HZ.out] at C2
    clear hs2 hb2
    go_wp2_with fail
    refine C2.out.mono ?_
    rintro e w3 ⟨v3, rfl, hs3, hb3⟩
    obtain ⟨a3, c3, rfl, hc3⟩ := SeesF.form hs3
    have B3 := hidP (step_below B2.out hb3)
    clear hs3 hb3 hc3
    go_wp2_with fail
    go_ret3
    exact Or.inl ⟨HZ.out, rfl, B3.out⟩
  · have hplG := nf_plain hq0 g
    have HStep : Hid (∀ F Q c, Plain q F → (nf q g).length ≤ F.length → E q f (padd (pmul Q g) F) → c = F.getD (F.length - 1) 0 * invR q ((nf q g).getD ((nf q g).length - 1) 0) → E q f (padd (pmul (nf q (padd Q (nf q (pup (F.length - (nf q g).length) [c])))) g) (nf q (padd F (psc (-1) (nf q (pmul (nf q g) (nf q (pup (F.length - (nf q g).length) [c])))))))) ∧ (nf q (padd F (psc (-1) (nf q (pmul (nf q g) (nf q (pup (F.length - (nf q g).length) [c]))))))).length < F.length) := fun F Q c h1 h2 h3 h4 => ref_step hq rfl h0 h1 h2 h3 h4
    have CI := hidP fun w => ref_inv_at hq (hplG.1 ((nf q g).length - 1)) (hplG.2 h0) w
    have hIR := invR_range hq0 ((nf q g).getD ((nf q g).length - 1) 0)
    have HFp := hidP (nf_plain hq0 f)
    have HF0 : Hid (E q f (padd (pmul [] g) (nf q f))) := (nf_E q f).symm.trans (.of_ev fun x => by rw [ev_padd, ev_pmul, ev_nil]; simp)
    have HNP : Hid (∀ l, Plain q (nf q l)) := fun l => nf_plain hq0 l
    obtain ⟨G, hG⟩ : ∃ G, nf q g = G := ⟨_, rfl⟩
    have HGe := hidP hG
    rw [hG] at hlg2 h0 CI hIR HStep hplG
    obtain ⟨N, hN⟩ : ∃ N, G.length = N + 1 := ⟨G.length - 1, by have := List.length_pos_iff.2 h0; omega⟩
    have HNl := hidP hN
    have eN : G.length - 1 = N := by omega
    rw [eN] at CI hIR HStep
    obtain ⟨c0, hc0⟩ : ∃ c0, G.getD N 0 = c0 := ⟨_, rfl⟩
    have HC0 := hidP hc0
    rw [hc0] at CI hIR HStep
    obtain ⟨iv, hiv⟩ : ∃ iv, invR q c0 = iv := ⟨_, rfl⟩
    rw [hiv] at CI hIR HStep
    obtain ⟨iv0, iv1⟩ := hIR
    have e1 : (G.length : Int) - 1 = (N : Int) := by omega
    have hwN : IntKind.i64.wrap (N : Int) = (N : Int) := by rw [IntKind.wrap_i64]; omega
    have hlN : (N : Int) < (G.length : Int) := by omega
    have hb0 : ((G.length : Int) == 0) = false := by rw [beq_eq_false_iff_ne]; omega
    have hFl : (nf q f).length ≤ 16384 := by omega
    have hGl : G.length ≤ 16384 := by omega
    have hFr : Hid (Res q (nf q f)) := HFp.out.1
    obtain ⟨i0, hi, hz0, hz1, hz2⟩ := info_parts info_int
    have HI := hidP hi
    have HI0 := hidP hz0
    have HI1 := hidP hz1
    have HI2 := hidP hz2
    clear hi hz0 hz1 hz2

    have hlf6 : f.length ≤ 65536 := by omega
    have hlg6 : g.length ≤ 65536 := by omega
    clear hq h0 hG hc0 hiv eN hplG hlf2 hlg2 hlf hlg hN
    go_enter Try.func52, Try.ntmps52
    go_wp2_with fail
    refine (IS.out _).mono ?_
    rintro e w1 ⟨rfl, hb1⟩
    have B1 := hidP hb1
    have C1 := hidP (PL.out vf f w1 (HFv.out w1 hb1) hlf6)
    clear hb1
    go_wp2_with fail
    refine C1.out.mono ?_
    rintro e w2 ⟨v2, rfl, hs2, hb2⟩
    have B2 := hidP (step_below B1.out hb2)
    have C2 := hidP (PL.out vg g w2 (HGv.out w2 B2.out) hlg6)
    rw [HGe.out] at C2
    have HS2 := hidP hs2
    clear hs2 hb2
    go_wp2_with fail
    refine C2.out.mono ?_
    rintro e w3 ⟨v3, rfl, hs3, hb3⟩
    have HS3 := hidP (HS2.out.below hb3)
    have HGs : Hid (∀ w4, Below w3.heap.size w3 w4 → SeesI w4 v3 G) := fun w4 h => SeesI.below hs3 h
    obtain ⟨a3, c3, rfl, hc3⟩ := SeesF.form hs3
    obtain ⟨b3, o3, e3, hcell⟩ := hs3.at (by have := HNl.out; omega)
    subst e3
    have hc1 := hcell N (by have := HNl.out; omega)
    rw [HC0.out] at hc1
    have B3 := hidP (step_below B2.out hb3)
    clear hs3 hb3 hcell HS2
    go_wp2_with fail
    refine (CI.out _).mono ?_
    rintro e w4 ⟨rfl, hb4⟩
    have HB4 := hidP hb4
    have HS4 := hidP (HS3.out.below hb4)
    obtain ⟨a2, c2, e2, hc2⟩ := SeesF.form HS4.out
    subst e2
    clear hb4 HS3
    go_wp2_with fail
    go_loopg [0, 10, 11] (nf q f).length (fun gm v0 v10 v11 wr => ∃ n cp ao, n = gm ∧ n ≤ 16384 ∧ v0 = .slice ao n cp ∧ Hid (∃ F Q, F.length = n ∧ Q.length ≤ 32768 ∧ Plain q F ∧ Plain q Q ∧ E q f (padd (pmul Q g) F) ∧ SeesI wr (.slice ao n cp) F ∧ SeesI wr v10 Q) ∧ Hid (Below w3.heap.size w3 wr))
    case atStart => exact ⟨_, c2, a2, rfl, hFl, rfl, ⟨nf q f, [], rfl, by simp, HFp.out, Plain.nil q hq0, HF0.out, HS4.out, SeesF.nil _⟩, HB4⟩
    case round =>
      clear HS4 HB4
      obtain ⟨n, cp, ao, rfl, hn, rfl, hst, hB⟩ := hrel
      by_cases hlt : G.length ≤ n
      · obtain ⟨F, Q, f1, f2, f3, f4, f5, f6, f7⟩ := hst.out
        clear hst
        obtain ⟨M, hM⟩ : ∃ M, n = M + 1 := ⟨n - 1, by have := HNl.out; omega⟩
        have hGp : 0 < G.length := by have := HNl.out; omega
        obtain ⟨b1, o1, e1', hcell⟩ := f6.at (by omega)
        subst e1'
        have hcf := hcell M (by omega)
        have hrg := f3.1 M
        have hst2 := HStep.out F Q (F.getD (F.length - 1) 0 * iv) f3 (by omega) f5 rfl
        rw [show F.length - 1 = M by omega, f1] at hst2
        have HSQ := hidP f7
        have HSF := hidP f6
        obtain ⟨x, hx⟩ : ∃ x, F.getD M 0 = x := ⟨_, rfl⟩
        rw [hx] at hcf hrg hst2
        have hbd := prod_bound hrg.1 hrg.2 iv0 iv1 hq2
        obtain ⟨z, hz⟩ : ∃ z, x * iv = z := ⟨_, rfl⟩
        rw [hz] at hst2 hbd
        obtain ⟨d, hd⟩ : ∃ d, n - G.length = d := ⟨_, rfl⟩
        rw [hd] at hst2
        have hdl : d + 1 ≤ 16384 := by omega
        have HF1 : Hid (F.length ≤ 65536) := by show _ ≤ _; omega
        have hpl : (pup d [z]).length ≤ 65536 := by rw [pup_len]; simp; omega
        have hTl : (nf q (pup d [z])).length ≤ 16384 := by have := nf_len q (pup d [z]); rw [pup_len] at this; simp at this; omega
        have hPl : (nf q (pmul G (nf q (pup d [z])))).length ≤ 65536 := by
          have h1 := nf_len q (pmul G (nf q (pup d [z])))
          have h2 := pmul_len G (nf q (pup d [z]))
          omega
        have hQl : (nf q (padd Q (nf q (pup d [z])))).length ≤ 32768 := by
          have h1 := nf_len q (padd Q (nf q (pup d [z])))
          rw [padd_len] at h1
          omega
        have HQl0 : Hid (Q.length ≤ 65536) := by show _ ≤ _; omega
        obtain ⟨T, hT⟩ : ∃ T, nf q (pup d [z]) = T := ⟨_, rfl⟩
        have HT := hidP hT
        rw [hT] at hst2 hTl hPl hQl
        obtain ⟨Pr, hPr⟩ : ∃ Pr, nf q (pmul G T) = Pr := ⟨_, rfl⟩
        have HPr := hidP hPr
        rw [hPr] at hst2 hPl
        obtain ⟨Q2, hQ2⟩ : ∃ Q2, nf q (padd Q T) = Q2 := ⟨_, rfl⟩
        have HQ2 := hidP hQ2
        have hQ2p : Plain q Q2 := by rw [← hQ2]; exact HNP.out _
        rw [hQ2] at hst2 hQl
        obtain ⟨F2, hF2⟩ : ∃ F2, nf q (padd F (psc (-1) Pr)) = F2 := ⟨_, rfl⟩
        have HF2 := hidP hF2
        have hF2p : Plain q F2 := by rw [← hF2]; exact HNP.out _
        rw [hF2] at hst2
        have HR := hidP (And.intro hst2.1 (And.intro hQ2p (And.intro hF2p hQl)))
        have hF2l := hst2.2
        have HPl := hidP hPl
        have HTl := hidP hTl
        have HTl6 : Hid (T.length ≤ 65536) := by show _ ≤ _; omega
        have HGl := hidP hGl
        have HPup := hidP hpl
        have em1 : (n : Int) - 1 = (M : Int) := by omega
        have hwM : IntKind.i64.wrap (M : Int) = (M : Int) := by rw [IntKind.wrap_i64]; omega
        have hMn : (M : Int) < (n : Int) := by omega
        have hwz : IntKind.i64.wrap (x * iv) = z := by rw [hz, IntKind.wrap_i64]; omega
        have hwz2 : RowKit.wrap64 (x * iv) = z := by rw [hz]; unfold RowKit.wrap64; omega
        obtain ⟨w5, c5, hW5, hc5, hs5, hb5⟩ := grown_one wr z
        have ed : (n : Int) - (G.length : Int) = (d : Int) := by omega
        have hwd : IntKind.i64.wrap (d : Int) = (d : Int) := by rw [IntKind.wrap_i64]; omega
        have HSz : Hid (w3.heap.size ≤ wr.heap.size) := hB.out.size
        have hlt' : (n : Int) ≥ (G.length : Int) := by omega
        have hd13 : d ≤ 131072 := by omega
        clear f1 f2 f3 f4 f5 f6 f7 hst2 hcell hrg hx hbd hz hd hT hPr hQ2 hF2 hQ2p hF2p hPl hTl hpl hQl hdl hM hGp
        have HW5 := hidP hW5
        have HC5 := hidP hc5
        have HB5 := hidP hb5
        have CU := hidP (ref_up (n := d) hs5 (by simp) hd13)
        clear hW5 hc5 hb5 hs5
        go_wp2_with fail
        rw [← HC5.out, ← HW5.out]
        refine CU.out.mono ?_
        rintro e w6 ⟨v6, rfl, hs6, hb6⟩
        have B6 := hidP (step_below HB5.out hb6)
        have C6 := hidP (PL.out v6 _ w6 hs6 HPup.out)
        rw [HT.out] at C6
        clear hs6 hb6 CU
        go_wp2_with fail
        refine C6.out.mono ?_
        rintro e w7 ⟨v7, rfl, hs7, hb7⟩
        have B7 := hidP (step_below B6.out hb7)
        have C7 := hidP (CAd.out w7 _ v7 Q T (HSQ.out.below B7.out) hs7 HQl0.out HTl6.out)
        rw [HQ2.out] at C7
        have HS7 := hidP hs7
        clear hs7 hb7 C6
        go_wp2_with fail
        refine C7.out.mono ?_
        rintro e w8 ⟨v8, rfl, hs8, hb8⟩
        have B8 := hidP (step_below B7.out hb8)
        have C8 := hidP (CMu.out w8 _ v7 G T (HGs.out w8 (step_below hB.out B8.out)) (HS7.out.below hb8) HGl.out HTl.out)
        rw [HPr.out] at C8
        have HS8 := hidP hs8
        clear hs8 hb8 C7
        go_wp2_with fail
        refine C8.out.mono ?_
        rintro e w9 ⟨v9, rfl, hs9, hb9⟩
        have B9 := hidP (step_below B8.out hb9)
        have C9 := hidP (CSu.out w9 _ v9 F Pr (HSF.out.below B9.out) hs9 HF1.out HPl.out)
        rw [HF2.out] at C9
        have HS9 := hidP (HS8.out.below hb9)
        clear hs9 hb9 C8 HS8
        go_wp2_with fail
        refine C9.out.mono ?_
        rintro e wA ⟨vA, rfl, hsA, hbA⟩
        have BA := hidP (step_below hB.out (step_below B9.out hbA))
        obtain ⟨aA, cA, eA, hcA⟩ := SeesF.form hsA
        subst eA
        obtain ⟨nA, hnA⟩ : ∃ nA, F2.length = nA := ⟨_, rfl⟩
        have HI9 : Hid (∃ F Q, F.length = nA ∧ Q.length ≤ 32768 ∧ Plain q F ∧ Plain q Q ∧ E q f (padd (pmul Q g) F) ∧ SeesI wA (.slice aA nA cA) F ∧ SeesI wA v8 Q) := ⟨F2, Q2, hnA, HR.out.2.2.2, HR.out.2.2.1, HR.out.2.1, HR.out.1, by rw [← hnA]; exact hsA, HS9.out.below hbA⟩
        rw [hnA] at hF2l ⊢
        have hnA2 : nA ≤ 16384 := by omega
        clear hsA hbA C9 HS9 hnA HR
        go_wp2_with fail
        go_roundg nA
        case rel => exact ⟨nA, cA, aA, rfl, hnA2, rfl, HI9, BA⟩
        case measure => omega
      · have hlt' : ¬ (n : Int) ≥ (G.length : Int) := by omega
        have HEnd : Hid (∃ Q R, DivIs q f g Q R ∧ SeesI wr u10 Q ∧ SeesI wr (.slice ao n cp) R) := by
          obtain ⟨F, Q, f1, f2, f3, f4, f5, f6, f7⟩ := hst.out
          exact ⟨Q, F, ⟨f5, f4, f3, by rw [HGe.out]; omega⟩, f7, f6⟩
        clear hst
        go_wp2_with fail
        go_ret3
        obtain ⟨Q, R, h1, h2, h3⟩ := HEnd.out
        refine Or.inr ?_
        first
        | exact ⟨_, _, rfl, Q, R, h1, h2, h3, step_below B3.out hB.out⟩
        | exact ⟨_, _, Q, R, rfl, h1, h2, h3, step_below B3.out hB.out⟩

set_option maxRecDepth 100000 in
theorem ref_Rest {vf vg : Value} {q : Nat} {f g : List Int} {w : World} (hf : SeesI w vf f) (hg : SeesI w vg g) (hlf : f.length ≤ 16384) (hlg : g.length ≤ 16384) (hq : IsP q) (h0 : nf q g ≠ []) :
    Calls Try.prog 26 #[vf, vg, .int .i64 q] w fun e w' => ∃ v Q R, e = .returned v ∧ SeesI w' v R ∧ DivIs q f g Q R ∧ Below w.heap.size w w' := by
  have C := hidP (ref_DivMod hf hg hlf hlg hq)
  have H0 := hidP h0
  clear hf hg hq h0
  go_enter Try.func26, Try.ntmps26
  go_wp2_with fail
  refine C.out.mono ?_
  rintro e w1 (⟨hz, -, -⟩ | ⟨vq, vr, Q, R, rfl, hd, hs1, hs2, hb⟩)
  · exact absurd hz H0.out
  · have HD := hidP hd
    have HS := hidP hs2
    have HB := hidP hb
    clear hd hs1 hs2 hb
    go_wp2_with fail
    go_ret
    exact ⟨_, Q, R, rfl, HS.out, HD.out, HB.out⟩

set_option maxRecDepth 100000 in
theorem ref_Monic {vf : Value} {q : Nat} {f : List Int} {w : World} (hf : SeesI w vf f) (hlf : f.length ≤ 65536) (hq : IsP q) :
    Calls Try.prog 22 #[vf, .int .i64 q] w fun e w' => Tells (mon q (nf q f)) w e w' := by
  obtain ⟨hq0, hq2⟩ := isP_bounds hq
  have C1 := hidP (ref_Plain hf hlf hq)
  have hlf2 := nf_len q f
  have hpl := nf_plain hq0 f
  have CS : Hid (∀ w1 v X c, SeesI w1 v X → X.length ≤ 65536 → Calls Try.prog 44 #[v, .int .i64 c, .int .i64 q] w1 fun e w' => Tells (nf q (psc c X)) w1 e w') := fun w1 v X c h hl => by
    have := ref_Scale (p := (q : Int)) (c := c) h hl (by omega) (by omega)
    rwa [nfZ_prime hq] at this
  by_cases h0 : nf q f = []
  · have HM : Hid (mon q (nf q f) = []) := by show _ = _; unfold mon; rw [if_pos h0]
    rw [HM.out]
    rw [h0] at C1
    clear hf hq h0 hpl hlf2
    go_enter Try.func22, Try.ntmps22
    go_wp2_with fail
    refine C1.out.mono ?_
    rintro e w1 ⟨v1, rfl, hs1, hb1⟩
    obtain ⟨a1, c1, rfl, hc1⟩ := SeesF.form hs1
    have HS := hidP hs1
    have B1 := hidP hb1
    clear hs1 hb1 hc1
    go_wp2_with fail
    go_ret
    exact ⟨_, rfl, HS.out, B1.out⟩
  · have HM : Hid (mon q (nf q f) = nf q (psc (invR q ((nf q f).getD ((nf q f).length - 1) 0)) (nf q f))) := by show _ = _; unfold mon; rw [if_neg h0]
    rw [HM.out]
    have CI := hidP fun w => ref_inv_at hq (hpl.1 ((nf q f).length - 1)) (hpl.2 h0) w
    obtain ⟨N, hN⟩ : ∃ N, (nf q f).length = N + 1 := ⟨(nf q f).length - 1, by have := List.length_pos_iff.2 h0; omega⟩
    have eN : (nf q f).length - 1 = N := by omega
    rw [eN] at CI ⊢
    obtain ⟨F, hF⟩ : ∃ F, nf q f = F := ⟨_, rfl⟩
    rw [hF] at CI C1 hN hlf2 ⊢
    obtain ⟨c, hc⟩ : ∃ c, F.getD N 0 = c := ⟨_, rfl⟩
    have HC := hidP hc
    rw [hc] at CI ⊢
    obtain ⟨u, hu⟩ : ∃ u, invR q c = u := ⟨_, rfl⟩
    rw [hu] at CI ⊢
    have e1 : (F.length : Int) - 1 = (N : Int) := by omega
    have hwN : IntKind.i64.wrap (N : Int) = (N : Int) := by rw [IntKind.wrap_i64]; omega
    have hlN : (N : Int) < (F.length : Int) := by omega
    have hb0 : ((F.length : Int) == 0) = false := by rw [beq_eq_false_iff_ne]; omega
    have HNl := hidP hN
    have HlF : Hid (F.length ≤ 65536) := by show _ ≤ _; omega
    clear hf hq h0 hpl hF hc hu eN HM hN
    go_enter Try.func22, Try.ntmps22
    go_wp2_with fail
    refine C1.out.mono ?_
    rintro e w1 ⟨v1, rfl, hs1, hb1⟩
    have B1 := hidP hb1
    have HS1 := hidP hs1
    obtain ⟨a1, c1, rfl, hc1⟩ := SeesF.form hs1
    obtain ⟨b1, o1, e2, hcell⟩ := hs1.at (by have := HNl.out; omega)
    subst e2
    have hcN := hcell N (by have := HNl.out; omega)
    rw [HC.out] at hcN
    clear hs1 hb1 hcell C1
    go_wp2_with fail
    refine (CI.out _).mono ?_
    rintro e w2 ⟨rfl, hb2⟩
    have B2 := hidP (step_below B1.out hb2)
    have C2 := hidP (CS.out w2 _ F u (HS1.out.below hb2) HlF.out)
    clear hb2
    go_wp2_with fail
    refine C2.out.mono ?_
    rintro e w3 ⟨v3, rfl, hs3, hb3⟩
    have HS3 := hidP hs3
    have B3 := hidP (step_below B2.out hb3)
    clear hs3 hb3
    go_wp2_with fail
    go_ret
    exact ⟨_, rfl, HS3.out, B3.out⟩

theorem mon_gcd {q : Nat} (hq : IsP q) {F f g : List Int} (hF : Plain q F) (h : Both q F [] f g) : GcdIs q f g (mon q (nf q F)) := by
  rw [nf_self hF]
  obtain ⟨c, c', h1, -, -, h4, -⟩ := mon_unit hq hF
  refine ⟨(mon_mon hq hF).1, ?_⟩
  exact (Both.unit (d := 1) (d' := 1) (g := []) (G := []) h1 rfl h4 (.of_ev fun x => by rw [ev_psc, ev_nil]; simp)).trans h

set_option maxRecDepth 100000 in
set_option maxHeartbeats 2000000 in
theorem ref_Gcd {vf vg : Value} {q : Nat} {f g : List Int} {w : World} (hf : SeesI w vf f) (hg : SeesI w vg g) (hlf : f.length ≤ 16384) (hlg : g.length ≤ 16384) (hq : IsP q) :
    Calls Try.prog 29 #[vf, vg, .int .i64 q] w fun e w' => ∃ v d, e = .returned v ∧ SeesI w' v d ∧ GcdIs q f g d ∧ Below w.heap.size w w' := by
  obtain ⟨hq0, hq2⟩ := isP_bounds hq
  have HGv : Hid (∀ w1, Below w.heap.size w w1 → SeesI w1 vg g) := fun w1 h => SeesI.below hg h
  have C1 := hidP (ref_Plain hf (by omega) hq)
  have C2 : Hid (∀ w1, Below w.heap.size w w1 → Calls Try.prog 43 #[vg, .int .i64 q] w1 fun e w' => Tells (nf q g) w1 e w') := fun w1 h => ref_Plain (HGv.out w1 h) (by omega) hq
  have hlf2 := nf_len q f
  have hlg2 := nf_len q g
  have HSt : Hid (Both q (nf q f) (nf q g) f g) := Both.unit (c := 1) (c' := 1) (d := 1) (d' := 1) rfl rfl ((nf_E q f).trans (.of_ev fun x => by rw [ev_psc, Int.one_mul])) ((nf_E q g).trans (.of_ev fun x => by rw [ev_psc, Int.one_mul]))
  have HQ := hidP hq
  have HPf := hidP (nf_plain hq0 f)
  have HPg := hidP (nf_plain hq0 g)
  obtain ⟨n0, hn0⟩ : ∃ n0, (nf q g).length = n0 := ⟨_, rfl⟩
  have HN0 := hidP hn0
  have hl1 : (nf q f).length ≤ 16384 := by omega
  have hl2 : n0 ≤ 16384 := by omega
  have HL1 := hidP hl1
  clear hf hg hq hlf2 hlg2 hn0 hl1
  go_enter Try.func29, Try.ntmps29
  go_wp2_with fail
  refine C1.out.mono ?_
  rintro e w1 ⟨v1, rfl, hs1, hb1⟩
  have B1 := hidP hb1
  have HS1 := hidP hs1
  clear hs1 hb1
  go_wp2_with fail
  refine (C2.out _ B1.out).mono ?_
  rintro e w2 ⟨v2, rfl, hs2, hb2⟩
  have B2 := hidP (step_below B1.out hb2)
  have HS2 := hidP (HS1.out.below hb2)
  obtain ⟨a2, c2, e2, hc2⟩ := SeesF.form hs2
  rw [HN0.out] at e2
  subst e2
  have HS3 := hidP hs2
  clear hs2 hb2 HS1 hc2
  go_wp2_with fail
  go_loopg [0, 1] n0 (fun gm v0 v1 wr => ∃ n cp ao, n = gm ∧ n ≤ 16384 ∧ v1 = .slice ao n cp ∧ Hid (∃ F G, G.length = n ∧ F.length ≤ 16384 ∧ Plain q F ∧ Plain q G ∧ Both q F G f g ∧ SeesI wr v0 F ∧ SeesI wr (.slice ao n cp) G) ∧ Hid (Below w.heap.size w wr))
  case atStart => exact ⟨_, c2, a2, rfl, hl2, rfl, ⟨_, _, HN0.out, HL1.out, HPf.out, HPg.out, HSt.out, HS2.out, HS3.out⟩, B2⟩
  case round =>
    clear HS2 HS3 B2
    obtain ⟨n, cp, ao, rfl, hn, rfl, hst, hB⟩ := hrel
    obtain ⟨F, G, f1, f2, f3, f4, f5, f6, f7⟩ := hst.out
    clear hst
    rcases Nat.eq_zero_or_pos n with h0 | h0
    · subst h0
      have G0 : G = [] := List.eq_nil_of_length_eq_zero f1
      subst G0
      have HG := hidP (mon_gcd HQ.out f3 f5)
      have CM := hidP (ref_Monic f6 (by omega) HQ.out)
      clear f1 f2 f3 f4 f5 f6 f7
      go_wp2_with fail
      refine CM.out.mono ?_
      rintro e w3 ⟨v3, rfl, hs3, hb3⟩
      have HS3 := hidP hs3
      have B3 := hidP (step_below hB.out hb3)
      clear hs3 hb3
      go_wp2_with fail
      go_ret
      exact ⟨_, _, rfl, HS3.out, HG.out, B3.out⟩
    · have G0 : nf q G ≠ [] := by rw [nf_self f4]; exact List.length_pos_iff.1 (by omega)
      have CR := hidP (ref_Rest f6 f7 f2 (by omega) HQ.out G0)
      have HSG := hidP f7
      have HNx : Hid (∀ Q R, DivIs q F G Q R → R.length < n ∧ Plain q R ∧ Both q G R f g) := fun Q R h => ⟨by have := h.lt; rw [nf_self f4] at this; omega, h.pr, (Both.step h.eq).trans f5⟩
      have HG1 := hidP (And.intro f1 f4)
      have hn0 : (n : Int) > 0 := by omega
      clear f1 f2 f3 f4 f5 f6 f7 G0
      go_wp2_with fail
      refine CR.out.mono ?_
      rintro e w3 ⟨v3, Q, R, rfl, hs3, hd, hb3⟩
      have hnx := HNx.out Q R hd
      have B3 := hidP (step_below hB.out hb3)
      obtain ⟨a3, c3, e3, hc3⟩ := SeesF.form hs3
      obtain ⟨n3, hn3⟩ : ∃ n3, R.length = n3 := ⟨_, rfl⟩
      rw [hn3] at e3 hnx
      subst e3
      have hlt3 := hnx.1
      have HI3 : Hid (∃ F G, G.length = n3 ∧ F.length ≤ 16384 ∧ Plain q F ∧ Plain q G ∧ Both q F G f g ∧ SeesI w3 (.slice ao n cp) F ∧ SeesI w3 (.slice a3 n3 c3) G) := ⟨G, R, hn3, by have := HG1.out.1; omega, HG1.out.2, hnx.2.1, hnx.2.2, HSG.out.below hb3, hs3⟩
      have hn3' : n3 ≤ 16384 := by omega
      clear hs3 hd hb3 hnx hn3 HNx HSG HG1 CR hc3
      go_wp2_with fail
      go_roundg n3
      case rel => exact ⟨n3, c3, a3, rfl, hn3', rfl, HI3, B3⟩
      case measure => omega
end Go.Proofs.Ytokdcgmjpnanoaa
