/- modular.Gcd by its contract, by a prime. -/
import Derived.Test.YtokdcgmjpnanoaaJaI

set_option linter.unusedVariables false
set_option linter.unusedSimpArgs false
namespace Go.Proofs.Ytokdcgmjpnanoaa
open Go.RowKit

theorem Both.start {q : Nat} (hq : IsP q) (f g : List Int) : Both q (mon q (nf q f)) (mon q (nf q g)) f g := by
  obtain ⟨c, c', h1, -, -, h4, -⟩ := mon_unit hq (nf_plain (isP_bounds hq).1 f)
  obtain ⟨d, d', k1, -, -, k4, -⟩ := mon_unit hq (nf_plain (isP_bounds hq).1 g)
  exact Both.unit h1 k1 (h4.trans ((nf_E q f).sc c)) (k4.trans ((nf_E q g).sc d))
theorem Both.next {q : Nat} (hq : IsP q) {F G f g Q R : List Int} (h : Both q F G f g) (hd : Divided q F G Q R) : Both q G (mon q R) f g := by
  obtain ⟨c, c', h1, -, -, h4, -⟩ := mon_unit hq hd.pr
  have h2 : Both q G (mon q R) G R := Both.unit (c := 1) (c' := 1) rfl h1 (.of_ev fun x => by rw [ev_psc, Int.one_mul]) h4
  exact h2.trans ((Both.step hd.eq).trans h)

set_option maxRecDepth 100000 in
set_option maxHeartbeats 2000000 in
theorem mod_Gcd {vf vg : Value} {q : Nat} {f g : List Int} {w : World} (hf : SeesI w vf f) (hg : SeesI w vg g) (hlf : f.length ≤ 65536) (hlg : g.length ≤ 65536) (hq : IsP q) :
    Calls Try.prog 34 #[vf, vg, .int .i64 q] w fun e w' => ∃ v d, e = .returned v ∧ SeesI w' v d ∧ GcdIs q f g d ∧ d.length ≤ 65536 ∧ Below w.heap.size w w' := by
  obtain ⟨hq0, hq2⟩ := isP_bounds hq
  have PF := plain_at hq hf hlf
  have PG := plain_at hq hg hlg
  have IS := hidP (fun w => is_prime hq w)
  have CM : Hid (∀ v k w l, Plain q l → Mine w k v l → Calls Try.prog 56 #[v, .int .i64 q] w fun e w' => ∃ v', e = .returned v' ∧ Mine w' k v' (mon q l) ∧ w.grownBy w' (some k)) := fun v k w l hp h => mod_monic h hq hp
  have hlf2 := nf_len q f
  have hlg2 := nf_len q g
  have HF := hidP (mon_mon hq (nf_plain hq0 f))
  have HGm := hidP (mon_mon hq (nf_plain hq0 g))
  have HSt := hidP (Both.start hq f g)
  have HQ := hidP hq
  have HL : Hid ((mon q (nf q f)).length ≤ 65536 ∧ (mon q (nf q g)).length ≤ 65536) := by
    have h1 := HF.out.2; have h2 := HGm.out.2
    show _ ∧ _
    omega
  clear hf hg hq hlf2 hlg2
  go_enter Try.func34, Try.ntmps34
  go_wp2_with fail
  refine (IS.out _).mono ?_
  rintro e w1 ⟨rfl, hb1⟩
  have B1 := hidP hb1
  clear hb1
  go_wp2_with fail
  refine (PF.out _ B1.out).mono ?_
  rintro e w2 ⟨v2, g2, rfl, hg2, hm2, hb2⟩
  have B2 := hidP (step_below B1.out hb2)
  have HG2 : Hid (w.heap.size ≤ g2) := Nat.le_trans B1.out.size hg2
  have C2 := hidP (CM.out v2 g2 w2 _ (nf_plain hq0 f) hm2)
  clear hg2 hm2 hb2
  go_wp2_with fail
  refine C2.out.mono ?_
  rintro e w3 ⟨v3, rfl, hm3, hgr3⟩
  have HM3 := hidP hm3
  have B3 := hidP (below_in B2.out hgr3 HG2.out)
  clear hm3 hgr3
  go_wp2_with fail
  refine (PG.out _ B3.out).mono ?_
  rintro e w4 ⟨v4, g4, rfl, hg4, hm4, hb4⟩
  have HM4 := hidP (HM3.out.below hb4)
  have HL3 : Hid (mon q (nf q f) ≠ [] → g2 ≠ g4) := fun h => by have := HM3.out.lt h; omega
  have B4 := hidP (step_below B3.out hb4)
  have HG4 : Hid (w.heap.size ≤ g4) := Nat.le_trans B3.out.size hg4
  have C4 := hidP (CM.out v4 g4 w4 _ (nf_plain hq0 g) hm4)
  clear hg4 hm4 hb4 HM3
  go_wp2_with fail
  refine C4.out.mono ?_
  rintro e w5 ⟨v5, rfl, hm5, hgr5⟩
  have HInv : Hid (∃ ga gb F G, Mine w5 ga v3 F ∧ Mine w5 gb v5 G ∧ ga ≠ gb ∧ w.heap.size ≤ ga ∧ w.heap.size ≤ gb ∧ Mon q F ∧ Mon q G ∧ F.length ≤ 65536 ∧ G.length ≤ 65536 ∧ Both q F G f g ∧ G.length = (mon q (nf q g)).length) := by
    have h3 := HM4.out.keep hgr5 HL3.out
    by_cases h : mon q (nf q f) = []
    · exact ⟨g4 + 1, g4, _, _, (by have := h3; rw [h] at this ⊢; exact this.any _), hm5, by omega, by have := HG4.out; omega, HG4.out, HF.out.1, HGm.out.1, HL.out.1, HL.out.2, HSt.out, rfl⟩
    · exact ⟨g2, g4, _, _, h3, hm5, HL3.out h, HG2.out, HG4.out, HF.out.1, HGm.out.1, HL.out.1, HL.out.2, HSt.out, rfl⟩
  have B5 := hidP (below_in B4.out hgr5 HG4.out)
  clear hm5 hgr5 HM4 HL3 C4 C2 HSt HF HGm HL
  go_wp2
  go_loopg [0, 1] (mon q (nf q g)).length (fun gm v0 v1 wr => ∃ n cap ao, v1 = .slice ao n cap ∧ n ≤ 65536 ∧ Hid (∃ ga gb F G, Mine wr ga v0 F ∧ Mine wr gb v1 G ∧ ga ≠ gb ∧ w.heap.size ≤ ga ∧ w.heap.size ≤ gb ∧ Mon q F ∧ Mon q G ∧ F.length ≤ 65536 ∧ G.length ≤ 65536 ∧ Both q F G f g ∧ G.length = n) ∧ Hid (n = gm) ∧ Hid (Below w.heap.size w wr))
  case atStart =>
    obtain ⟨ga, gb, F, G, a1, a2, a3, a4, a5, a6, a7, a8, a9, a10, a11⟩ := HInv.out
    obtain ⟨ao, cap, e1, -⟩ := SeesF.form a2.sees
    exact ⟨G.length, cap, ao, e1, a9, ⟨ga, gb, F, G, a1, a2, a3, a4, a5, a6, a7, a8, a9, a10, rfl⟩, a11, B5⟩
  case round =>
    clear HInv B5
    obtain ⟨n, cap, ao, rfl, hn, hI, hG, hB⟩ := hrel
    obtain ⟨ga, gb, F, G, a1, a2, a3, a4, a5, a6, a7, a8, a9, a10, a11⟩ := hI.out
    rcases Nat.eq_zero_or_pos n with h0 | h0
    · subst h0
      have G0 : G = [] := List.eq_nil_of_length_eq_zero a11
      subst G0
      have HSee := hidP a1.sees
      have HGI : Hid (GcdIs q f g F) := ⟨a6, a10⟩
      have HLe := hidP a8
      clear hI a1 a2 a3 a4 a5 a6 a7 a8 a9 a10 a11
      go_wp2
      go_ret
      exact ⟨_, _, rfl, HSee.out, HGI.out, HLe.out, hB.out⟩
    · have G0 : G ≠ [] := List.length_pos_iff.1 (by omega)
      have CD := hidP (mod_divide (w := wr) a1 (fun w1 h => (a2.keep h (fun _ e => a3 e.symm)).sees) a6.1.1 a7 G0 HQ.out a8 a9)
      have hn0 : (n : Int) > 0 := by omega
      have HA2 := hidP a2
      have HA := hidP (And.intro a3 (And.intro a4 (And.intro a5 (And.intro a7 (And.intro a9 a10)))))
      have HA11 := hidP a11
      clear hI a1 a2 a3 a4 a5 a6 a7 a8 a9 a10 a11
      go_wp2_with fail
      refine CD.out.mono ?_
      rintro e w6 ⟨vq, vr, gq, Q, R, rfl, hgq, hmq, hmr, hgr6, hdv⟩
      have HM6 := hidP (HA2.out.keep hgr6 (fun _ e => HA.out.1 e.symm))
      have B6 := hidP (below_in hB.out hgr6 HA.out.2.1)
      have CM6 := hidP (CM.out vr ga w6 R hdv.pr hmr)
      have HDv := hidP hdv
      clear hgq hmq hmr hgr6 hdv HA2 CD
      go_wp2_with fail
      refine CM6.out.mono ?_
      rintro e w7 ⟨v7, rfl, hm7, hgr7⟩
      have hmm := mon_mon HQ.out HDv.out.pr
      have HM7 := hidP (HM6.out.keep hgr7 (fun _ e => HA.out.1 e.symm))
      have B7 := hidP (below_in B6.out hgr7 HA.out.2.1)
      obtain ⟨a7', c7, e7, hc7⟩ := SeesF.form hm7.sees
      subst e7
      have HI7 : Hid (∃ ga gb F G, Mine w7 ga (.slice ao n cap) F ∧ Mine w7 gb (.slice a7' (mon q R).length c7) G ∧ ga ≠ gb ∧ w.heap.size ≤ ga ∧ w.heap.size ≤ gb ∧ Mon q F ∧ Mon q G ∧ F.length ≤ 65536 ∧ G.length ≤ 65536 ∧ Both q F G f g ∧ G.length = (mon q R).length) :=
        ⟨gb, ga, G, mon q R, HM7.out, hm7, fun e => HA.out.1 e.symm, HA.out.2.2.1, HA.out.2.1, HA.out.2.2.2.1, hmm.1, HA.out.2.2.2.2.1, by have := HDv.out.lt; have := HA.out.2.2.2.2.1; omega, HA.out.2.2.2.2.2.next HQ.out HDv.out, rfl⟩
      have hlt : (mon q R).length < n := by have := HDv.out.lt; have := HA11.out; omega
      have hle : (mon q R).length ≤ 65536 := by omega
      obtain ⟨n7, hn7⟩ : ∃ n7, (mon q R).length = n7 := ⟨_, rfl⟩
      rw [hn7] at HI7 hlt hle
      rw [hn7]
      clear hm7 hgr7 HM6 HM7 hmm hn7 hc7
      go_wp2
      go_roundg n7
      case rel => exact ⟨n7, c7, a7', rfl, hle, HI7, rfl, B7⟩
      case measure => have := hG.out; omega
end Go.Proofs.Ytokdcgmjpnanoaa
