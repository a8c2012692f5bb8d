/- modular.Pow's closures and modular.power of lists by their contracts. -/
import Derived.Test.YtokdcgmjpnanoaaJaL

set_option linter.unusedVariables false
set_option linter.unusedSimpArgs false
namespace Go.Proofs.Ytokdcgmjpnanoaa
open Go.RowKit


/-- What Pow's closures find: m's box, p's box, the box of 'rest'. -/
structure Env (q : Nat) (m : List Int) (B b6 b7 b10 : Nat) (w : World) : Prop where
  c7 : w.cell? ⟨b7, 0, none⟩ = some (.int .i64 q)
  c10 : w.cell? ⟨b10, 0, none⟩ = some (.func (.func 61) #[] #[.pointer (some ⟨b6, 0, none⟩), .pointer (some ⟨b7, 0, none⟩)])
  vm : ∃ v km, w.cell? ⟨b6, 0, none⟩ = some v ∧ Mine w km v (mon q (nf q m)) ∧ km < B
  h6 : b6 < B
  h7 : b7 < B
  h10 : b10 < B
  hB : B ≤ w.heap.size
theorem Env.below {q : Nat} {m : List Int} {B b6 b7 b10 : Nat} {w w' : World} (h : Env q m B b6 b7 b10 w) (hb : Below B w w') : Env q m B b6 b7 b10 w' := by
  obtain ⟨c7, c10, ⟨v, km, c6, hm, hk⟩, h6, h7, h10, hB⟩ := h
  refine ⟨(hb.cell h7).trans c7, (hb.cell h10).trans c10, ⟨v, km, (hb.cell h6).trans c6, ?_, hk⟩, h6, h7, h10, Nat.le_trans hB hb.size⟩
  obtain ⟨ao, cap, e1, e2, e3, e4, e5⟩ := hm
  exact ⟨ao, cap, e1, e2, e3, e4, fun hp => ⟨(e5 hp).1, (e5 hp).2.of_block (hb.block km hk)⟩⟩

theorem RestIs.of_divided {q : Nat} (hq : IsP q) {f m Q R : List Int} (h : Divided q f (mon q (nf q m)) Q R) : RestIs q f m R := by
  obtain ⟨c, c', h1, -, -, h4, -⟩ := mon_unit hq (nf_plain (isP_bounds hq).1 m)
  have hl := (mon_mon hq (nf_plain (isP_bounds hq).1 m)).2
  obtain ⟨a, ha⟩ := h.eq
  obtain ⟨b, hb⟩ := h4.trans ((nf_E q m).sc c)
  exact ⟨⟨psc c Q, padd a (pmul Q b), fun x => by have h2 := ha x; have h3 := hb x; simp only [ev_padd, ev_pmul, ev_psc] at *; grind⟩, h.pr, by have := h.lt; omega⟩

set_option maxRecDepth 100000 in
set_option maxHeartbeats 1000000 in
theorem rest_op {q : Nat} {m : List Int} {B b6 b7 b10 k : Nat} {w : World} {v : Value} {f : List Int} (hE : Env q m B b6 b7 b10 w) (hM : Mine w k v f) (hk : B ≤ k) (hf : Res q f) (hq : IsP q) (hm : nf q m ≠ []) (hlf : f.length ≤ 65536) (hlm : m.length ≤ 65536) :
    Calls Try.prog 61 #[v, .pointer (some ⟨b6, 0, none⟩), .pointer (some ⟨b7, 0, none⟩)] w fun e w' => ∃ v' R, e = .returned v' ∧ Mine w' k v' R ∧ RestIs q f m R ∧ (f = [] → R = []) ∧ Below B w w' ∧ ∀ g u l, Mine w g u l → (f ≠ [] → g ≠ k) → Mine w' g u l := by
  obtain ⟨K, hMK, hBK, hKk⟩ : ∃ K, Mine w K v f ∧ B ≤ K ∧ ((f ≠ [] ∧ K = k) ∨ (f = [] ∧ K = w.heap.size)) := by
    by_cases h : f = []
    · subst h; exact ⟨w.heap.size, hM.any _, hE.hB, Or.inr ⟨rfl, rfl⟩⟩
    · exact ⟨k, hM, hk, Or.inl ⟨h, rfl⟩⟩
  have HK : Hid (∀ w', w.grownBy w' (some K) → ∀ g u l, Mine w g u l → (f ≠ [] → g ≠ k) → Mine w' g u l) := fun w' h g u l hg hne => hg.keep h (fun hl => by
    rcases hKk with ⟨e0, e⟩ | ⟨e1, e2⟩
    · rw [e]; exact hne e0
    · have := hg.lt hl; omega)
  obtain ⟨hq0, hq2⟩ := isP_bounds hq
  obtain ⟨c7, -, ⟨vm, km, c6, hmm, hkm⟩, h6, h7, h10, hB⟩ := hE
  have hmo := mon_mon hq (nf_plain hq0 m)
  have hm0 : mon q (nf q m) ≠ [] := List.length_pos_iff.1 (by rw [hmo.2]; exact List.length_pos_iff.2 hm)
  have hlm2 := nf_len q m
  have CD := hidP (mod_divide hMK (fun w1 h => (hmm.keep h (fun _ => by omega)).sees) hf hmo.1 hm0 hq hlf (by rw [hmo.2]; omega))
  have HR : Hid (∀ Q R, Divided q f (mon q (nf q m)) Q R → RestIs q f m R) := fun Q R h => RestIs.of_divided hq h
  have HRn : Hid (∀ w' v Q R, Divided q f (mon q (nf q m)) Q R → Mine w' K v R → Mine w' k v R ∧ (f = [] → R = [])) := fun w' v Q R h hm => by
    have hn : f = [] → R = [] := fun e => by subst e; exact h.nil hq0
    rcases hKk with ⟨e0, e⟩ | ⟨e1, e2⟩
    · rw [← e]; exact ⟨hm, hn⟩
    · have := hn e1; subst this; exact ⟨hm.any k, hn⟩
  have HBB : Hid (∀ w', w.grownBy w' (some K) → Below B w w') := fun w' h => ((Below.refl w.heap.size w).mono hB).grown h hB (fun j e => by cases e; exact hBK)
  clear hM hMK hKk hmm hmo hm0 hlm2 hf hq hm h6 h7 h10 hkm hB hBK
  go_enter Try.func61, Try.ntmps61
  go_wp2_with fail
  refine CD.out.mono ?_
  rintro e w1 ⟨vq, vr, gq, Q, R, rfl, hgq, hmq, hmr, hgr, hdv⟩
  have H1 := hidP (HRn.out _ _ Q R hdv hmr)
  have H2 := hidP (HR.out Q R hdv)
  have H3 := hidP (HBB.out w1 hgr)
  have H4 := hidP (HK.out w1 hgr)
  clear hgq hmq hmr hgr hdv
  go_wp2_with fail
  go_ret
  exact ⟨_, _, rfl, H1.out.1, H2.out, H1.out.2, H3.out, H4.out⟩

set_option maxRecDepth 100000 in
set_option maxHeartbeats 2000000 in
theorem times_op {q : Nat} {m : List Int} {B b6 b7 b10 : Nat} {w : World} {va vb : Value} {f g : List Int} (hE : Env q m B b6 b7 b10 w) (ha : SeesI w va f) (hb : SeesI w vb g) (hf : Res q f) (hg : Res q g) (hq : IsP q) (hm : nf q m ≠ []) (hlf : f.length ≤ 16384) (hlg : g.length ≤ 16384) (hlm : m.length ≤ 65536) :
    Calls Try.prog 63 #[va, vb, .pointer (some ⟨b10, 0, none⟩), .pointer (some ⟨b7, 0, none⟩)] w fun e w' => ∃ v' R, e = .returned v' ∧ SeesI w' v' R ∧ RestIs q (pmul f g) m R ∧ Below w.heap.size w w' := by
  obtain ⟨hq0, hq2⟩ := isP_bounds hq
  have HE : Hid (∀ w1, Below w.heap.size w w1 → Env q m B b6 b7 b10 w1) := fun w1 h => hE.below (h.mono hE.hB)
  have CP : Hid (∀ w1, Below w.heap.size w w1 → Calls Try.prog 64 #[va, vb, .int .i64 q] w1 fun e w' => ∃ v' g', e = .returned v' ∧ w1.heap.size ≤ g' ∧ Mine w' g' v' (nf q (pmul f g)) ∧ Below w1.heap.size w1 w') := fun w1 h => mod_product (SeesI.below ha h) (SeesI.below hb h) (by omega) (by omega) hq0 hq2 hf hg
  have hlen : (nf q (pmul f g)).length ≤ 65536 := by
    have h1 := nf_len q (pmul f g)
    have h2 := pmul_len f g
    omega
  have CR : Hid (∀ w1 k v, Below w.heap.size w w1 → w.heap.size ≤ k → Mine w1 k v (nf q (pmul f g)) → Calls Try.prog 61 #[v, .pointer (some ⟨b6, 0, none⟩), .pointer (some ⟨b7, 0, none⟩)] w1 fun e w' => ∃ v' R, e = .returned v' ∧ SeesI w' v' R ∧ RestIs q (pmul f g) m R ∧ Below w.heap.size w1 w') := by
    intro w1 k v h hk hM
    -- the boxes may lie anywhere below w's end
    have hE1 : Env q m w.heap.size b6 b7 b10 w1 := by
      obtain ⟨c7, c10, ⟨v, km, c6, hm, hk⟩, h6, h7, h10, hB⟩ := HE.out w1 h
      have := hE.hB
      exact ⟨c7, c10, ⟨v, km, c6, hm, by omega⟩, by omega, by omega, by omega, h.size⟩
    refine (rest_op hE1 hM hk (res_nf hq0 _) hq hm hlen hlm).mono ?_
    rintro e w2 ⟨v', R, he, h1, h2, -, h3, h4⟩
    exact ⟨v', R, he, h1.sees, ⟨((nf_E q (pmul f g)).symm.m m).trans h2.eq, h2.pr, h2.lt⟩, h3⟩
  have c7 := hE.c7
  have c10 := hE.c10
  have HB0 := hidP hE.hB
  have H7 := hidP (Nat.lt_of_lt_of_le hE.h7 hE.hB)
  have H10 := hidP (Nat.lt_of_lt_of_le hE.h10 hE.hB)
  clear hE ha hb hf hg hq hm
  have HD := hidP ((Below.refl w.heap.size w).drew)
  go_enter Try.func63, Try.ntmps63
  go_wp2_with fail
  go_region_held3 (fun w' => w'.cell? ⟨b7, 0, none⟩ = some (.int .i64 q) ∧ w'.cell? ⟨b10, 0, none⟩ = some (.func (.func 61) #[] #[.pointer (some ⟨b6, 0, none⟩), .pointer (some ⟨b7, 0, none⟩)]) ∧ Hid (Below w.heap.size w w')) (exact ⟨by assumption, by assumption, by assumption⟩) (first
    | (go_at_call 64
       refine (CP.out _ (Hid.out (by assumption))).mono ?_
       rintro e wx ⟨v1, k1, rfl, hk1, hm1, hb1⟩
       have hbn := hidP (step_below HD.out hb1)
       have d7 : wx.cell? ⟨b7, 0, none⟩ = some (.int .i64 q) := (hbn.out.cell H7.out).trans c7
       have d10 := (hbn.out.cell (p := ⟨b10, 0, none⟩) H10.out).trans c10
       have HM1 := hidP hm1
       have HK1 : Hid (w.heap.size ≤ k1) := hk1
       clear hk1 hm1 hb1)
    | (go_at_call 61
       refine (CR.out wx k1 v1 hbn.out HK1.out HM1.out).mono ?_
       rintro e wy ⟨v2, R, rfl, hs2, hr2, hb2⟩
       have hbm := hidP (hbn.out.trans hb2)
       have e7 : wy.cell? ⟨b7, 0, none⟩ = some (.int .i64 q) := (hbm.out.cell H7.out).trans c7
       have e10 := (hbm.out.cell (p := ⟨b10, 0, none⟩) H10.out).trans c10
       have HS2 := hidP hs2
       have HR2 := hidP hr2
       clear hs2 hr2 hb2))
  all_goals
    go_wp2_with fail
    go_ret
    exact ⟨_, _, rfl, HS2.out, HR2.out, hbm.out⟩
end Go.Proofs.Ytokdcgmjpnanoaa
