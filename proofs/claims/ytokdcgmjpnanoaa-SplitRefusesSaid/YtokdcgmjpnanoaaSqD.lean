/- Factors by their degrees: what each part is. No function of the program in it. -/
import Derived.Test.YtokdcgmjpnanoaaSqR
import Derived.Test.YtokdcgmjpnanoaaSqB

set_option linter.unusedVariables false
set_option linter.unusedSimpArgs false
namespace Go.Proofs.Ytokdcgmjpnanoaa

/-- P is the product of the irreducible factors of F of degree d, each once. -/
structure IsPart (q : Nat) (F : List Int) (d : Nat) (P : List Int) : Prop where
  mo : Mo q P
  sq : SqF q P
  dv : ∀ g, Irr q g → (Dv q g P ↔ Dv q g F ∧ g.length = d + 1)
structure DegInv (q : Nat) (F : List Int) (k : Nat) (X R : List Int) : Prop where
  mR : Mo q R
  sR : SqF q R
  iR : ∀ g, Irr q g → (Dv q g R ↔ Dv q g F ∧ k + 2 ≤ g.length)
  xX : 2 * (k + 1) ≤ R.length - 1 → M q R X (ppow pX (q ^ k))
section
variable {q : Nat}
theorem irr_le (hq : IsP q) {g R : List Int} (hg : Irr q g) (hR : Mo q R) (h : Dv q g R) : g.length ≤ R.length := by
  have := (h.len hq hR.nf_ne).2
  rwa [hg.mo.dg, hR.dg] at this
theorem DegInv.start {F R : List Int} (h : RadOf q F R) : DegInv q F 0 pX R :=
  ⟨h.1, h.2.1, fun g hg => ⟨fun d => ⟨(h.2.2 g hg).1 d, hg.two⟩, fun d => (h.2.2 g hg).2 d.1⟩, fun _ => .of_ev fun x => by rw [Nat.pow_zero, ev_ppow, Int.pow_succ, Int.pow_zero, Int.one_mul]⟩
theorem DegInv.min {F X R : List Int} {k : Nat} (h : DegInv q F k X R) : MinD q R (k + 1) := fun g hg d => ((h.iR g hg).1 d).2
theorem GcdIs.congrM {m f f' d : List Int} (h : GcdIs q f m d) (e : M q m f f') : GcdIs q f' m d := by
  refine ⟨h.mon, h.sp.trans ?_⟩
  obtain ⟨k, a, ha⟩ := e
  refine ⟨⟨[1], k, a, fun x => ?_⟩, .right q f' m, ⟨[1], psc (-1) k, psc (-1) a, fun x => ?_⟩, .right q f m⟩
  · have := ha x; simp only [ev_padd, ev_pmul, ev]; rw [this]; grind
  · have := ha x; simp only [ev_padd, ev_pmul, ev_psc, ev]; rw [this]; grind
theorem DegInv.step1 (hq : IsP q) {F X R X' h K : List Int} {k : Nat} (H : DegInv q F k X R) (hl : 2 * (k + 1) ≤ R.length - 1) (hX : RestIs q (ppow X q) R X') (hg : GcdIs q R (nf q (padd X' (psc (-1) pX))) h) (mh : Mo q h) (mK : Mo q K) (e : E q R (pmul K h)) :
    IsPart q F (k + 1) h ∧ DegInv q F (k + 1) X' K := by
  have m1 : M q R X' (ppow pX (q ^ (k + 1))) := hX.eq.symm.trans (((H.xX hl).pow q).trans (.of_ev fun x => by rw [Nat.pow_succ, ppow_mul]))
  have g1 : GcdIs q (xq q (k + 1)) R h := hg.swap.congrM (((nf_E q _).m R).trans (m1.add (M.refl R _)))
  obtain ⟨hA, hM⟩ := degree_part hq (by omega) H.mR H.sR H.min g1 e
  have dh : Dv q h R := ⟨K, e⟩
  have dK : Dv q K R := ⟨h, e.trans (.of_ev fun x => by simp only [ev_pmul]; grind)⟩
  refine ⟨⟨mh, H.sR.dv dh, fun g hi => ⟨fun d => ⟨((H.iR g hi).1 (d.trans dh)).1, hA g hi d⟩, fun d => ?_⟩⟩, ⟨mK, H.sR.dv dK, fun g hi => ⟨fun d => ⟨((H.iR g hi).1 (d.trans dK)).1, hM g hi d⟩, fun d => ?_⟩, fun _ => ?_⟩⟩
  · rcases hi.euclid hq (((H.iR g hi).2 ⟨d.1, by omega⟩).congr e.symm) with h1 | h1
    · have := hM g hi h1; omega
    · exact h1
  · rcases hi.euclid hq (((H.iR g hi).2 ⟨d.1, by omega⟩).congr e.symm) with h1 | h1
    · exact h1
    · have := hA g hi h1; omega
  · exact m1.dv dK
theorem DegInv.step2 (hq : IsP q) {F X R : List Int} {k : Nat} (H : DegInv q F k X R) (hl : R.length = k + 2) : IsPart q F (k + 1) R ∧ DegInv q F (k + 1) X [1] := by
  refine ⟨⟨H.mR, H.sR, fun g hi => ⟨fun d => ?_, fun d => (H.iR g hi).2 ⟨d.1, by omega⟩⟩⟩, ⟨Mo.one hq, fun g hi d => hi.not_one hq (dg_one hq) ((Dv.self_mul g g).trans d), fun g hi => ⟨fun d => absurd d (hi.not_one hq (dg_one hq)), fun d => ?_⟩, fun h => by simp at h⟩⟩
  · have := irr_le hq hi H.mR d
    have h2 := (H.iR g hi).1 d
    exact ⟨h2.1, by omega⟩
  · exfalso
    have := irr_le hq hi H.mR ((H.iR g hi).2 ⟨d.1, by omega⟩)
    omega
theorem DegInv.step3 (hq : IsP q) {F X R : List Int} {k : Nat} (H : DegInv q F k X R) (h1 : R.length - 1 < 2 * (k + 1)) (h2 : R.length ≠ k + 2) : IsPart q F (k + 1) [1] ∧ DegInv q F (k + 1) X R := by
  have no : ∀ g, Irr q g → Dv q g R → g.length ≠ k + 2 := fun g hi d hl => by
    have h3 := irr_le hq hi H.mR d
    have h4 : Irr q R := MinD.irr hq H.mR H.min (by omega) h1
    have := hi.eq hq h4 d
    rw [this] at hl; exact h2 hl
  refine ⟨⟨Mo.one hq, fun g hi d => hi.not_one hq (dg_one hq) ((Dv.self_mul g g).trans d), fun g hi => ⟨fun d => absurd d (hi.not_one hq (dg_one hq)), fun d => absurd d.2 (no g hi ((H.iR g hi).2 ⟨d.1, by omega⟩))⟩⟩, ⟨H.mR, H.sR, fun g hi => ⟨fun d => ?_, fun d => (H.iR g hi).2 ⟨d.1, by omega⟩⟩, fun h => by omega⟩⟩
  have h5 := (H.iR g hi).1 d
  have := no g hi d
  exact ⟨h5.1, by omega⟩
/-- The last part has F's degree just if F is irreducible. -/
theorem IsPart.irr_iff (hq : IsP q) {F P : List Int} {n : Nat} (hF : Mo q F) (hn : F.length = n + 1) (h1 : 1 ≤ n) (h : IsPart q F n P) : P.length = n + 1 ↔ Irr q F := by
  constructor
  · intro hl
    obtain ⟨g, hg, hd⟩ := irr_factor hq _ P (Nat.le_refl _) (by rw [h.mo.dg]; omega)
    obtain ⟨h2, h3⟩ := (h.dv g hg).1 hd
    have := hg.mo.same_len hq hF h2 (by omega)
    rw [← this]; exact hg
  · intro hi
    have h2 := (h.dv F hi).2 ⟨Dv.refl F, hn⟩
    have h3 := irr_le hq hi h.mo h2
    obtain ⟨k, hk⟩ := h2
    by_cases h4 : P.length = n + 1
    · exact h4
    · exfalso
      have hk0 := (ne_of_mul (by rw [← nf_eq hk]; exact h.mo.nf_ne)).1
      have hd := dg_mul hq hk0 hF.nf_ne
      rw [← dg_congr hk, hF.dg, h.mo.dg] at hd
      obtain ⟨g, hg, hgd⟩ := irr_factor hq _ k (Nat.le_refl _) (by omega)
      have d1 : Dv q g P := hgd.trans ⟨F, hk.trans (.of_ev fun x => by simp only [ev_pmul]; grind)⟩
      obtain ⟨d2, d3⟩ := (h.dv g hg).1 d1
      have h5 := hg.mo.same_len hq hF d2 (by omega)
      subst h5
      exact h.sq g hg ((hgd.mul (Dv.refl g)).congr hk)
end
end Go.Proofs.Ytokdcgmjpnanoaa
