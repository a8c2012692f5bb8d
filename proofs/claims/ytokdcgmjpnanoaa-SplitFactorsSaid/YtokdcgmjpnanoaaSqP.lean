/- Factors counted: what is gathered degree by degree is all of them. No function of the program in it. -/
import Derived.Test.YtokdcgmjpnanoaaSqD
import Derived.Test.YtokdcgmjpnanoaaSpC

set_option linter.unusedVariables false
set_option linter.unusedSimpArgs false
namespace Go.Proofs.Ytokdcgmjpnanoaa

section
variable {q : Nat}
theorem factors_ex (hq : IsP q) : ∀ (n : Nat) (F : List Int), F.length ≤ n → Mo q F → ∃ L, FactorsOf q F L
  | 0, F, h, hF => absurd (List.eq_nil_of_length_eq_zero (by omega)) hF.ne
  | n + 1, F, h, hF => by
    by_cases h1 : F.length ≤ 1
    · rw [hF.is_one hq h1]; exact ⟨[], FactorsOf.nil⟩
    · obtain ⟨g, hg, hd⟩ := irr_factor hq _ F (Nat.le_refl _) (by rw [hF.dg]; omega)
      obtain ⟨k, hk⟩ := hd
      have hk2 : E q F (pmul (nf q k) g) := hk.trans ((nf_E q k).symm.mul (E.refl q g))
      have hm := quot_mo hq hF hg.mo hk2 (nf_plain hq.pos k)
      have two := hg.two
      obtain ⟨L, hL⟩ := factors_ex hq n (nf q k) (by omega) hm.1
      exact ⟨L ++ [g], hL.app (FactorsOf.single hg) hk2⟩
theorem mult_unique (hq : IsP q) {g h h' : List Int} (hg : Irr q g) {m n : Nat} (e : E q (pmul (ppow g m) h) (pmul (ppow g n) h')) (n1 : ¬ Dv q g h) (n2 : ¬ Dv q g h') : m = n := by
  have key : ∀ {m n : Nat} {h h' : List Int}, E q (pmul (ppow g m) h) (pmul (ppow g n) h') → ¬ Dv q g h → m < n → False := fun {m n h h'} e n1 hlt => by
    obtain ⟨k, rfl⟩ : ∃ k, n = m + (k + 1) := ⟨n - m - 1, by omega⟩
    have e2 : E q (pmul (ppow g m) h) (pmul (ppow g m) (pmul (ppow g (k + 1)) h')) := e.trans (.of_ev fun x => by simp only [ev_pmul, ev_ppow, Int.pow_add]; grind)
    have e3 := pow_cancel hq hg e2
    have d : Dv q g (pmul (ppow g (k + 1)) h') := by
      rw [show ppow g (k + 1) = pmul g (ppow g k) from rfl]
      exact (Dv.self_mul g _).mulR _
    exact n1 (d.congr e3)
  rcases Nat.lt_trichotomy m n with h1 | h1 | h1
  · exact absurd h1 (fun z => key e n1 z)
  · exact h1
  · exact absurd h1 (fun z => key e.symm n2 z)
theorem count_mult (hq : IsP q) {g : List Int} (hg : Irr q g) : ∀ L : List (List Int), (∀ h ∈ L, Irr q h) → ∃ h, E q (prodL L) (pmul (ppow g (L.count g)) h) ∧ ¬ Dv q g h
  | [], _ => ⟨[1], .of_ev fun x => by simp [prodL, ppow, ev_pmul, ev], hg.not_one hq (dg_one hq)⟩
  | a :: L, hL => by
    obtain ⟨h, he, hn⟩ := count_mult hq hg L (fun x hx => hL x (by simp [hx]))
    by_cases e : a = g
    · subst e
      refine ⟨h, ?_, hn⟩
      rw [List.count_cons_self]
      exact ((E.refl q a).mul he).trans (.of_ev fun x => by simp only [ev_pmul, ev_ppow, Int.pow_succ]; grind)
    · refine ⟨pmul a h, ?_, fun d => ?_⟩
      · rw [List.count_cons_of_ne (by simpa using e)]
        exact ((E.refl q a).mul he).trans (.of_ev fun x => by simp only [ev_pmul]; grind)
      · rcases hg.euclid hq d with z | z
        · exact e (hg.eq hq (hL a (by simp)) z).symm
        · exact hn z
/-- How often g is a factor, as it is told of f, whose monic form is F. -/
theorem mult_count (hq : IsP q) {f F g h : List Int} {L : List (List Int)} {m : Nat} {c c' : Int} (hc : (c * c') % (q : Int) = 1) (hf : E q F (psc c f)) (hL : FactorsOf q F L) (hg : Irr q g) (e : E q f (pmul (ppow g m) h)) (n : ¬ Dv q g h) : m = L.count g := by
  obtain ⟨h', e', n'⟩ := count_mult hq hg L hL.irr
  refine mult_unique hq hg (h := psc c h) (h' := h') ?_ ?_ n'
  · refine E.trans ?_ (hf.symm.trans (hL.eq.symm.trans e'))
    exact E.trans (.of_ev fun x => by simp only [ev_pmul, ev_psc]; grind) ((e.symm).sc c)
  · intro d
    obtain ⟨r, hr⟩ := one_of_inv hq hc
    exact n ((d.sc c').congr ⟨psc (-r) h, fun x => by
      have : (1 : Int) = c * c' - q * r := by omega
      simp only [ev_psc]; grind⟩)
/-- What is gathered: the factors of degrees up to i, and the first j of the next one. -/
def Cnt (L0 l : List (List Int)) (i : Nat) (T : List (List Int)) : Prop := ∀ g, l.count g = if g.length < i + 2 ∨ g ∈ T then L0.count g else 0
theorem Cnt.start {L0 : List (List Int)} (h : ∀ g ∈ L0, Irr q g) : Cnt L0 [] 0 [] := fun g => by
  by_cases hg : g.length < 0 + 2
  · rw [if_pos (Or.inl hg)]
    have : g ∉ L0 := fun hm => by have := (h g hm).two; omega
    rw [List.count_eq_zero_of_not_mem this]; rfl
  · rw [if_neg (by simp; omega)]; rfl
theorem Cnt.next {L0 l T : List (List Int)} {i m : Nat} {g : List Int} (h : Cnt L0 l i T) (hl : g.length = i + 2) (hn : g ∉ T) (hm : m = L0.count g) : Cnt L0 (l ++ List.replicate m g) i (T ++ [g]) := fun x => by
  rw [List.count_append, h x, List.count_replicate]
  by_cases e : x = g
  · subst e
    rw [if_neg (by rintro (z | z); omega; exact hn z), if_pos (by simp), if_pos (by simp), hm]; omega
  · have e0 : (g == x) = false := by rw [beq_eq_false_iff_ne]; exact Ne.symm e
    rw [e0]
    have e1 : (if (false : Bool) = true then m else 0) = 0 := rfl
    rw [e1, Nat.add_zero]
    by_cases hx : x.length < i + 2 ∨ x ∈ T
    · rw [if_pos hx, if_pos]
      rcases hx with z | z
      · exact Or.inl z
      · exact Or.inr (by simp [z])
    · rw [if_neg hx, if_neg]
      rintro (z | z)
      · exact hx (Or.inl z)
      · rw [List.mem_append, List.mem_singleton] at z
        rcases z with z | z
        · exact hx (Or.inr z)
        · exact e z
theorem part_mem (hq : IsP q) {F P : List Int} {d : Nat} {L0 Fs : List (List Int)} (hL : FactorsOf q F L0) (hP : IsPart q F d P) (hF : FactorsOf q P Fs) (g : List Int) (hg : g ∈ L0) : g ∈ Fs ↔ g.length = d + 1 := by
  have hi := hL.irr g hg
  constructor
  · intro h
    have d1 : Dv q g P := by
      have : Dv q g (prodL Fs) := by
        have : ∀ l : List (List Int), g ∈ l → Dv q g (prodL l) := fun l => by
          induction l with
          | nil => intro h; cases h
          | cons a l ih =>
            intro h
            rcases List.mem_cons.1 h with z | z
            · subst z; exact Dv.self_mul g _
            · exact (ih z).mulL a
        exact this Fs h
      exact this.congr hF.eq.symm
    exact ((hP.dv g hi).1 d1).2
  · intro h
    have dF : Dv q g F := by
      have : ∀ l : List (List Int), g ∈ l → Dv q g (prodL l) := fun l => by
        induction l with
        | nil => intro h; cases h
        | cons a l ih =>
          intro h
          rcases List.mem_cons.1 h with z | z
          · subst z; exact Dv.self_mul g _
          · exact (ih z).mulL a
      exact (this L0 hg).congr hL.eq.symm
    have d1 := (hP.dv g hi).2 ⟨dF, h⟩
    obtain ⟨x, hx, hd⟩ := hi.dv_prod hq Fs (d1.congr hF.eq)
    rw [hi.eq hq (hF.irr x hx) hd]; exact hx
theorem Cnt.all (hq : IsP q) {F P : List Int} {i : Nat} {L0 l Fs : List (List Int)} (hL : FactorsOf q F L0) (hP : IsPart q F (i + 1) P) (hF : FactorsOf q P Fs) (h : Cnt L0 l i Fs) : Cnt L0 l (i + 1) [] := fun g => by
  rw [h g]
  by_cases hg : g ∈ L0
  · have := part_mem hq hL hP hF g hg
    by_cases e : g.length < i + 2 ∨ g ∈ Fs
    · rw [if_pos e, if_pos (Or.inl (by rcases e with z | z; omega; have := this.1 z; omega))]
    · rw [if_neg e, if_neg (by rintro (z | z); exact e (by rcases Nat.lt_or_ge g.length (i + 2) with y | y; exact Or.inl y; exact Or.inr (this.2 (by omega))); cases z)]
  · rw [List.count_eq_zero_of_not_mem hg]; simp
theorem part_len (hq : IsP q) {F P : List Int} {d : Nat} {Fs : List (List Int)} (hP : IsPart q F d P) (hF : FactorsOf q P Fs) (g : List Int) (hg : g ∈ Fs) : g.length = d + 1 := by
  have hi := hF.irr g hg
  have : ∀ l : List (List Int), g ∈ l → Dv q g (prodL l) := fun l => by
    induction l with
    | nil => intro h; cases h
    | cons a l ih =>
      intro h
      rcases List.mem_cons.1 h with z | z
      · subst z; exact Dv.self_mul g _
      · exact (ih z).mulL a
  exact ((hP.dv g hi).1 ((this Fs hg).congr hF.eq.symm)).2
theorem sqf_dv (hq : IsP q) {F : List Int} : ∀ Fs : List (List Int), (∀ g ∈ Fs, Irr q g ∧ Dv q g F) → SqF q (prodL Fs) → Dv q (prodL Fs) F
  | [], _, _ => ⟨F, .of_ev fun x => by simp [prodL, ev_pmul, ev]⟩
  | g :: l, h, hs => by
    have hg := h g (by simp)
    have hl := sqf_dv hq l (fun x hx => h x (by simp [hx])) (hs.dv (Dv.mul_self (prodL l) g))
    rcases hg.1.dv_or hq (prodL l) with z | z
    · exact absurd ((Dv.refl g).mul z) (hs g hg.1)
    · exact z.join hg.2 hl
theorem part_le (hq : IsP q) {F P : List Int} {d : Nat} (hF : Mo q F) (hP : IsPart q F d P) : P.length ≤ F.length := by
  obtain ⟨Fs, hFs⟩ := factors_ex hq _ P (Nat.le_refl _) hP.mo
  have h1 : Dv q (prodL Fs) F := by
    refine sqf_dv hq Fs (fun g hg => ⟨hFs.irr g hg, ?_⟩) (hP.sq.dv ((Dv.refl _).congr hFs.eq.symm))
    have hi := hFs.irr g hg
    have : ∀ l : List (List Int), g ∈ l → Dv q g (prodL l) := fun l => by
      induction l with
      | nil => intro h; cases h
      | cons a l ih =>
        intro h
        rcases List.mem_cons.1 h with z | z
        · subst z; exact Dv.self_mul g _
        · exact (ih z).mulL a
    exact ((hP.dv g hi).1 ((this Fs hg).congr hFs.eq.symm)).1
  have h2 := (h1.len hq hF.nf_ne).2
  rw [dg_congr hFs.eq, hP.mo.dg, hF.dg] at h2
  exact h2
theorem sqf_nodup (hq : IsP q) {P : List Int} {Fs : List (List Int)} (hs : SqF q P) (hF : FactorsOf q P Fs) {j : Nat} (hj : j < Fs.length) : Fs.getD j [] ∉ Fs.take j := fun hm => by
  obtain ⟨g, hg⟩ : ∃ g, Fs.getD j [] = g := ⟨_, rfl⟩
  rw [hg] at hm
  have hgm : g ∈ Fs.drop j := by
    rw [← hg, List.getD_eq_getElem?_getD, List.getElem?_eq_getElem hj]
    refine List.mem_iff_getElem.2 ⟨0, by simp; omega, ?_⟩
    simp
  have dvd : ∀ l : List (List Int), g ∈ l → Dv q g (prodL l) := fun l => by
    induction l with
    | nil => intro h; cases h
    | cons a l ih =>
      intro h
      rcases List.mem_cons.1 h with z | z
      · subst z; exact Dv.self_mul g _
      · exact (ih z).mulL a
  have hi : Irr q g := hF.irr g (List.mem_of_mem_take hm)
  refine hs g hi ((((dvd _ hm).mul (dvd _ hgm)).congr (.of_ev fun x => ?_)).congr hF.eq.symm)
  rw [ev_pmul, ← prodL_app, List.take_append_drop]
theorem Cnt.done {F : List Int} {L0 l : List (List Int)} {N : Nat} (hL : FactorsOf q F L0) (hb : ∀ g ∈ L0, g.length ≤ N + 1) (h : Cnt L0 l N []) : l.Perm L0 := by
  rw [List.perm_iff_count]
  intro g
  rw [h g]
  by_cases hg : g ∈ L0
  · rw [if_pos (Or.inl (by have := hb g hg; omega))]
  · rw [List.count_eq_zero_of_not_mem hg]; simp
end
end Go.Proofs.Ytokdcgmjpnanoaa
