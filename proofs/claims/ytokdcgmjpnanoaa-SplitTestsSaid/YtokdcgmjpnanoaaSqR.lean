/- The radical of a polynomial by a prime: what the derivative has in common with it; what is left is a power by the prime. No function of the program in it. -/
import Derived.Test.YtokdcgmjpnanoaaSpC

set_option linter.unusedVariables false
set_option linter.unusedSimpArgs false
namespace Go.Proofs.Ytokdcgmjpnanoaa

section
variable {q : Nat}
theorem Irr.pow_ne (hq : IsP q) {g : List Int} (hg : Irr q g) : ∀ n, nf q (ppow g n) ≠ []
  | 0 => by show nf q [1] ≠ []; exact (Mo.one hq).nf_ne
  | n + 1 => mul_ne hq hg.mo.nf_ne (hg.pow_ne hq n)
theorem pow_cancel (hq : IsP q) {g a b : List Int} (hg : Irr q g) {n : Nat} (h : E q (pmul (ppow g n) a) (pmul (ppow g n) b)) : E q a b := mul_cancel hq (hg.pow_ne hq n) h
theorem dv_pow_of (hq : IsP q) {g a : List Int} (hg : Irr q g) {n : Nat} (h : Dv q (ppow g (n + 1)) (pmul (ppow g n) a)) : Dv q g a := by
  obtain ⟨k, hk⟩ := h
  refine ⟨k, pow_cancel hq hg (n := n) (hk.trans (.of_ev fun x => ?_))⟩
  simp only [ev_pmul, ev_ppow, Int.pow_succ]; grind
theorem dr_pow (g : List Int) (x : Int) : ∀ m : Nat, ev (dr (ppow g (m + 1))) x = ((m : Int) + 1) * (ev g x ^ m * ev (dr g) x)
  | 0 => by
    have e : ppow g (0 + 1) = pmul g [1] := rfl
    rw [e, dr_mul]; simp [dr, ev, padd]
  | m + 1 => by
    have e : ppow g (m + 1 + 1) = pmul g (ppow g (m + 1)) := rfl
    rw [e, dr_mul, dr_pow g x m, ev_ppow]
    push_cast
    simp only [Int.pow_succ]; grind
/-- An irreducible one's derivative is not 0 by it. -/
theorem Irr.dr_ne (hq : IsP q) {g : List Int} (hg : Irr q g) : ¬ Dv q g (dr g) := fun h => by
  have two := hg.two
  have h1 := small_zero hq hg.mo h (by have := dr_dg hq g; have := hg.mo.dg; omega)
  obtain ⟨r, hr⟩ : ∃ r : List Int, ∀ i, r.getD i 0 % (q : Int) = g.getD (q * i) 0 % (q : Int) := ⟨(List.range g.length).map fun i => g.getD (q * i) 0, fun i => by
    rw [getD_map_range]
    split
    · rfl
    · have : g.length ≤ q * i := Nat.le_trans (by omega) (Nat.le_mul_of_pos_left i hq.pos)
      rw [getD_over' g _ this]⟩
  have h2 := root_pow hq hr h1
  obtain ⟨n, hn⟩ : ∃ n, q = n + 2 := ⟨q - 2, by have := hq.1; omega⟩
  have h3 : Dv q g r := hg.dv_pow hq q ((Dv.refl g).congr h2)
  have h4 : E q g (pmul r (ppow r (n + 1))) := h2.symm.trans (.of_ev fun x => by simp only [ev_ppow, ev_pmul, hn, Int.pow_succ]; grind)
  have h5 : Dv q g (ppow r (n + 1)) := by
    have : ppow r (n + 1) = pmul r (ppow r n) := rfl
    rw [this]; exact h3.mulR _
  rcases hg.no _ _ h4 with h6 | h6
  · have hr0 : nf q r ≠ [] := (ne_of_mul (by rw [← nf_eq h4]; exact hg.mo.nf_ne)).1
    have := (h3.len hq hr0).2
    have := hg.mo.dg; omega
  · have hr0 : nf q (ppow r (n + 1)) ≠ [] := (ne_of_mul (by rw [← nf_eq h4]; exact hg.mo.nf_ne)).2
    have := (h5.len hq hr0).2
    have := hg.mo.dg; omega
theorem mult_ex (hq : IsP q) {g : List Int} (hg : Irr q g) : ∀ (n : Nat) (f : List Int), dg q f ≤ n → nf q f ≠ [] → ∃ m h, E q f (pmul (ppow g m) h) ∧ ¬ Dv q g h
  | 0, f, hn, hf => absurd (dg_zero.1 (by omega)) hf
  | n + 1, f, hn, hf => by
    by_cases h : Dv q g f
    · obtain ⟨k, hk⟩ := h
      have hk0 : nf q k ≠ [] := (ne_of_mul (by rw [← nf_eq hk]; exact hf)).1
      have hd := dg_mul hq hk0 hg.mo.nf_ne
      rw [← dg_congr hk, hg.mo.dg] at hd
      have two := hg.two
      obtain ⟨m, h, he, hn⟩ := mult_ex hq hg n k (by omega) hk0
      exact ⟨m + 1, h, hk.trans ((he.mul (E.refl q g)).trans (.of_ev fun x => by simp only [ev_pmul, ev_ppow, Int.pow_succ]; grind)), hn⟩
    · exact ⟨0, f, .of_ev fun x => by simp [ppow, ev_pmul, ev], h⟩
theorem int_zero_dv {a : Int} {n : Nat} (h : (n : Int) ∣ a) : ∃ b : Int, a = n * b := h
/-- What is once in f: o, where f is o times what f has in common with its derivative. -/
theorem once_of (hq : IsP q) {f o c g : List Int} (hf : nf q f ≠ []) (hc : GcdIs q f (dr f) c) (e : E q f (pmul o c)) (hg : Irr q g) :
    ¬ Dv q (pmul g g) o ∧ (¬ Dv q g o → Dv q g f → ∃ m h, E q f (pmul (ppow g (q * m)) h) ∧ ¬ Dv q g h) := by
  obtain ⟨m, h, he, hn⟩ := mult_ex hq hg _ f (Nat.le_refl _) hf
  have of : Dv q o f := ⟨c, e.trans (.of_ev fun x => by simp only [ev_pmul]; grind)⟩
  cases m with
  | zero =>
    have h1 : ¬ Dv q g f := fun k => hn (k.congr ((he.trans (.of_ev fun x => by simp [ppow, ev_pmul, ev])).symm))
    exact ⟨fun k => h1 (((Dv.self_mul g g).trans k).trans of), fun _ k => absurd k h1⟩
  | succ m =>
    have d1 : E q (dr f) (dr (pmul (ppow g (m + 1)) h)) := dr_E he
    have d2 : E q (dr f) (padd (psc ((m : Int) + 1) (pmul (ppow g m) (pmul (dr g) h))) (pmul (ppow g (m + 1)) (dr h))) := d1.trans (.of_ev fun x => by
      rw [dr_mul, dr_pow]; simp only [ev_padd, ev_psc, ev_pmul, ev_ppow]; grind)
    by_cases hm : (q : Int) ∣ ((m : Int) + 1)
    · obtain ⟨t, ht⟩ := hm
      have d3 : E q (dr f) (pmul (dr h) (ppow g (m + 1))) := d2.trans ⟨psc t (pmul (ppow g m) (pmul (dr g) h)), fun x => by
        simp only [ev_padd, ev_psc, ev_pmul, ev_ppow, ht]; grind⟩
      have d4 : Dv q (ppow g (m + 1)) c := hc.great ⟨h, he.trans (.of_ev fun x => by simp only [ev_pmul]; grind)⟩ ⟨dr h, d3⟩
      obtain ⟨k, hk⟩ := d4
      have d5 : E q h (pmul o k) := pow_cancel hq hg (n := m + 1) (he.symm.trans (e.trans (((E.refl q o).mul hk).trans (.of_ev fun x => by simp only [ev_pmul]; grind))))
      have h1 : ¬ Dv q g o := fun d => hn ((d.mulR k).congr d5)
      refine ⟨fun d => h1 ((Dv.self_mul g g).trans d), fun _ _ => ?_⟩
      obtain ⟨s, hs⟩ : ∃ s : Nat, m + 1 = q * s := by
        have : (q : Int) ∣ ((m + 1 : Nat) : Int) := ⟨t, by push_cast; exact ht⟩
        exact Int.natCast_dvd_natCast.1 this
      exact ⟨s, h, by rw [← hs]; exact he, hn⟩
    · have hm' : ((m : Int) + 1) % (q : Int) ≠ 0 := fun h => hm (Int.dvd_of_emod_eq_zero h)
      obtain ⟨c', hc'⟩ := inv_ex hq hm'
      obtain ⟨r, hr⟩ := one_of_inv hq hc'
      have n1 : ¬ Dv q (ppow g (m + 1)) (dr f) := fun d => by
        have d3 : Dv q (ppow g (m + 1)) (pmul (ppow g m) (psc ((m : Int) + 1) (pmul (dr g) h))) := by
          obtain ⟨k, hk⟩ := d
          refine ⟨padd k (psc (-1) (dr h)), E.trans (g := padd (dr f) (psc (-1) (pmul (ppow g (m + 1)) (dr h)))) ?_ ((hk.add (E.refl q _)).trans (.of_ev fun x => by simp only [ev_padd, ev_psc, ev_pmul]; grind))⟩
          exact E.trans (.of_ev fun x => by simp only [ev_padd, ev_psc, ev_pmul]; grind) ((d2.symm).add (E.refl q _))
        have d4 := dv_pow_of hq hg d3
        have d5 : Dv q g (pmul (dr g) h) := (d4.sc c').congr ⟨psc (-r) (pmul (dr g) h), fun x => by
          have : (1 : Int) = ((m : Int) + 1) * c' - q * r := by omega
          simp only [ev_psc, ev_pmul]; grind⟩
        rcases hg.euclid hq d5 with d6 | d6
        · exact hg.dr_ne hq d6
        · exact hn d6
      have d4 : Dv q (ppow g m) c := hc.great ⟨pmul g h, he.trans (.of_ev fun x => by simp only [ev_pmul, ev_ppow, Int.pow_succ]; grind)⟩ ⟨padd (psc ((m : Int) + 1) (pmul (dr g) h)) (pmul g (dr h)), d2.trans (.of_ev fun x => by simp only [ev_pmul, ev_ppow, ev_padd, ev_psc, Int.pow_succ]; grind)⟩
      obtain ⟨k, hk⟩ := d4
      have d5 : E q (pmul g h) (pmul o k) := pow_cancel hq hg (n := m) (E.trans (.of_ev fun x => by simp only [ev_pmul, ev_ppow, Int.pow_succ]; grind) (he.symm.trans (e.trans (((E.refl q o).mul hk).trans (.of_ev fun x => by simp only [ev_pmul]; grind)))))
      have n2 : ¬ Dv q g k := fun d => n1 ((show Dv q (ppow g (m + 1)) c by
        obtain ⟨j, hj⟩ := d
        exact ⟨j, hk.trans ((hj.mul (E.refl q _)).trans (.of_ev fun x => by simp only [ev_pmul, ev_ppow, Int.pow_succ]; grind))⟩).trans hc.dvG)
      constructor
      · intro d
        have d6 : Dv q (pmul g g) (pmul g h) := (d.mulR k).congr d5
        obtain ⟨j, hj⟩ := d6
        exact hn ⟨j, mul_cancel hq hg.mo.nf_ne (hj.trans (.of_ev fun x => by simp only [ev_pmul]; grind))⟩
      · intro no _
        rcases hg.euclid hq ((Dv.self_mul g h).congr d5.symm) with d | d
        · exact absurd d no
        · exact absurd d n2

theorem Cop.pow {g f : List Int} (h : Cop q g f) : ∀ n, Cop q (ppow g n) f
  | 0 => ⟨[1], [], .of_ev fun x => by simp [ppow, ev_padd, ev_pmul, ev]⟩
  | n + 1 => (Cop.mul h.symm (h.pow n).symm).symm
/-- The way of the radical: o is what is once, c what is left, s what was shared at last. -/
structure RadInv (q : Nat) (f o c s : List Int) : Prop where
  mc : Mo q c
  ms : Mo q s
  cf : Dv q c f
  A : ∀ g, Irr q g → Dv q g o → Dv q g c → Dv q g s
  B : ∀ g, Irr q g → Dv q g s → Dv q g o
  C : ∀ g, Irr q g → Dv q g f → Dv q g o ∨ Dv q g c
  D : ∀ g, Irr q g → ¬ Dv q g o → ∀ m, Dv q (ppow g m) f → Dv q (ppow g m) c
theorem RadInv.start (hq : IsP q) {f o c : List Int} (ho : Mo q o) (hc : Mo q c) (e : E q f (pmul o c)) : RadInv q f o c o where
  mc := hc
  ms := ho
  cf := ⟨o, e⟩
  A := fun g _ h _ => h
  B := fun g _ h => h
  C := fun g hg h => hg.euclid hq (h.congr e.symm)
  D := fun g hg h m d => by
    rcases hg.dv_or hq o with h1 | h1
    · exact absurd h1 h
    · exact (h1.pow m).dv_of (d.congr e.symm)
theorem RadInv.step (hq : IsP q) {f o c s c' s' : List Int} (h : RadInv q f o c s) (hc' : Mo q c') (hs' : Mo q s') (hg : GcdIs q c (pmul s s) s') (e : E q c (pmul c' s')) : RadInv q f o c' s' := by
  have dc : Dv q c' c := ⟨s', e.trans (.of_ev fun x => by simp only [ev_pmul]; grind)⟩
  have hB : ∀ g, Irr q g → Dv q g s' → Dv q g o := fun g hi d => by
    rcases hi.euclid hq (d.trans hg.dvG) with h1 | h1 <;> exact h.B g hi h1
  refine ⟨hc', hs', dc.trans h.cf, fun g hi h1 h2 => ?_, hB, fun g hi d => ?_, fun g hi no m d => ?_⟩
  · have h3 := h.A g hi h1 (h2.trans dc)
    exact hg.great (h2.trans dc) (h3.mulR s)
  · rcases h.C g hi d with h1 | h1
    · exact Or.inl h1
    · rcases hi.euclid hq (h1.congr e.symm) with h2 | h2
      · exact Or.inr h2
      · exact Or.inl (hB g hi h2)
  · have h1 := h.D g hi no m d
    rcases hi.dv_or hq s' with h2 | h2
    · exact absurd (hB g hi h2) no
    · exact (h2.pow m).dv_of (h1.congr (E.trans (.of_ev fun x => by simp only [ev_pmul]; grind) e.symm))
/-- Each factor as often as a multiple of q: a power by q. -/
theorem all_q (hq : IsP q) : ∀ (n : Nat) (c : List Int), dg q c ≤ n → nf q c ≠ [] → (∀ g, Irr q g → Dv q g c → ∃ m k, E q c (pmul (ppow g (q * m)) k) ∧ ¬ Dv q g k) → ∃ r, E q c (ppow r q)
  | 0, c, hn, h0, _ => absurd (dg_zero.1 (by omega)) h0
  | n + 1, c, hn, h0, h => by
    by_cases h2 : 2 ≤ dg q c
    · obtain ⟨g, hg, hd⟩ := irr_factor hq _ c (Nat.le_refl _) h2
      obtain ⟨m, k, he, hk⟩ := h g hg hd
      have hk0 : nf q k ≠ [] := (ne_of_mul (by rw [← nf_eq he]; exact h0)).2
      have hm : ∃ j, q * m = j + 1 := by
        refine ⟨q * m - 1, ?_⟩
        have : q * m ≠ 0 := fun z => hk (by
          rw [z] at he
          exact hd.congr ((he.trans (.of_ev fun x => by simp [ppow, ev_pmul, ev])).symm))
        omega
      obtain ⟨j, hj⟩ := hm
      have hdl : dg q k < dg q c := by
        have e1 := dg_mul hq (hg.pow_ne hq (q * m)) hk0
        rw [← dg_congr he] at e1
        have d1 : Dv q g (ppow g (q * m)) := by rw [hj]; exact Dv.self_mul g (ppow g j)
        have := (d1.len hq (hg.pow_ne hq _)).2
        have := hg.mo.dg; have := hg.two
        omega
      obtain ⟨r, hr⟩ := all_q hq n k (by omega) hk0 (fun g' hg' d' => by
        have dc : Dv q k c := ⟨ppow g (q * m), he⟩
        obtain ⟨m', k', he', hk'⟩ := h g' hg' (d'.trans dc)
        have hgg : ¬ Dv q g' g := fun z => by
          have := hg'.eq hq hg z
          rw [this] at d'; exact hk d'
        have cop : Cop q (ppow g' (q * m')) (ppow g (q * m)) := by
          rcases hg'.dv_or hq g with z | z
          · exact absurd z hgg
          · exact ((z.pow _).symm.pow _).symm
        have d1 : Dv q (ppow g' (q * m')) k := cop.dv_of ((Dv.self_mul (ppow g' (q * m')) k').congr (he.symm.trans he'))
        obtain ⟨k2, hk2⟩ := d1
        refine ⟨m', k2, hk2.trans (.of_ev fun x => by simp only [ev_pmul]; grind), fun z => hk' ?_⟩
        have e3 : E q (pmul (ppow g' (q * m')) k') (pmul (ppow g' (q * m')) (pmul (ppow g (q * m)) k2)) := he'.symm.trans (he.trans (((E.refl q _).mul hk2).trans (.of_ev fun x => by simp only [ev_pmul]; grind)))
        exact (z.mulL _).congr (pow_cancel hq hg' e3))
      refine ⟨pmul (ppow g m) r, he.trans (((E.refl q _).mul hr).trans (.of_ev fun x => ?_))⟩
      simp only [ev_pmul, ev_ppow]
      rw [Int.mul_pow, ← Int.pow_mul, Nat.mul_comm]
    · have h1 := E.refl q c
      have hl : (nf q c).length ≤ 1 := by unfold dg at h2; omega
      obtain ⟨a, ha⟩ : ∃ a, nf q c = [a] := by
        match e : nf q c, h0, hl with
        | [a], _, _ => exact ⟨a, rfl⟩
      have e2 : E q c [a] := by have := (nf_E q c).symm; rwa [ha] at this
      exact ⟨[a], e2.trans (con_fermat hq a).symm⟩
theorem dr_pow_q (hq : IsP q) {r c : List Int} (h : E q c (ppow r q)) : E q (dr c) [] := by
  refine (dr_E h).trans ?_
  obtain ⟨n, hn⟩ : ∃ n, q = n + 1 := ⟨q - 1, by have := hq.1; omega⟩
  refine ⟨pmul (ppow r n) (dr r), fun x => ?_⟩
  have := dr_pow r x n
  have e : ((n : Int) + 1) = (q : Int) := by rw [hn]; push_cast; rfl
  rw [e] at this
  rw [show ppow r q = ppow r (n + 1) by rw [hn], this]
  simp only [ev_pmul, ev_ppow, ev]; omega
/-- Every q-th coefficient. -/
def rootL (q : Nat) (f : List Int) : List Int := (List.range ((f.length + (q - 1)) / q)).map fun i => f.getD (q * i) 0
theorem rootL_getD (hq : IsP q) (f : List Int) (i : Nat) : (rootL q f).getD i 0 = f.getD (q * i) 0 := by
  unfold rootL
  rw [getD_map_range]
  split
  · rfl
  · rename_i h
    have h0 := hq.pos
    rw [getD_over' f]
    have h1 : (f.length + (q - 1)) / q ≤ i := by omega
    have h2 := Nat.lt_mul_of_div_lt (Nat.lt_succ_of_le h1) h0
    rw [Nat.succ_eq_add_one, Nat.add_mul, Nat.one_mul, Nat.mul_comm] at h2
    omega
/-- What is left is a power of its root by q. -/
theorem root_of (hq : IsP q) {c : List Int} (hc : Mo q c) (hd : E q (dr c) []) : E q (ppow (rootL q c) q) c ∧ Mo q (rootL q c) ∧ (2 ≤ c.length → (rootL q c).length < c.length) ∧ (c.length ≤ 1 → rootL q c = [1]) := by
  have hq0 := hq.pos
  have hp := root_pow hq (r := rootL q c) (f := c) (fun i => by rw [rootL_getD hq]) hd
  have hl := List.length_pos_iff.2 hc.ne
  have hm : (c.length - 1) % q = 0 := by
    have h1 := E_cf ((pow_spread hq (rootL q c)).symm.trans hp) (c.length - 1)
    rw [getD_spread hq0, hc.top] at h1
    by_cases h2 : (c.length - 1) % q = 0
    · exact h2
    · rw [if_neg h2] at h1
      exfalso
      have := hq.1
      rw [Int.emod_eq_of_lt (a := 1) (by omega) (by omega)] at h1
      simp at h1
  obtain ⟨t, ht⟩ := Nat.dvd_of_mod_eq_zero hm
  have hlen : (rootL q c).length = t + 1 := by
    unfold rootL
    rw [List.length_map, List.length_range, show c.length + (q - 1) = q * t + q by omega, Nat.add_div_right _ hq0, Nat.mul_div_cancel_left _ hq0]
  refine ⟨hp, ⟨⟨fun i => by rw [rootL_getD hq]; exact hc.pl.1 _, fun _ => ?_⟩, ?_, ?_⟩, fun h => ?_, fun h => ?_⟩
  · rw [hlen, Nat.add_sub_cancel, rootL_getD hq, ← ht, hc.top]; decide
  · intro h; rw [h] at hlen; simp at hlen
  · rw [hlen, Nat.add_sub_cancel, rootL_getD hq, ← ht, hc.top]
  · rw [hlen]
    have : 2 * t ≤ q * t := Nat.mul_le_mul_right t hq.1
    have : t ≠ 0 := by rintro rfl; omega
    omega
  · have h1 : c = [1] := hc.is_one hq h
    have h2 : t = 0 := by
      rcases Nat.eq_zero_or_pos t with z | z
      · exact z
      · have := Nat.mul_le_mul hq.1 z; omega
    subst h2
    unfold rootL
    rw [h1]
    have : ([1] : List Int).length + (q - 1) = q := by simp; omega
    rw [this, Nat.div_self hq0]; rfl
def RadOf (q : Nat) (f R : List Int) : Prop := Mo q R ∧ SqF q R ∧ ∀ g, Irr q g → (Dv q g R ↔ Dv q g f)
theorem RadOf.one (hq : IsP q) : RadOf q [1] [1] := ⟨Mo.one hq, fun g hg h => hg.not_one hq (dg_one hq) ((Dv.self_mul g g).trans h), fun g _ => Iff.rfl⟩
/-- Behind the loop. -/
theorem RadInv.root (hq : IsP q) {f o c : List Int} (hf : Mo q f) (h : RadInv q f o c [1]) (h1 : ∀ g, Irr q g → ¬ Dv q g o → Dv q g f → ∃ m h, E q f (pmul (ppow g (q * m)) h) ∧ ¬ Dv q g h) : E q (dr c) [] := by
  have no : ∀ g, Irr q g → Dv q g c → ¬ Dv q g o := fun g hg hc ho => hg.not_one hq (dg_one hq) (h.A g hg ho hc)
  obtain ⟨r, hr⟩ := all_q hq _ c (Nat.le_refl _) h.mc.nf_ne (fun g hg d => by
    obtain ⟨m, k, he, hk⟩ := h1 g hg (no g hg d) (d.trans h.cf)
    have d1 := h.D g hg (no g hg d) (q * m) ⟨k, he.trans (.of_ev fun x => by simp only [ev_pmul]; grind)⟩
    obtain ⟨k2, hk2⟩ := d1
    refine ⟨m, k2, hk2.trans (.of_ev fun x => by simp only [ev_pmul]; grind), fun z => hk ?_⟩
    obtain ⟨j, hj⟩ := h.cf
    have e3 : E q (pmul (ppow g (q * m)) k) (pmul (ppow g (q * m)) (pmul j k2)) := he.symm.trans (hj.trans (((E.refl q j).mul hk2).trans (.of_ev fun x => by simp only [ev_pmul]; grind)))
    exact (z.mulL _).congr (pow_cancel hq hg e3))
  exact dr_pow_q hq hr
theorem mo_mul (hq : IsP q) {a b : List Int} (ha : Mo q a) (hb : Mo q b) : Mo q (nf q (pmul a b)) := by
  have hq0 := hq.pos
  have ht := top_mul b hb.ne a ha.ne
  rw [ha.top, hb.top, Int.mul_one] at ht
  have hl := pmul_len1 a b ha.ne hb.ne
  have hal := List.length_pos_iff.2 ha.ne
  have hbl := List.length_pos_iff.2 hb.ne
  have h1 : (nf q (pmul a b)).getD (a.length + b.length - 2) 0 = 1 := by
    rw [getD_nf, ht]; exact Int.emod_eq_of_lt (by omega) (by have := hq.1; omega)
  have h2 : (nf q (pmul a b)).length = a.length + b.length - 1 := by
    have h3 := nf_len q (pmul a b)
    rcases Nat.lt_or_ge (a.length + b.length - 2) (nf q (pmul a b)).length with h4 | h4
    · omega
    · rw [getD_over' _ _ h4] at h1; cases h1
  exact ⟨nf_plain hq0 _, (by intro h; rw [h] at h2; simp at h2; omega), by rw [h2, show a.length + b.length - 1 - 1 = a.length + b.length - 2 by omega]; exact h1⟩
theorem mo_mul_len (hq : IsP q) {a b : List Int} (ha : Mo q a) (hb : Mo q b) : (nf q (pmul a b)).length + 1 = a.length + b.length := by
  have := dg_mul hq ha.nf_ne hb.nf_ne
  rw [ha.dg, hb.dg] at this
  exact this
theorem RadInv.done (hq : IsP q) {f o c rt R : List Int} (ho : Mo q o) (of : Dv q o f) (h : RadInv q f o c [1]) (h2 : ∀ g, Irr q g → ¬ Dv q (pmul g g) o) (hrt : E q (ppow rt q) c) (hR : RadOf q rt R) : RadOf q f (nf q (pmul o R)) := by
  have no : ∀ g, Irr q g → Dv q g c → ¬ Dv q g o := fun g hg hc ho => hg.not_one hq (dg_one hq) (h.A g hg ho hc)
  obtain ⟨n, hn⟩ : ∃ n, q = n + 1 := ⟨q - 1, by have := hq.1; omega⟩
  have rc : Dv q rt c := by
    refine Dv.congr ?_ hrt.symm
    have e : ppow rt q = pmul rt (ppow rt n) := by rw [hn]; rfl
    rw [e]; exact Dv.self_mul rt _
  have eE := nf_E q (pmul o R)
  refine ⟨mo_mul hq ho hR.1, fun g hg d => ?_, fun g hg => ⟨fun d => ?_, fun d => ?_⟩⟩
  · have d1 : Dv q (pmul g g) (pmul o R) := d.congr eE.symm
    by_cases h3 : Dv q g o
    · have h4 : ¬ Dv q g R := fun z => no g hg (((hR.2.2 g hg).1 z).trans rc) h3
      rcases hg.dv_or hq R with z | z
      · exact h4 z
      · have z2 : Cop q (pmul g g) R := (Cop.mul z.symm z.symm).symm
        exact h2 g hg (z2.dv_of (d1.congr (.of_ev fun x => by simp only [ev_pmul]; grind)))
    · rcases hg.dv_or hq o with z | z
      · exact h3 z
      · have z2 : Cop q (pmul g g) o := (Cop.mul z.symm z.symm).symm
        exact hR.2.1 g hg (z2.dv_of d1)
  · rcases hg.euclid hq (d.congr eE.symm) with z | z
    · exact z.trans of
    · exact (((hR.2.2 g hg).1 z).trans rc).trans h.cf
  · refine Dv.congr ?_ eE
    rcases h.C g hg d with z | z
    · exact z.mulR R
    · exact ((hR.2.2 g hg).2 (hg.dv_pow hq q (z.congr hrt))).mulL o
end
end Go.Proofs.Ytokdcgmjpnanoaa
