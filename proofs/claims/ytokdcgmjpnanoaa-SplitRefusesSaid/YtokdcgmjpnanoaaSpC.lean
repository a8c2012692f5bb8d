/- Merged: SpN SpF SpB SpS SpL SpC. -/
import Derived.Test.YtokdcgmjpnanoaaJaO
/- Polynomials by a prime: divisors, division, common divisors, irreducible ones; factors are unique. No function of the program in it. -/
set_option linter.unusedVariables false
set_option linter.unusedSimpArgs false
namespace Go.Proofs.Ytokdcgmjpnanoaa

/-- g divides f. -/
def Dv (q : Nat) (g f : List Int) : Prop := ∃ k, E q f (pmul k g)
/-- The length of the plain form. -/
def dg (q : Nat) (f : List Int) : Nat := (nf q f).length
def Cop (q : Nat) (f g : List Int) : Prop := Span q [1] f g
/-- Monic, not 0. -/
structure Mo (q : Nat) (d : List Int) : Prop where
  pl : Plain q d
  ne : d ≠ []
  top : d.getD (d.length - 1) 0 = 1

section
variable {q : Nat}
theorem IsP.pos (hq : IsP q) : 0 < q := by have := hq.1; omega
theorem Mo.mon {d : List Int} (h : Mo q d) : Mon q d := ⟨h.pl, fun _ => h.top⟩
theorem Mon.mo {d : List Int} (h : Mon q d) (h0 : d ≠ []) : Mo q d := ⟨h.1, h0, h.2 h0⟩

theorem Dv.refl (f : List Int) : Dv q f f := ⟨[1], .of_ev fun x => by simp [ev_pmul, ev]⟩
theorem Dv.zero (f : List Int) : Dv q f [] := ⟨[], .of_ev fun x => by simp [ev_pmul, ev]⟩
theorem Dv.trans {a b c : List Int} (h : Dv q a b) (k : Dv q b c) : Dv q a c := by
  obtain ⟨u, e, hu⟩ := h; obtain ⟨v, f, hv⟩ := k
  exact ⟨pmul v u, padd f (pmul v e), fun x => by have := hu x; have := hv x; simp only [ev_padd, ev_pmul] at *; grind⟩
theorem Dv.congr {a b b' : List Int} (h : Dv q a b) (e : E q b' b) : Dv q a b' := by
  obtain ⟨k, h⟩ := h; exact ⟨k, e.trans h⟩
theorem Dv.congrL {a a' b : List Int} (e : E q a a') (h : Dv q a b) : Dv q a' b := by
  obtain ⟨k, h⟩ := h; exact ⟨k, h.trans ((E.refl q k).mul e)⟩
theorem Dv.mulL {a b : List Int} (c : List Int) (h : Dv q a b) : Dv q a (pmul c b) := by
  obtain ⟨u, e, hu⟩ := h
  exact ⟨pmul c u, pmul c e, fun x => by have := hu x; simp only [ev_pmul] at *; grind⟩
theorem Dv.mulR {a b : List Int} (c : List Int) (h : Dv q a b) : Dv q a (pmul b c) := by
  obtain ⟨u, e, hu⟩ := h
  exact ⟨pmul c u, pmul c e, fun x => by have := hu x; simp only [ev_pmul] at *; grind⟩
theorem Dv.self_mul (a c : List Int) : Dv q a (pmul a c) := (Dv.refl a).mulR c
theorem Dv.mul_self (a c : List Int) : Dv q a (pmul c a) := (Dv.refl a).mulL c
theorem Dv.add {a b c : List Int} (h : Dv q a b) (k : Dv q a c) : Dv q a (padd b c) := by
  obtain ⟨u, e, hu⟩ := h; obtain ⟨v, f, hv⟩ := k
  exact ⟨padd u v, padd e f, fun x => by have := hu x; have := hv x; simp only [ev_padd, ev_pmul] at *; grind⟩
theorem Dv.sc {a b : List Int} (c : Int) (h : Dv q a b) : Dv q a (psc c b) := by
  obtain ⟨u, e, hu⟩ := h
  exact ⟨psc c u, psc c e, fun x => by have := hu x; simp only [ev_psc, ev_pmul] at *; grind⟩
theorem Dv.mul {a b c d : List Int} (h : Dv q a b) (k : Dv q c d) : Dv q (pmul a c) (pmul b d) := by
  obtain ⟨u, e, hu⟩ := h; obtain ⟨v, f, hv⟩ := k
  exact ⟨pmul u v, padd (padd (pmul e (pmul v c)) (pmul (pmul u a) f)) (psc q (pmul e f)), fun x => by have := hu x; have := hv x; simp only [ev_padd, ev_pmul, ev_psc] at *; grind⟩
theorem Span.dv {d h f g : List Int} (k : Span q h f g) (hf : Dv q d f) (hg : Dv q d g) : Dv q d h := by
  obtain ⟨a, b, k⟩ := k
  exact ((hf.mulL a).add (hg.mulL b)).congr k
theorem dv_M {m f : List Int} : Dv q m f ↔ M q m f [] := by
  constructor
  · rintro ⟨k, a, ha⟩
    exact ⟨k, a, fun x => by have := ha x; simp only [ev_pmul, ev] at *; grind⟩
  · rintro ⟨k, a, ha⟩
    exact ⟨k, a, fun x => by have := ha x; simp only [ev_pmul, ev] at *; grind⟩
theorem M_dv {m f g : List Int} : M q m f g ↔ Dv q m (padd f (psc (-1) g)) := by
  constructor
  · rintro ⟨k, a, ha⟩
    exact ⟨k, a, fun x => by have := ha x; simp only [ev_pmul, ev_padd, ev_psc] at *; grind⟩
  · rintro ⟨k, a, ha⟩
    exact ⟨k, a, fun x => by have := ha x; simp only [ev_pmul, ev_padd, ev_psc] at *; grind⟩
theorem M.dv {m d f g : List Int} (h : M q m f g) (hd : Dv q d m) : M q d f g := M_dv.2 (hd.trans (M_dv.1 h))
theorem M.refl (m f : List Int) : M q m f f := (E.refl q f).m m

/-! ### Lengths -/
theorem dg_congr {f g : List Int} (h : E q f g) : dg q f = dg q g := by unfold dg; rw [nf_eq h]
theorem dg_zero {f : List Int} : dg q f = 0 ↔ nf q f = [] := by unfold dg; exact List.length_eq_zero_iff
theorem nf_zero {f : List Int} : nf q f = [] ↔ E q f [] := by
  constructor
  · intro h; have := (nf_E q f).symm; rw [h] at this; exact this
  · intro h; rw [nf_eq h, nf_nil]
theorem dg_plain {f : List Int} (h : Plain q f) : dg q f = f.length := by unfold dg; rw [nf_self h]
theorem nf_short (hq : IsP q) {f : List Int} {n : Nat} (h : ∀ i, n ≤ i → f.getD i 0 % (q : Int) = 0) : dg q f ≤ n := by
  rcases Nat.lt_or_ge n (dg q f) with h1 | h1
  · exfalso
    have hp := nf_plain hq.pos f
    have h2 := hp.2 (by intro e; unfold dg at h1; rw [e] at h1; simp at h1)
    rw [getD_nf] at h2
    exact h2 (h _ (by unfold dg at h1; omega))
  · exact h1
theorem pmul_len1 : ∀ (f g : List Int), f ≠ [] → g ≠ [] → (pmul f g).length = f.length + g.length - 1
  | [], _, h, _ => absurd rfl h
  | [a], g, _, hg => by
    have := List.length_pos_iff.2 hg
    simp only [pmul, padd_len, psc_len, List.length_cons, List.length_nil]; omega
  | a :: b :: f, g, _, hg => by
    have := List.length_pos_iff.2 hg
    have ih := pmul_len1 (b :: f) g (by simp) hg
    have e : pmul (a :: b :: f) g = padd (psc a g) (0 :: pmul (b :: f) g) := rfl
    rw [e, padd_len, psc_len, List.length_cons, ih]
    simp only [List.length_cons]; omega
theorem dg_mul (hq : IsP q) {a b : List Int} (ha : nf q a ≠ []) (hb : nf q b ≠ []) : dg q (pmul a b) + 1 = dg q a + dg q b := by
  have hpa := nf_plain hq.pos a; have hpb := nf_plain hq.pos b
  have e : E q (pmul a b) (pmul (nf q a) (nf q b)) := (nf_E q a).symm.mul (nf_E q b).symm
  rw [dg_congr e]
  have la := List.length_pos_iff.2 ha; have lb := List.length_pos_iff.2 hb
  have h1 := pmul_len1 _ _ ha hb
  have h2 := nf_len q (pmul (nf q a) (nf q b))
  have h3 := top_mul (nf q b) hb (nf q a) ha
  have h4 : (nf q a).length + (nf q b).length - 2 < dg q (pmul (nf q a) (nf q b)) := by
    rcases Nat.lt_or_ge ((nf q a).length + (nf q b).length - 2) (dg q (pmul (nf q a) (nf q b))) with h | h
    · exact h
    · exfalso
      have h5 := getD_over' (nf q (pmul (nf q a) (nf q b))) _ h
      rw [getD_nf, h3] at h5
      rcases prime_dvd hq (hpa.1 _) (hpb.1 _) h5 with h6 | h6
      · exact hpa.2 ha h6
      · exact hpb.2 hb h6
  unfold dg at *; omega
theorem mul_ne (hq : IsP q) {a b : List Int} (ha : nf q a ≠ []) (hb : nf q b ≠ []) : nf q (pmul a b) ≠ [] := by
  have h := dg_mul hq ha hb
  have la := List.length_pos_iff.2 ha; have lb := List.length_pos_iff.2 hb
  intro e; rw [← dg_zero] at e; unfold dg at *; omega
theorem mul_zero_or (hq : IsP q) {a b : List Int} (h : E q (pmul a b) []) : E q a [] ∨ E q b [] := by
  by_cases ha : nf q a = []
  · exact .inl (nf_zero.1 ha)
  · by_cases hb : nf q b = []
    · exact .inr (nf_zero.1 hb)
    · exact absurd (nf_zero.2 h) (mul_ne hq ha hb)
theorem ne_of_mul {a b : List Int} (h : nf q (pmul a b) ≠ []) : nf q a ≠ [] ∧ nf q b ≠ [] := by
  constructor
  · intro e; apply h; rw [nf_zero] at e ⊢
    exact (e.mul (E.refl q b)).trans (.of_ev fun x => by simp [ev_pmul, ev])
  · intro e; apply h; rw [nf_zero] at e ⊢
    exact ((E.refl q a).mul e).trans (.of_ev fun x => by simp [ev_pmul, ev])
theorem Dv.len (hq : IsP q) {g f : List Int} (h : Dv q g f) (hf : nf q f ≠ []) : nf q g ≠ [] ∧ dg q g ≤ dg q f := by
  obtain ⟨k, h⟩ := h
  rw [nf_eq h] at hf
  obtain ⟨h1, h2⟩ := ne_of_mul hf
  refine ⟨h2, ?_⟩
  have h3 := dg_mul hq h1 h2
  rw [dg_congr h]
  have := List.length_pos_iff.2 h1
  unfold dg at *; omega
theorem mul_cancel (hq : IsP q) {g a b : List Int} (hg : nf q g ≠ []) (h : E q (pmul g a) (pmul g b)) : E q a b := by
  obtain ⟨e, he⟩ := h
  have h1 : E q (pmul g (padd a (psc (-1) b))) [] := ⟨e, fun x => by have := he x; simp only [ev_pmul, ev_padd, ev_psc, ev] at *; grind⟩
  rcases mul_zero_or hq h1 with h2 | ⟨e2, h2⟩
  · exact absurd (nf_zero.2 h2) hg
  · exact ⟨e2, fun x => by have := h2 x; simp only [ev_padd, ev_psc, ev] at *; grind⟩

/-! ### Inverses, monic multiples -/
theorem inv_ex (hq : IsP q) {c : Int} (hc : c % (q : Int) ≠ 0) : ∃ c' : Int, (c * c') % (q : Int) = 1 := by
  have hq0 := hq.pos
  have h0 : 0 ≤ c % (q : Int) := Int.emod_nonneg _ (by omega)
  have h1 : c % (q : Int) < q := Int.emod_lt_of_pos _ (by omega)
  obtain ⟨n, hn⟩ : ∃ n : Nat, c % (q : Int) = n := ⟨(c % (q : Int)).toNat, by omega⟩
  have h2 : n % q ≠ 0 := by rw [Nat.mod_eq_of_lt (by omega)]; omega
  have h3 := inverse_mod hq h2
  refine ⟨((n ^ (q - 2) : Nat) : Int), ?_⟩
  have h4 : (c * ((n ^ (q - 2) : Nat) : Int)) % (q : Int) = ((n * n ^ (q - 2) % q : Nat) : Int) := by
    rw [Int.natCast_emod, Int.natCast_mul, Int.mul_emod, Int.mul_emod (n : Int), ← hn, Int.emod_emod]
  rw [h4, h3]; rfl
theorem one_of_inv (hq : IsP q) {c c' : Int} (h : (c * c') % (q : Int) = 1) : ∃ r : Int, c * c' = 1 + q * r := by
  have h1 := Int.emod_add_mul_ediv (c * c') q
  rw [h] at h1
  exact ⟨_, h1.symm⟩
theorem mo_ex (hq : IsP q) {f : List Int} (hf : nf q f ≠ []) : ∃ (c c' : Int) (d : List Int), (c * c') % (q : Int) = 1 ∧ Mo q d ∧ E q d (psc c f) ∧ E q f (psc c' d) ∧ d.length = dg q f := by
  have hp := nf_plain hq.pos f
  have l1 := List.length_pos_iff.2 hf
  have ht := hp.2 hf
  have hr := hp.1 ((nf q f).length - 1)
  obtain ⟨c, hc⟩ := inv_ex hq (c := (nf q f).getD ((nf q f).length - 1) 0) (by rw [Int.emod_eq_of_lt hr.1 hr.2]; exact ht)
  obtain ⟨r, hr2⟩ := one_of_inv hq hc
  obtain ⟨t, htt⟩ : ∃ t, (nf q f).getD ((nf q f).length - 1) 0 = t := ⟨_, rfl⟩
  rw [htt] at hc hr2 ht
  have hlen : dg q (psc c (nf q f)) = (nf q f).length := by
    apply Nat.le_antisymm
    · have := nf_len q (psc c (nf q f)); rw [psc_len] at this; exact this
    · rcases Nat.lt_or_ge (dg q (psc c (nf q f))) (nf q f).length with h | h
      · exfalso
        have h5 := getD_over' (nf q (psc c (nf q f))) ((nf q f).length - 1) (by unfold dg at h; omega)
        rw [getD_nf, getD_psc, htt, Int.mul_comm, hc] at h5
        exact absurd h5 (by decide)
      · exact h
  refine ⟨c, t, nf q (psc c (nf q f)), by rw [Int.mul_comm]; exact hc, ⟨nf_plain hq.pos _, ?_, ?_⟩, ?_, ?_, ?_⟩
  · intro e; rw [← dg_zero, hlen] at e; omega
  · have e : (nf q (psc c (nf q f))).length = (nf q f).length := hlen
    rw [e, getD_nf, getD_psc, htt, Int.mul_comm, hc]
  · exact (nf_E q _).trans ((nf_E q f).sc c)
  · have h1 := (nf_E q (psc c (nf q f))).trans ((nf_E q f).sc c)
    obtain ⟨e, he⟩ := h1
    exact ⟨padd (psc (-r) f) (psc (-t) e), fun x => by have := he x; simp only [ev_padd, ev_psc] at *; grind⟩
  · exact hlen
theorem Dv.unit {f g : List Int} {c c' : Int} (hq : IsP q) (h : (c * c') % (q : Int) = 1) (e : E q g (psc c f)) : Dv q f g ∧ Dv q g f := by
  obtain ⟨r, hr⟩ := one_of_inv hq h
  constructor
  · exact ⟨[c], e.trans (.of_ev fun x => by simp [ev_pmul, ev_psc, ev])⟩
  · obtain ⟨a, ha⟩ := e
    exact ⟨[c'], padd (psc (-r) f) (psc (-c') a), fun x => by have := ha x; simp only [ev_padd, ev_psc, ev_pmul, ev] at *; grind⟩
theorem Mo.eq_of_dv (hq : IsP q) {a b : List Int} (ha : Mo q a) (hb : Mo q b) (h : Dv q a b) (k : Dv q b a) : a = b :=
  ha.mon.unique hq hb.mon k h
theorem Mo.nf_ne {a : List Int} (ha : Mo q a) : nf q a ≠ [] := by rw [nf_self ha.pl]; exact ha.ne
theorem Mo.dg {a : List Int} (ha : Mo q a) : dg q a = a.length := dg_plain ha.pl
theorem Mo.one (hq : IsP q) : Mo q [1] := by
  have := hq.1
  refine ⟨⟨fun i => ?_, fun _ => by decide⟩, by simp, rfl⟩
  cases i with
  | zero => simp; omega
  | succ i => simp; omega
theorem Mo.is_one (hq : IsP q) {a : List Int} (ha : Mo q a) (h : a.length ≤ 1) : a = [1] := by
  match a, ha.ne, h with
  | [x], _, _ => have := ha.top; simp at this; rw [this]
theorem Mo.same_len (hq : IsP q) {a b : List Int} (ha : Mo q a) (hb : Mo q b) (h : Dv q a b) (hl : b.length ≤ a.length) : a = b := by
  obtain ⟨k, h⟩ := h
  have h0 : nf q (pmul k a) ≠ [] := by rw [← nf_eq h]; exact hb.nf_ne
  obtain ⟨k0, -⟩ := ne_of_mul h0
  have h1 := dg_mul hq k0 ha.nf_ne
  rw [← dg_congr h, hb.dg, ha.dg] at h1
  have h2 : (nf q k).length = 1 := by have := List.length_pos_iff.2 k0; unfold Go.Proofs.Ytokdcgmjpnanoaa.dg at h1; omega
  obtain ⟨c, hc⟩ := List.length_eq_one_iff.1 h2
  have h3 : E q b (psc c a) := by
    have := (nf_E q k).symm; rw [hc] at this
    exact h.trans ((this.mul (E.refl q a)).trans (.of_ev fun x => by simp [ev_pmul, ev_psc, ev]))
  have hl1 : a.length = b.length := by unfold Go.Proofs.Ytokdcgmjpnanoaa.dg at h1; omega
  have h4 := E_cf h3 (b.length - 1)
  rw [getD_psc, hb.top, ← hl1, ha.top, Int.mul_one] at h4
  have hc2 : 0 ≤ c ∧ c < q := by have := (nf_plain hq.pos k).1 0; rw [hc] at this; exact this
  have := hq.1
  rw [Int.emod_eq_of_lt hc2.1 hc2.2, Int.emod_eq_of_lt (by omega) (by omega)] at h4
  subst h4
  exact (hb.pl.ext ha.pl (h3.trans (.of_ev fun x => by rw [ev_psc, Int.one_mul]))).symm

/-! ### Division and the greatest common divisor -/
theorem div_ex (hq : IsP q) {g : List Int} (hg : nf q g ≠ []) : ∀ f : List Int, ∃ Q R, E q f (padd (pmul Q g) R) ∧ dg q R < dg q g
  | [] => ⟨[], [], .of_ev fun x => by simp [ev_padd, ev_pmul, ev], by
      have := List.length_pos_iff.2 hg; simpa [dg, nf_nil] using this⟩
  | a :: f => by
    obtain ⟨Q, R, ⟨e, he⟩, hR⟩ := div_ex hq hg f
    obtain ⟨c, c', d, hc, hd, ed, ed2, hl⟩ := mo_ex hq hg
    obtain ⟨e1, h1⟩ := nf_E q R
    obtain ⟨e2, h2⟩ := ed
    obtain ⟨t, ht⟩ : ∃ t, (a :: nf q R).getD (dg q g - 1) 0 = t := ⟨_, rfl⟩
    have l0 : 0 < dg q g := List.length_pos_iff.2 hg
    refine ⟨padd [t * c] (0 :: Q), padd (a :: nf q R) (psc (-t) d), ⟨padd (psc (t) e2) (0 :: padd e (psc (-1) e1)), fun x => ?_⟩, ?_⟩
    · have := he x; have := h1 x; have := h2 x
      simp only [ev_padd, ev_pmul, ev_psc, ev] at *
      grind
    · have hs : dg q (padd (a :: nf q R) (psc (-t) d)) ≤ dg q g - 1 := by
        refine nf_short hq fun i hi => ?_
        rw [getD_padd, getD_psc]
        rcases Nat.eq_or_lt_of_le hi with h | h
        · rw [← h, ht, ← hl, hd.top, show t + -t * 1 = 0 by omega]; rfl
        · rw [getD_over' d i (by omega), getD_over' (a :: nf q R) i (by simp only [List.length_cons]; unfold dg at hR h; omega)]; simp
      omega
theorem gcd_ex (hq : IsP q) : ∀ (n : Nat) (f g : List Int), dg q g ≤ n → ∃ d, GcdIs q f g d := by
  intro n
  induction n with
  | zero =>
    intro f g hn
    have hg : E q g [] := nf_zero.1 (dg_zero.1 (by omega))
    have h1 : (1 : Int) * 1 % (q : Int) = 1 % (q : Int) := by simp
    by_cases hf : nf q f = []
    · have hf' := nf_zero.1 hf
      exact ⟨[], Mon.nil q hq.pos, Both.unit h1 h1 (hf'.symm.trans (.of_ev fun x => by rw [ev_psc, Int.one_mul])) (hg.symm.trans (.of_ev fun x => by rw [ev_psc, Int.one_mul]))⟩
    · obtain ⟨c, c', d, hc, hd, e1, e2, -⟩ := mo_ex hq hf
      have h2 : (c * c') % (q : Int) = 1 % (q : Int) := by rw [hc]; have := hq.1; rw [Int.emod_eq_of_lt (by omega) (by omega)]
      exact ⟨d, hd.mon, Both.unit h2 h1 e1 (hg.symm.trans (.of_ev fun x => by rw [ev_psc, Int.one_mul]))⟩
  | succ n ih =>
    intro f g hn
    by_cases hg : nf q g = []
    · exact ih f g (by have := dg_zero.2 hg; omega)
    · obtain ⟨Q, R, he, hR⟩ := div_ex hq hg f
      obtain ⟨d, hd⟩ := ih g R (by omega)
      exact ⟨d, hd.mon, hd.sp.trans (Both.step he)⟩
theorem GcdIs.dvF {f g d : List Int} (h : GcdIs q f g d) : Dv q d f := h.sp.f1.zero
theorem GcdIs.dvG {f g d : List Int} (h : GcdIs q f g d) : Dv q d g := h.sp.g1.zero
theorem GcdIs.great {f g d e : List Int} (h : GcdIs q f g d) (hf : Dv q e f) (hg : Dv q e g) : Dv q e d := h.sp.F1.dv hf hg
theorem GcdIs.mo (hq : IsP q) {f g d : List Int} (h : GcdIs q f g d) (hf : nf q f ≠ []) : Mo q d := by
  refine h.mon.mo ?_
  rintro rfl
  have := (h.dvF.len hq hf).1
  exact this (nf_nil q)

/-! ### No common factor -/
theorem Cop.symm {f g : List Int} (h : Cop q f g) : Cop q g f := by
  obtain ⟨a, b, e, he⟩ := h
  exact ⟨b, a, e, fun x => by have := he x; simp only [ev_padd, ev_pmul] at *; grind⟩
theorem Cop.dv_of {f g h : List Int} (c : Cop q f g) (d : Dv q f (pmul g h)) : Dv q f h := by
  obtain ⟨a, b, e, he⟩ := c; obtain ⟨k, e1, hk⟩ := d
  exact ⟨padd (pmul a h) (pmul b k), padd (pmul e h) (pmul b e1), fun x => by have := he x; have := hk x; simp only [ev_padd, ev_pmul, ev] at *; grind⟩
theorem Cop.mul {f g h : List Int} (c : Cop q f g) (d : Cop q f h) : Cop q f (pmul g h) := by
  obtain ⟨a, b, e, he⟩ := c; obtain ⟨a', b', e', he'⟩ := d
  -- 1 = (af + bg)(a'f + b'h) and the errors
  exact ⟨padd (padd (pmul a (padd (pmul a' f) (pmul b' h))) (pmul (pmul b g) a')) [], pmul b b', padd (padd e (pmul e' (padd (pmul a f) (pmul b g)))) (psc 0 e), fun x => by
    have h1 := he x; have h2 := he' x
    simp only [ev_padd, ev_pmul, ev_psc, ev] at *
    grind⟩
theorem Cop.join {f g h : List Int} (c : Cop q f g) (hf : Dv q f h) (hg : Dv q g h) : Dv q (pmul f g) h := by
  obtain ⟨k, hk⟩ := hg
  have h1 : Dv q f (pmul g k) := hf.congr (E.symm (hk.trans (.of_ev fun x => by simp only [ev_pmul]; grind)))
  obtain ⟨m, hm⟩ := c.dv_of h1
  exact ⟨m, hk.trans ((hm.mul (E.refl q g)).trans (.of_ev fun x => by simp only [ev_pmul]; grind))⟩
theorem Cop.of_dv {f g f' g' : List Int} (c : Cop q f g) (h : Dv q f' f) (k : Dv q g' g) : Cop q f' g' := by
  obtain ⟨a, b, e⟩ := c; obtain ⟨u, hu⟩ := h; obtain ⟨v, hv⟩ := k
  exact ⟨pmul a u, pmul b v, e.trans ((((E.refl q a).mul hu).add ((E.refl q b).mul hv)).trans (.of_ev fun x => by simp only [ev_padd, ev_pmul]; grind))⟩
theorem GcdIs.cop {f g : List Int} (h : GcdIs q f g [1]) : Cop q f g := h.sp.F1

/-! ### Irreducible ones -/
structure Irr (q : Nat) (g : List Int) : Prop where
  mo : Mo q g
  two : 2 ≤ g.length
  no : ∀ a b, E q g (pmul a b) → dg q a ≤ 1 ∨ dg q b ≤ 1
theorem Irr.dv_eq (hq : IsP q) {g d : List Int} (h : Irr q g) (hd : Mo q d) (k : Dv q d g) : d = [1] ∨ d = g := by
  obtain ⟨a, ha⟩ := k
  rcases h.no a d ha with h1 | h1
  · right
    refine hd.same_len hq h.mo ⟨a, ha⟩ ?_
    have h0 : nf q (pmul a d) ≠ [] := by rw [← nf_eq ha]; exact h.mo.nf_ne
    obtain ⟨a0, -⟩ := ne_of_mul h0
    have h2 := dg_mul hq a0 hd.nf_ne
    rw [← dg_congr ha, h.mo.dg, hd.dg] at h2
    omega
  · left; rw [hd.dg] at h1; exact hd.is_one hq h1
theorem Irr.dv_or (hq : IsP q) {g : List Int} (h : Irr q g) (f : List Int) : Dv q g f ∨ Cop q g f := by
  obtain ⟨d, hd⟩ := gcd_ex hq _ g f (Nat.le_refl _)
  have hm := hd.mo hq h.mo.nf_ne
  rcases h.dv_eq hq hm hd.dvF with h1 | h1
  · subst h1; exact .inr hd.cop
  · subst h1; exact .inl hd.dvG
theorem Irr.euclid (hq : IsP q) {g a b : List Int} (h : Irr q g) (k : Dv q g (pmul a b)) : Dv q g a ∨ Dv q g b := by
  rcases h.dv_or hq a with h1 | h1
  · exact .inl h1
  · exact .inr (h1.dv_of k)
theorem Irr.not_one (hq : IsP q) {g f : List Int} (h : Irr q g) (hf : dg q f = 1) : ¬ Dv q g f := by
  intro k
  have := (k.len hq (by intro e; rw [← dg_zero] at e; omega)).2
  rw [h.mo.dg, hf] at this
  have := h.two; omega
theorem dg_one (hq : IsP q) : dg q [1] = 1 := (Mo.one hq).dg
theorem Irr.dv_pow (hq : IsP q) {g a : List Int} (h : Irr q g) : ∀ n, Dv q g (ppow a n) → Dv q g a
  | 0, k => absurd k (h.not_one hq (dg_one hq))
  | n + 1, k => by
    rcases h.euclid hq k with h1 | h1
    · exact h1
    · exact h.dv_pow hq n h1
theorem Irr.eq (hq : IsP q) {g h : List Int} (hg : Irr q g) (hh : Irr q h) (k : Dv q g h) : g = h := by
  rcases hh.dv_eq hq hg.mo k with h1 | h1
  · have := hg.two; rw [h1] at this; simp at this
  · exact h1
theorem irr_factor (hq : IsP q) : ∀ (n : Nat) (f : List Int), dg q f ≤ n → 2 ≤ dg q f → ∃ g, Irr q g ∧ Dv q g f := by
  intro n
  induction n with
  | zero => intro f h1 h2; omega
  | succ n ih =>
    intro f h1 h2
    have hf : nf q f ≠ [] := by intro e; rw [← dg_zero] at e; omega
    obtain ⟨c, c', d, hc, hd, e1, e2, hl⟩ := mo_ex hq hf
    have hu := Dv.unit hq hc e1
    by_cases hi : ∃ a b, E q d (pmul a b) ∧ 1 < dg q a ∧ 1 < dg q b
    · obtain ⟨a, b, he, ha, hb⟩ := hi
      have ha0 : nf q a ≠ [] := by intro e; rw [← dg_zero] at e; omega
      have hb0 : nf q b ≠ [] := by intro e; rw [← dg_zero] at e; omega
      have hm := dg_mul hq ha0 hb0
      rw [← dg_congr he, hd.dg] at hm
      obtain ⟨g, hg, hga⟩ := ih a (by omega) (by omega)
      exact ⟨g, hg, ((hga.mulR b).congr he).trans hu.2⟩
    · refine ⟨d, ⟨hd, by omega, fun a b he => ?_⟩, hu.2⟩
      rcases Nat.lt_or_ge 1 (dg q a) with h3 | h3
      · rcases Nat.lt_or_ge 1 (dg q b) with h4 | h4
        · exact absurd ⟨a, b, he, h3, h4⟩ hi
        · exact .inr h4
      · exact .inl h3

/-! ### Factors are unique -/
def prodL : List (List Int) → List Int
  | [] => [1]
  | g :: l => pmul g (prodL l)
theorem prodL_perm {l l' : List (List Int)} (h : l.Perm l') (x : Int) : ev (prodL l) x = ev (prodL l') x := by
  induction h with
  | nil => rfl
  | cons a _ ih => simp only [prodL, ev_pmul, ih]
  | swap a b l => simp only [prodL, ev_pmul]; grind
  | trans _ _ h1 h2 => rw [h1, h2]
theorem prodL_app (x : Int) (l' : List (List Int)) : ∀ l, ev (prodL (l ++ l')) x = ev (prodL l) x * ev (prodL l') x
  | [] => by simp [prodL, ev]
  | g :: l => by simp only [List.cons_append, prodL, ev_pmul, prodL_app x l' l]; grind
theorem Irr.dv_prod (hq : IsP q) {g : List Int} (hg : Irr q g) : ∀ l : List (List Int), Dv q g (prodL l) → ∃ h ∈ l, Dv q g h
  | [], k => absurd k (hg.not_one hq (dg_one hq))
  | h :: l, k => by
    rcases hg.euclid hq k with h1 | h1
    · exact ⟨h, by simp, h1⟩
    · obtain ⟨m, hm, h2⟩ := Irr.dv_prod hq hg l h1
      exact ⟨m, by simp [hm], h2⟩
theorem factors_perm (hq : IsP q) : ∀ (l l' : List (List Int)), (∀ g ∈ l, Irr q g) → (∀ g ∈ l', Irr q g) → E q (prodL l) (prodL l') → l.Perm l'
  | [], l', _, hl', he => by
    cases l' with
    | nil => exact .refl _
    | cons h t =>
      exfalso
      have h1 : Dv q h [1] := (Dv.self_mul h (prodL t)).congr he
      exact (hl' h (by simp)).not_one hq (dg_one hq) h1
  | g :: l, l', hl, hl', he => by
    have hg := hl g (by simp)
    have h1 : Dv q g (prodL l') := (Dv.self_mul g (prodL l)).congr he.symm
    obtain ⟨h, hm, h2⟩ := hg.dv_prod hq l' h1
    have h3 := hg.eq hq (hl' h hm) h2
    subst h3
    have hp := List.perm_cons_erase hm
    have h4 : E q (pmul g (prodL l)) (pmul g (prodL (l'.erase g))) := he.trans (.of_ev fun x => by rw [prodL_perm hp]; rfl)
    have h5 := mul_cancel hq hg.mo.nf_ne h4
    exact (List.Perm.cons g (factors_perm hq l (l'.erase g) (fun k hk => hl k (by simp [hk])) (fun k hk => hl' k (List.mem_of_mem_erase hk)) h5)).trans hp.symm
end
end Go.Proofs.Ytokdcgmjpnanoaa
/- Residues by an irreducible polynomial are a field: its number of elements, the theorem of Fermat, roots; what x to the powers of q tells of irreducible factors (Rabin). No function of the program in it. -/
set_option linter.unusedVariables false
set_option linter.unusedSimpArgs false
namespace Go.Proofs.Ytokdcgmjpnanoaa

section
variable {q : Nat}
/-! ### All residues -/
def resL (q : Nat) : Nat → List (List Int)
  | 0 => [[]]
  | d + 1 => (List.range q).flatMap fun (a : Nat) => (resL q d).map fun l => ((a : Nat) : Int) :: l
theorem resL_mem (q : Nat) : ∀ (d : Nat) (l : List Int), l ∈ resL q d ↔ l.length = d ∧ ∀ a ∈ l, 0 ≤ a ∧ a < (q : Int)
  | 0, l => by
    simp only [resL, List.mem_singleton]
    constructor
    · rintro rfl; simp
    · rintro ⟨h, -⟩; exact List.length_eq_zero_iff.1 h
  | d + 1, l => by
    simp only [resL, List.mem_flatMap, List.mem_range, List.mem_map]
    constructor
    · rintro ⟨a, ha, l', hl', rfl⟩
      obtain ⟨h1, h2⟩ := (resL_mem q d l').1 hl'
      refine ⟨by simp [h1], fun b hb => ?_⟩
      rcases List.mem_cons.1 hb with rfl | hb
      · omega
      · exact h2 b hb
    · rintro ⟨h1, h2⟩
      cases l with
      | nil => simp at h1
      | cons a l =>
        have h3 := h2 a (by simp)
        exact ⟨a.toNat, by omega, l, (resL_mem q d l).2 ⟨by simpa using h1, fun b hb => h2 b (by simp [hb])⟩, by rw [Int.toNat_of_nonneg h3.1]⟩
theorem flat_len (f : Nat → List (List Int)) (k : Nat) (h : ∀ a, (f a).length = k) : ∀ l : List Nat, (l.flatMap f).length = l.length * k
  | [] => by simp
  | a :: l => by rw [List.flatMap_cons, List.length_append, flat_len f k h l, h, List.length_cons, Nat.add_mul, Nat.one_mul, Nat.add_comm]
theorem resL_len (q : Nat) : ∀ d, (resL q d).length = q ^ d
  | 0 => rfl
  | d + 1 => by
    simp only [resL]
    rw [flat_len _ (q ^ d) (fun a => by rw [List.length_map, resL_len q d]), List.length_range, Nat.pow_succ, Nat.mul_comm]
theorem resL_nodup (q : Nat) : ∀ d, (resL q d).Nodup
  | 0 => by simp [resL]
  | d + 1 => by
    have ih := resL_nodup q d
    simp only [resL]
    unfold List.Nodup
    rw [List.pairwise_flatMap]
    constructor
    · intro a _
      exact List.Pairwise.map _ (fun x y h e => h (by simpa using e)) ih
    · refine List.Pairwise.imp ?_ (List.nodup_range (n := q))
      intro a b hab x hx y hy e
      obtain ⟨u, -, rfl⟩ := List.mem_map.1 hx
      obtain ⟨v, -, rfl⟩ := List.mem_map.1 hy
      simp only [List.cons.injEq] at e; exact hab (by omega)
theorem resL_E (hq : IsP q) {d : Nat} {r s : List Int} (hr : r ∈ resL q d) (hs : s ∈ resL q d) (h : E q r s) : r = s := by
  obtain ⟨r1, r2⟩ := (resL_mem q d r).1 hr
  obtain ⟨s1, s2⟩ := (resL_mem q d s).1 hs
  apply List.ext_getElem (by omega)
  intro i h1 h2
  have h3 := E_cf h i
  rw [List.getD_eq_getElem?_getD, List.getD_eq_getElem?_getD, List.getElem?_eq_getElem h1, List.getElem?_eq_getElem h2] at h3
  have h4 := r2 _ (List.getElem_mem h1); have h5 := s2 _ (List.getElem_mem h2)
  simp only [Option.getD_some] at h3
  rwa [Int.emod_eq_of_lt h4.1 h4.2, Int.emod_eq_of_lt h5.1 h5.2] at h3
theorem resL_dg (hq : IsP q) {d : Nat} {r : List Int} (hr : r ∈ resL q d) : dg q r ≤ d := by
  have h := nf_len q r
  rw [((resL_mem q d r).1 hr).1] at h; exact h
theorem resL_of (hq : IsP q) {d : Nat} {f : List Int} (h : dg q f ≤ d) : ∃ r ∈ resL q d, E q f r := by
  refine ⟨(List.range d).map (fun i => f.getD i 0 % (q : Int)), (resL_mem q d _).2 ⟨by simp, fun a ha => ?_⟩, ?_⟩
  · obtain ⟨i, -, rfl⟩ := List.mem_map.1 ha
    have := hq.pos
    exact ⟨Int.emod_nonneg _ (by omega), Int.emod_lt_of_pos _ (by omega)⟩
  · refine cf_E fun i => ?_
    rw [getD_map_range]
    split
    · rw [Int.emod_emod]
    · rename_i hi
      have h1 := getD_over' (nf q f) i (by unfold dg at h; omega)
      rw [getD_nf] at h1; rw [h1]; rfl
theorem rest_ex (hq : IsP q) {g : List Int} (hg : Mo q g) (f : List Int) : ∃ r ∈ resL q (g.length - 1), M q g f r := by
  obtain ⟨Q, R, ⟨e, he⟩, hR⟩ := div_ex hq hg.nf_ne f
  rw [hg.dg] at hR
  obtain ⟨r, hr, h⟩ := resL_of hq (d := g.length - 1) (f := R) (by omega)
  refine ⟨r, hr, M.trans ⟨Q, e, fun x => ?_⟩ (h.m g)⟩
  have := he x; simp only [ev_padd, ev_pmul] at *; grind
theorem dg_sub (hq : IsP q) {f g : List Int} {n : Nat} (hf : dg q f ≤ n) (hg : dg q g ≤ n) : dg q (padd f (psc (-1) g)) ≤ n := by
  refine nf_short hq fun i hi => ?_
  have h1 := getD_over' (nf q f) i (by unfold dg at hf; omega)
  have h2 := getD_over' (nf q g) i (by unfold dg at hg; omega)
  rw [getD_nf] at h1 h2
  rw [getD_padd, getD_psc, Int.add_emod, h1, Int.mul_emod, h2]; simp
theorem small_zero (hq : IsP q) {g f : List Int} (hg : Mo q g) (h : Dv q g f) (hl : dg q f < g.length) : E q f [] := by
  by_cases hf : nf q f = []
  · exact nf_zero.1 hf
  · have := (h.len hq hf).2
    rw [hg.dg] at this; omega
theorem resL_M (hq : IsP q) {g : List Int} (hg : Mo q g) {r s : List Int} (hr : r ∈ resL q (g.length - 1)) (hs : s ∈ resL q (g.length - 1)) (h : M q g r s) : r = s := by
  have l := List.length_pos_iff.2 hg.ne
  have h1 := small_zero hq hg (M_dv.1 h) (by have := dg_sub hq (resL_dg hq hr) (resL_dg hq hs); omega)
  obtain ⟨e, he⟩ := h1
  exact resL_E hq hr hs ⟨e, fun x => by have := he x; simp only [ev_padd, ev_psc, ev] at *; grind⟩

/-! ### The theorem of Fermat -/
theorem perm_sub {α} [DecidableEq α] : ∀ (l m : List α), l.Nodup → (∀ x ∈ l, x ∈ m) → m.length ≤ l.length → l.Perm m
  | [], m, _, _, h => by
    have : m = [] := List.length_eq_zero_iff.1 (by simpa using h)
    rw [this]
  | a :: l, m, hn, hs, h => by
    have ha : a ∈ m := hs a (by simp)
    have hp := List.perm_cons_erase ha
    obtain ⟨hn1, hn2⟩ := List.nodup_cons.1 hn
    have hl := List.length_erase_of_mem ha
    have := perm_sub l (m.erase a) hn2 (fun x hx => (List.mem_erase_of_ne (by rintro rfl; exact hn1 hx)).2 (hs x (by simp [hx]))) (by rw [hl]; simp at h; omega)
    exact (this.cons a).trans hp.symm
noncomputable def rep (hq : IsP q) {g : List Int} (hg : Mo q g) (f : List Int) : List Int := Classical.choose (rest_ex hq hg f)
theorem rep_mem (hq : IsP q) {g : List Int} (hg : Mo q g) (f : List Int) : rep hq hg f ∈ resL q (g.length - 1) := (Classical.choose_spec (rest_ex hq hg f)).1
theorem rep_M (hq : IsP q) {g : List Int} (hg : Mo q g) (f : List Int) : M q g f (rep hq hg f) := (Classical.choose_spec (rest_ex hq hg f)).2
def zeroL (d : Nat) : List Int := List.replicate d 0
theorem zeroL_E (d : Nat) : E q (zeroL d) [] := .of_ev fun x => by unfold zeroL; rw [ev_zeros]; rfl
theorem zeroL_mem (hq : IsP q) (d : Nat) : zeroL d ∈ resL q d := (resL_mem q d _).2 ⟨by simp [zeroL], fun a ha => by
  have := hq.pos; have := List.eq_of_mem_replicate ha; omega⟩
theorem prod_map (g a : List Int) (φ : List Int → List Int) (h : ∀ r, M q g (pmul a r) (φ r)) : ∀ l : List (List Int), M q g (prodL (l.map φ)) (pmul (ppow a l.length) (prodL l))
  | [] => .of_ev fun x => by simp [prodL, ppow, ev_pmul, ev]
  | r :: l => by
    have ih := prod_map g a φ h l
    exact ((h r).symm.mul ih).trans (.of_ev fun x => by simp only [ev_pmul, ev_ppow, List.length_cons, Int.pow_succ, prodL]; grind)
theorem Irr.dv_prod' (hq : IsP q) {g : List Int} (hg : Irr q g) (l : List (List Int)) (h : ∀ r ∈ l, ¬ Dv q g r) : ¬ Dv q g (prodL l) := fun k => by
  obtain ⟨r, hr, h1⟩ := hg.dv_prod hq l k
  exact h r hr h1
theorem field_one (hq : IsP q) {g : List Int} (hg : Irr q g) {a : List Int} (ha : ¬ Dv q g a) : M q g (ppow a (q ^ (g.length - 1) - 1)) [1] := by
  obtain ⟨d, hd⟩ : ∃ d, g.length - 1 = d := ⟨_, rfl⟩
  have hm := hg.mo
  have hz := zeroL_mem hq d
  have hnd := resL_nodup q d
  obtain ⟨L, hL⟩ : ∃ L, (resL q d).erase (zeroL d) = L := ⟨_, rfl⟩
  have hLen : L.length = q ^ d - 1 := by rw [← hL, List.length_erase_of_mem hz, resL_len]
  have hLn : L.Nodup := by rw [← hL]; exact hnd.erase _
  have hmem : ∀ r, r ∈ L ↔ r ≠ zeroL d ∧ r ∈ resL q d := fun r => by rw [← hL, hnd.mem_erase_iff]
  have hnz : ∀ r ∈ L, ¬ Dv q g r := fun r hr k => by
    obtain ⟨h1, h2⟩ := (hmem r).1 hr
    apply h1
    refine resL_M hq hm (by rw [hd]; exact h2) (by rw [hd]; exact hz) ?_
    exact (dv_M.1 k).trans ((zeroL_E d).symm.m g)
  have hin : ∀ r ∈ L, rep hq hm (pmul a r) ∈ L := fun r hr => by
    refine (hmem _).2 ⟨fun e => ?_, by have := rep_mem hq hm (pmul a r); rwa [hd] at this⟩
    have h1 := rep_M hq hm (pmul a r)
    rw [e] at h1
    rcases hg.euclid hq (dv_M.2 (h1.trans ((zeroL_E d).m g))) with h2 | h2
    · exact ha h2
    · exact hnz r hr h2
  have hinj : ∀ r ∈ L, ∀ s ∈ L, r ≠ s → rep hq hm (pmul a r) ≠ rep hq hm (pmul a s) := fun r hr s hs hne e => by
    apply hne
    have h1 := rep_M hq hm (pmul a r); rw [e] at h1
    have h2 := M_dv.1 (h1.trans (rep_M hq hm (pmul a s)).symm)
    have h3 : Dv q g (pmul a (padd r (psc (-1) s))) := h2.congr (.of_ev fun x => by simp only [ev_pmul, ev_padd, ev_psc]; grind)
    rcases hg.euclid hq h3 with h4 | h4
    · exact absurd h4 ha
    · exact resL_M hq hm (by rw [hd]; exact ((hmem r).1 hr).2) (by rw [hd]; exact ((hmem s).1 hs).2) (M_dv.2 h4)
  have hnod : (L.map fun r => rep hq hm (pmul a r)).Nodup := by
    unfold List.Nodup
    rw [List.pairwise_map]
    refine List.Pairwise.imp_of_mem ?_ hLn
    intro r s hr hs hne
    exact hinj r hr s hs hne
  have hperm : (L.map fun r => rep hq hm (pmul a r)).Perm L := perm_sub _ _ hnod (fun x hx => by
    obtain ⟨r, hr, rfl⟩ := List.mem_map.1 hx
    exact hin r hr) (by simp)
  have h1 := prod_map (q := q) g a (fun r => rep hq hm (pmul a r)) (fun r => rep_M hq hm _) L
  have h2 : M q g (pmul (ppow a L.length) (prodL L)) (prodL L) := h1.symm.trans (.of_ev fun x => prodL_perm hperm x)
  have h3 : Dv q g (pmul (padd (ppow a L.length) (psc (-1) [1])) (prodL L)) := (M_dv.1 h2).congr (.of_ev fun x => by simp only [ev_pmul, ev_padd, ev_psc, ev]; grind)
  rcases hg.euclid hq h3 with h4 | h4
  · rw [hd, ← hLen]; exact M_dv.2 h4
  · exact absurd h4 (hg.dv_prod' hq L hnz)
theorem field_fermat (hq : IsP q) {g : List Int} (hg : Irr q g) (a : List Int) : M q g (ppow a (q ^ (g.length - 1))) a := by
  have hpos : 1 ≤ q ^ (g.length - 1) := Nat.pow_pos hq.pos
  obtain ⟨n, hn⟩ : ∃ n, q ^ (g.length - 1) = n + 1 := ⟨q ^ (g.length - 1) - 1, by omega⟩
  by_cases ha : Dv q g a
  · rw [hn]
    have h1 : Dv q g (ppow a (n + 1)) := ha.mulR (ppow a n)
    exact (dv_M.1 h1).trans (dv_M.1 ha).symm
  · have h := field_one hq hg ha
    rw [hn, Nat.add_sub_cancel] at h
    rw [hn]
    exact ((M.refl g a).mul h).trans (.of_ev fun x => by simp [ev_pmul, ev])

/-! ### Powers by q, again and again -/
theorem int_fermat (hq : IsP q) (a : Int) : a ^ q % (q : Int) = a % (q : Int) := by
  have hq0 := hq.pos
  have h0 : 0 ≤ a % (q : Int) := Int.emod_nonneg _ (by omega)
  obtain ⟨n, hn⟩ : ∃ n : Nat, a % (q : Int) = n := ⟨(a % (q : Int)).toNat, by omega⟩
  have key : ∀ k : Nat, a ^ k % (q : Int) = ((n ^ k % q : Nat) : Int) := by
    intro k
    induction k with
    | zero => simp
    | succ k ih =>
      rw [Int.pow_succ, Int.mul_emod, ih, hn, Nat.pow_succ, Nat.mul_mod]
      have h1 : n % q = n := Nat.mod_eq_of_lt (by have := Int.emod_lt_of_pos a (show (0 : Int) < q by omega); omega)
      rw [h1, Int.natCast_emod (n ^ k % q * n), Int.natCast_mul]
  rw [key, fermat hq n, hn]
  have h1 : n % q = n := Nat.mod_eq_of_lt (by have := Int.emod_lt_of_pos a (show (0 : Int) < q by omega); omega)
  rw [h1]
theorem con_fermat (hq : IsP q) (a : Int) : E q (ppow [a] q) [a] := by
  have h := int_fermat hq a
  have h1 : (q : Int) ∣ a ^ q - a := Int.dvd_of_emod_eq_zero (by rw [Int.sub_emod, h]; simp)
  obtain ⟨r, hr⟩ := h1
  exact ⟨[r], fun x => by rw [ev_ppow]; simp only [ev]; grind⟩
theorem ppow_mul (f : List Int) (n m : Nat) (x : Int) : ev (ppow f (n * m)) x = ev (ppow (ppow f n) m) x := by
  simp only [ev_ppow, Int.pow_mul]
theorem con_fermats (hq : IsP q) (a : Int) : ∀ n, E q (ppow [a] (q ^ n)) [a]
  | 0 => .of_ev fun x => by rw [Nat.pow_zero, ev_ppow, Int.pow_succ, Int.pow_zero, Int.one_mul]
  | n + 1 => by
    have h := ((con_fermats hq a n).pow q).trans (con_fermat hq a)
    exact E.trans (.of_ev fun x => by rw [Nat.pow_succ, ppow_mul]) h
theorem frobs (hq : IsP q) (f g : List Int) : ∀ n, E q (ppow (padd f g) (q ^ n)) (padd (ppow f (q ^ n)) (ppow g (q ^ n)))
  | 0 => .of_ev fun x => by simp only [Nat.pow_zero, ev_ppow, ev_padd, Int.pow_succ, Int.pow_zero, Int.one_mul]
  | n + 1 => by
    have h := ((frobs hq f g n).pow q).trans (frobenius hq _ _)
    exact E.trans (.of_ev fun x => by rw [Nat.pow_succ, ppow_mul]) (h.trans (.of_ev fun x => by simp only [ev_padd, ev_ppow, Nat.pow_succ, Int.pow_mul]))
/-- x. -/
def pX : List Int := [0, 1]
theorem ev_pX (x : Int) : ev pX x = x := by simp [pX, ev]
/-- x to the power of q^n is x, by m. -/
def XF (q : Nat) (m : List Int) (n : Nat) : Prop := M q m (ppow pX (q ^ n)) pX
/-- .. so is each one. -/
theorem XF.all (hq : IsP q) {m : List Int} {n : Nat} (h : XF q m n) : ∀ f : List Int, M q m (ppow f (q ^ n)) f
  | [] => by
    have hpos : 1 ≤ q ^ n := Nat.pow_pos hq.pos
    obtain ⟨k, hk⟩ : ∃ k, q ^ n = k + 1 := ⟨q ^ n - 1, by omega⟩
    rw [hk]
    exact .of_ev fun x => by simp [ppow, ev_pmul, ev]
  | a :: f => by
    have ih := XF.all hq h f
    have h1 : E q (a :: f) (padd [a] (pmul pX f)) := .of_ev fun x => by simp only [ev_padd, ev_pmul, ev_pX, ev]; grind
    have h2 := (h1.pow (q ^ n)).trans (frobs hq [a] (pmul pX f) n)
    have h3 : M q m (padd (ppow [a] (q ^ n)) (ppow (pmul pX f) (q ^ n))) (padd [a] (pmul pX f)) := by
      refine M.add ((con_fermats hq a n).m m) ?_
      exact M.trans (.of_ev fun x => by simp only [ev_ppow, ev_pmul, Int.mul_pow]) (h.mul ih)
    exact (h2.m m).trans (h3.trans (h1.symm.m m))
theorem XF.zero (m : List Int) : XF q m 0 := .of_ev fun x => by rw [Nat.pow_zero, ev_ppow, Int.pow_succ, Int.pow_zero, Int.one_mul]
theorem XF.add (hq : IsP q) {m : List Int} {a b : Nat} (h : XF q m a) (k : XF q m b) : XF q m (a + b) := by
  refine M.trans (.of_ev fun x => ?_) ((M.pow h (q ^ b)).trans k)
  rw [Nat.pow_add, ppow_mul]
theorem XF.times (hq : IsP q) {m : List Int} {a : Nat} (h : XF q m a) : ∀ t, XF q m (a * t)
  | 0 => XF.zero m
  | t + 1 => (XF.times hq h t).add hq h
theorem XF.cut (hq : IsP q) {m : List Int} {a b : Nat} (h : XF q m (a + b)) (k : XF q m a) : XF q m b := by
  have h1 : M q m (ppow pX (q ^ (a + b))) (ppow pX (q ^ b)) := M.trans (.of_ev fun x => by rw [Nat.pow_add, ppow_mul]) (M.pow k (q ^ b))
  exact h1.symm.trans h
theorem XF.dv {m d : List Int} {n : Nat} (h : XF q m n) (k : Dv q d m) : XF q d n := M.dv h k

/-! ### Roots -/
/-- A monic polynomial over polynomials, by its lower coefficients, at y. -/
def mpe : List (List Int) → List Int → List Int
  | [], _ => [1]
  | c :: l, y => padd c (pmul y (mpe l y))
theorem mpe_step : ∀ (c : List Int) (l : List (List Int)) (a : List Int), ∃ l' : List (List Int), l'.length = l.length ∧ ∀ b x, ev (mpe (c :: l) b) x - ev (mpe (c :: l) a) x = (ev b x - ev a x) * ev (mpe l' b) x
  | c, [], a => ⟨[], rfl, fun b x => by simp only [mpe, ev_padd, ev_pmul, ev]; grind⟩
  | c, d :: l, a => by
    obtain ⟨l', hl, h⟩ := mpe_step d l a
    refine ⟨mpe (d :: l) a :: l', by simp [hl], fun b x => ?_⟩
    have h1 := h b x
    have e1 : mpe (c :: d :: l) b = padd c (pmul b (mpe (d :: l) b)) := rfl
    have e2 : mpe (c :: d :: l) a = padd c (pmul a (mpe (d :: l) a)) := rfl
    have e3 : mpe (mpe (d :: l) a :: l') b = padd (mpe (d :: l) a) (pmul b (mpe l' b)) := rfl
    rw [e1, e2, e3]
    simp only [ev_padd, ev_pmul]
    grind
theorem roots_le (hq : IsP q) {g : List Int} (hg : Irr q g) : ∀ (l : List (List Int)) (R : List (List Int)), R.Pairwise (fun a b => ¬ M q g b a) → (∀ a ∈ R, Dv q g (mpe l a)) → R.length ≤ l.length
  | _, [], _, _ => Nat.zero_le _
  | [], a :: R, _, h => absurd (h a (by simp)) (hg.not_one hq (dg_one hq))
  | c :: l, a :: R, hp, h => by
    obtain ⟨l', hl, hs⟩ := mpe_step c l a
    obtain ⟨hp1, hp2⟩ := List.pairwise_cons.1 hp
    have := roots_le hq hg l' R hp2 (fun b hb => by
      have h1 := h a (by simp); have h2 := h b (by simp [hb])
      have h3 : Dv q g (pmul (padd b (psc (-1) a)) (mpe l' b)) := (h2.add (h1.sc (-1))).congr (.of_ev fun x => by
        have := hs b x
        simp only [ev_pmul, ev_padd, ev_psc] at *; grind)
      rcases hg.euclid hq h3 with h4 | h4
      · exact absurd (M_dv.2 h4) (hp1 b hb)
      · exact h4)
    simp only [List.length_cons]; omega
termination_by l => l.length
/-- y^(n+2) - y. -/
def powX (n : Nat) : List (List Int) := [] :: [-1] :: List.replicate n []
theorem mpe_rep (y : List Int) (x : Int) : ∀ n, ev (mpe (List.replicate n []) y) x = ev y x ^ n
  | 0 => by simp [mpe, ev]
  | n + 1 => by simp only [List.replicate_succ, mpe, ev_padd, ev_pmul, mpe_rep y x n, ev, Int.pow_succ]; grind
theorem mpe_powX (n : Nat) (y : List Int) (x : Int) : ev (mpe (powX n) y) x = ev y x ^ (n + 2) - ev y x := by
  simp only [powX, mpe, ev_padd, ev_pmul, mpe_rep, ev, Int.pow_succ]; grind
theorem powers_le (hq : IsP q) {g : List Int} (hg : Irr q g) {n : Nat} (hn : 2 ≤ n) (R : List (List Int)) (hp : R.Pairwise (fun a b => ¬ M q g b a)) (h : ∀ a ∈ R, M q g (ppow a n) a) : R.length ≤ n := by
  obtain ⟨k, rfl⟩ : ∃ k, n = k + 2 := ⟨n - 2, by omega⟩
  have := roots_le hq hg (powX k) R hp (fun a ha => (M_dv.1 (h a ha)).congr (.of_ev fun x => by
    rw [mpe_powX]; simp only [ev_padd, ev_ppow, ev_psc]; grind))
  simpa [powX] using this
theorem resL_pair (hq : IsP q) {g : List Int} (hg : Mo q g) : (resL q (g.length - 1)).Pairwise (fun a b => ¬ M q g b a) :=
  List.Pairwise.imp_of_mem (fun {a b} ha hb hne h => hne (resL_M hq hg hb ha h).symm) (resL_nodup q (g.length - 1))
theorem XF.le (hq : IsP q) {g : List Int} (hg : Irr q g) {n : Nat} (hn : 1 ≤ n) (h : XF q g n) : g.length - 1 ≤ n := by
  have h2 : 2 ≤ q ^ n := Nat.le_trans hq.1 (Nat.le_self_pow (by omega) q)
  have h1 := powers_le hq hg h2 (resL q (g.length - 1)) (resL_pair hq hg.mo) (fun a _ => h.all hq a)
  rw [resL_len] at h1
  exact (Nat.pow_le_pow_iff_right hq.1).1 h1
/-- x to the power of q^n is x just if the degree divides n. -/
theorem XF_iff (hq : IsP q) {g : List Int} (hg : Irr q g) (n : Nat) : XF q g n ↔ (g.length - 1) ∣ n := by
  have h0 : XF q g (g.length - 1) := field_fermat hq hg pX
  have two := hg.two
  constructor
  · intro h
    have h1 : XF q g ((g.length - 1) * (n / (g.length - 1)) + n % (g.length - 1)) := by rw [Nat.div_add_mod]; exact h
    have h2 := h1.cut hq (h0.times hq _)
    rcases Nat.eq_zero_or_pos (n % (g.length - 1)) with h3 | h3
    · exact Nat.dvd_of_mod_eq_zero h3
    · have := h2.le hq hg h3
      have := Nat.mod_lt n (show 0 < g.length - 1 by omega)
      omega
  · rintro ⟨t, rfl⟩
    exact h0.times hq t
/-- x to the power of q^n, less x. -/
def xq (q n : Nat) : List Int := padd (ppow pX (q ^ n)) (psc (-1) pX)
theorem XF_dv {m : List Int} {n : Nat} : XF q m n ↔ Dv q m (xq q n) := M_dv
theorem not_cop (hq : IsP q) {f h : List Int} (hf : nf q f ≠ []) (k : ¬ Cop q f h) : ∃ g, Irr q g ∧ Dv q g f ∧ Dv q g h := by
  obtain ⟨d, hd⟩ := gcd_ex hq _ f h (Nat.le_refl _)
  have hm := hd.mo hq hf
  have hl : 2 ≤ dg q d := by
    rw [hm.dg]
    rcases Nat.lt_or_ge d.length 2 with h1 | h1
    · have := hm.is_one hq (by omega)
      subst this
      exact absurd hd.cop k
    · exact h1
  obtain ⟨g, hg, h1⟩ := irr_factor hq _ d (Nat.le_refl _) hl
  exact ⟨g, hg, h1.trans hd.dvF, h1.trans hd.dvG⟩
theorem Irr.not_cop (hq : IsP q) {g f h : List Int} (hg : Irr q g) (hf : Dv q g f) (hh : Dv q g h) : ¬ Cop q f h := fun k =>
  hg.not_one hq (dg_one hq) (Span.dv k hf hh)
/-- Rabin's test. -/
theorem rabin (hq : IsP q) {f : List Int} (hf : Mo q f) (h2 : 2 ≤ f.length) : Irr q f ↔ (XF q f (f.length - 1) ∧ ∀ d, 1 ≤ d → d < f.length - 1 → d ∣ f.length - 1 → Cop q f (xq q d)) := by
  constructor
  · intro hi
    refine ⟨(XF_iff hq hi _).2 (Nat.dvd_refl _), fun d h1 h3 _ => ?_⟩
    rcases hi.dv_or hq (xq q d) with h | h
    · have := (XF_iff hq hi d).1 (XF_dv.2 h)
      have := Nat.le_of_dvd (by omega) this
      omega
    · exact h
  · rintro ⟨h1, h3⟩
    obtain ⟨g, hg, hgf⟩ := irr_factor hq _ f (Nat.le_refl _) (by rw [hf.dg]; exact h2)
    have h4 := (XF_iff hq hg _).1 (h1.dv hgf)
    have h5 := (hgf.len hq hf.nf_ne).2
    rw [hg.mo.dg, hf.dg] at h5
    have two := hg.two
    rcases Nat.lt_or_ge (g.length - 1) (f.length - 1) with h6 | h6
    · have h7 : Dv q g (xq q (g.length - 1)) := XF_dv.1 ((XF_iff hq hg _).2 (Nat.dvd_refl _))
      exact absurd (h3 _ (by omega) h6 h4) (hg.not_cop hq hgf h7)
    · have := hg.mo.same_len hq hf hgf (by omega)
      rw [← this]; exact hg
/-- .. by degrees up to the half. -/
theorem by_degrees (hq : IsP q) {f : List Int} (hf : Mo q f) (h2 : 2 ≤ f.length) (h : ∀ d, 1 ≤ d → 2 * d ≤ f.length - 1 → Cop q f (xq q d)) : Irr q f := by
  refine ⟨hf, h2, fun a b he => ?_⟩
  rcases Nat.lt_or_ge 1 (dg q a) with ha | ha
  · rcases Nat.lt_or_ge 1 (dg q b) with hb | hb
    · exfalso
      have ha0 : nf q a ≠ [] := by intro e; rw [← dg_zero] at e; omega
      have hb0 : nf q b ≠ [] := by intro e; rw [← dg_zero] at e; omega
      have hm := dg_mul hq ha0 hb0
      rw [← dg_congr he, hf.dg] at hm
      have key : ∀ c, Dv q c f → nf q c ≠ [] → 1 < dg q c → 2 * (dg q c - 1) ≤ f.length - 1 → False := by
        intro c hc hc0 hc1 hc2
        obtain ⟨g, hg, hgc⟩ := irr_factor hq _ c (Nat.le_refl _) hc1
        have h5 := (hgc.len hq hc0).2
        rw [hg.mo.dg] at h5
        have two := hg.two
        exact hg.not_cop hq (hgc.trans hc) (XF_dv.1 ((XF_iff hq hg _).2 (Nat.dvd_refl _))) (h (g.length - 1) (by omega) (by omega))
      rcases Nat.le_total (dg q a) (dg q b) with h3 | h3
      · exact key a ((Dv.self_mul a b).congr he) ha0 ha (by omega)
      · exact key b ((Dv.mul_self b a).congr he) hb0 hb (by omega)
    · exact .inr hb
  · exact .inl ha
end
end Go.Proofs.Ytokdcgmjpnanoaa
/- Derivatives, square-free polynomials, roots by the prime; Berlekamp: a polynomial that its power by q leaves as it is splits, and there is one if the polynomial is no irreducible one. No function of the program in it. -/
set_option linter.unusedVariables false
set_option linter.unusedSimpArgs false
namespace Go.Proofs.Ytokdcgmjpnanoaa

section
variable {q : Nat}
/-! ### The derivative -/
def dr : List Int → List Int
  | [] => []
  | a :: f => padd f (0 :: dr f)
theorem getD_dr : ∀ (f : List Int) (i : Nat), (dr f).getD i 0 = f.getD (i + 1) 0 * ((i : Int) + 1)
  | [], i => by simp [dr]
  | a :: f, 0 => by simp only [dr, getD_padd, getD_cons_zero', getD_cons_succ']; simp
  | a :: f, i + 1 => by
    simp only [dr, getD_padd, getD_cons_succ', getD_dr f i]
    push_cast
    grind
theorem dr_E {f g : List Int} (h : E q f g) : E q (dr f) (dr g) := cf_E fun i => by
  rw [getD_dr, getD_dr, Int.mul_emod, E_cf h (i + 1), ← Int.mul_emod]
theorem dr_add (f g : List Int) (x : Int) : ev (dr (padd f g)) x = ev (dr f) x + ev (dr g) x := by
  rw [← ev_padd]
  refine ev_ext x _ _ fun i => ?_
  rw [getD_dr, getD_padd, getD_padd, getD_dr, getD_dr]; grind
theorem dr_sc (c : Int) (f : List Int) (x : Int) : ev (dr (psc c f)) x = c * ev (dr f) x := by
  rw [← ev_psc]
  refine ev_ext x _ _ fun i => ?_
  rw [getD_dr, getD_psc, getD_psc, getD_dr]; grind
theorem dr_mul (x : Int) : ∀ f g : List Int, ev (dr (pmul f g)) x = ev (dr f) x * ev g x + ev f x * ev (dr g) x
  | [], g => by simp [pmul, dr, ev]
  | a :: f, g => by
    have ih := dr_mul x f g
    simp only [pmul, dr_add, dr_sc]
    simp only [dr, ev_padd, ev, ih, ev_pmul]
    grind
theorem dr_dg (hq : IsP q) (f : List Int) : dg q (dr f) ≤ dg q f - 1 := by
  refine nf_short hq fun i hi => ?_
  have h1 := getD_over' (nf q f) (i + 1) (by unfold dg at hi; omega)
  rw [getD_nf] at h1
  rw [getD_dr, Int.mul_emod, h1]; simp

/-- No irreducible one divides it twice. -/
def SqF (q : Nat) (f : List Int) : Prop := ∀ g, Irr q g → ¬ Dv q (pmul g g) f
theorem twice_dr {g f : List Int} (h : Dv q (pmul g g) f) : Dv q g (dr f) := by
  obtain ⟨k, hk⟩ := h
  refine Dv.congr ?_ (dr_E hk)
  refine ⟨padd (pmul (dr k) g) (psc 2 (pmul k (dr g))), .of_ev fun x => ?_⟩
  simp only [dr_mul, ev_padd, ev_psc, ev_pmul]; grind
theorem sqf_of_cop (hq : IsP q) {f : List Int} (h : Cop q f (dr f)) : SqF q f := fun g hg k =>
  hg.not_cop hq ((Dv.self_mul g g).trans k) (twice_dr k) h
theorem SqF.dv {f g : List Int} (h : SqF q f) (k : Dv q g f) : SqF q g := fun i hi d => h i hi (d.trans k)
/-- Parts of a square-free one have no common factor. -/
theorem SqF.cop (hq : IsP q) {f a b : List Int} (h : SqF q f) (hf : nf q f ≠ []) (e : E q f (pmul a b)) : Cop q a b := by
  by_cases hc : Cop q a b
  · exact hc
  · exfalso
    rw [nf_eq e] at hf
    obtain ⟨g, hg, h1, h2⟩ := not_cop hq (ne_of_mul hf).1 hc
    exact h g hg ((h1.mul h2).congr e)

/-! ### The root by q -/
def spread (q : Nat) : List Int → List Int
  | [] => []
  | a :: h => a :: (List.replicate (q - 1) 0 ++ spread q h)
theorem ev_spread (hq : 0 < q) (x : Int) : ∀ h : List Int, ev (spread q h) x = ev h (x ^ q)
  | [] => rfl
  | a :: h => by
    have ih := ev_spread hq x h
    have e1 : x ^ q = x * x ^ (q - 1) := by
      obtain ⟨k, hk⟩ : ∃ k, q = k + 1 := ⟨q - 1, by omega⟩
      rw [hk, Nat.add_sub_cancel, Int.pow_succ, Int.mul_comm]
    simp only [spread, ev, ev_append, ev_zeros, List.length_replicate]
    rw [ih, e1]
    grind
theorem getD_spread (hq : 0 < q) : ∀ (h : List Int) (i : Nat), (spread q h).getD i 0 = if i % q = 0 then h.getD (i / q) 0 else 0
  | [], i => by simp [spread]
  | a :: h, 0 => by simp [spread]
  | a :: h, i + 1 => by
    simp only [spread]
    rw [getD_cons_succ']
    have h0 := getD_pup (q - 1) (spread q h) i
    unfold pup at h0
    rw [h0]
    by_cases h1 : i < q - 1
    · rw [if_pos h1, if_neg (by rw [Nat.mod_eq_of_lt (by omega)]; omega)]
    · rw [if_neg h1, getD_spread hq h]
      have e1 : i + 1 = (i - (q - 1)) + q := by omega
      rw [e1, Nat.add_mod_right, Nat.add_div_right _ hq, getD_cons_succ']
theorem pow_spread (hq : IsP q) : ∀ r : List Int, E q (ppow r q) (spread q r)
  | [] => .of_ev fun x => by
    obtain ⟨k, hk⟩ : ∃ k, q = k + 1 := ⟨q - 1, by have := hq.1; omega⟩
    rw [ev_ppow, hk]; simp [spread, ev, Int.pow_succ]
  | a :: r => by
    have ih := pow_spread hq r
    have h1 : E q (a :: r) (padd [a] (pmul pX r)) := .of_ev fun x => by simp only [ev_padd, ev_pmul, ev_pX, ev]; grind
    have h2 := (h1.pow q).trans (frobenius hq [a] (pmul pX r))
    have h3 : E q (ppow (pmul pX r) q) (pmul (ppow pX q) (spread q r)) :=
      E.trans (.of_ev fun x => by simp only [ev_ppow, ev_pmul, Int.mul_pow]) ((E.refl q _).mul ih)
    refine (h2.trans ((con_fermat hq a).add h3)).trans (.of_ev fun x => ?_)
    rw [ev_spread hq.pos]
    simp only [ev_padd, ev_pmul, ev_ppow, ev_pX, ev_spread hq.pos, ev]
    grind
theorem zero_of_mul (hq : IsP q) {a i : Int} (hi : i % (q : Int) ≠ 0) (h : (a * i) % (q : Int) = 0) : a % (q : Int) = 0 := by
  obtain ⟨c, hc⟩ := inv_ex hq hi
  obtain ⟨r, hr⟩ := one_of_inv hq hc
  obtain ⟨t, ht⟩ := Int.dvd_of_emod_eq_zero h
  apply Int.emod_eq_zero_of_dvd
  refine ⟨t * c - a * r, ?_⟩
  have h1 : a * (i * c) = a * i * c := by grind
  rw [ht, hr] at h1
  grind
/-- A polynomial whose derivative is 0 is a power by q. -/
theorem root_pow (hq : IsP q) {r f : List Int} (h : ∀ i, r.getD i 0 % (q : Int) = f.getD (q * i) 0 % (q : Int)) (hd : E q (dr f) []) : E q (ppow r q) f := by
  refine (pow_spread hq r).trans (cf_E fun i => ?_)
  rw [getD_spread hq.pos]
  split
  · rename_i h1
    rw [h, Nat.mul_div_cancel' (Nat.dvd_of_mod_eq_zero h1)]
  · rename_i h1
    have h2 := E_cf hd (i - 1)
    obtain ⟨j, rfl⟩ : ∃ j, i = j + 1 := ⟨i - 1, by have : i ≠ 0 := by rintro rfl; simp at h1
                                                   omega⟩
    rw [Nat.add_sub_cancel, getD_dr] at h2
    simp only [getD_nil', Int.zero_emod] at h2
    rw [zero_of_mul hq (i := (j : Int) + 1) (by rw [show (j : Int) + 1 = ((j + 1 : Nat) : Int) by push_cast; rfl, ← Int.natCast_emod]; omega) h2]; rfl

/-! ### Berlekamp -/
theorem con_dg (hq : IsP q) (a b : Int) : dg q (padd [a] (psc (-1) [b])) ≤ 1 := by
  have := nf_len q (padd [a] (psc (-1) [b]))
  simpa [dg, padd, psc] using this
/-- A polynomial that its power by q leaves as it is, is a constant by each irreducible one. -/
theorem fixed_con (hq : IsP q) {g v : List Int} (hg : Irr q g) (h : M q g (ppow v q) v) : ∃ s : Nat, s < q ∧ M q g v [(s : Int)] := by
  by_cases hs : ∃ s : Nat, s < q ∧ M q g v [(s : Int)]
  · exact hs
  · exfalso
    have two := hg.two
    have hp : ((List.range q).map fun (s : Nat) => [((s : Nat) : Int)]).Pairwise (fun a b => ¬ M q g b a) := by
      rw [List.pairwise_map]
      refine List.Pairwise.imp_of_mem ?_ (List.nodup_range (n := q))
      intro s t hs ht hne k
      have h1 := small_zero hq hg.mo (M_dv.1 k) (by have := con_dg hq (t : Int) (s : Int); omega)
      have h2 := E_cf h1 0
      simp only [padd, psc, List.map_cons, List.map_nil, getD_cons_zero', getD_nil'] at h2
      rw [List.mem_range] at hs ht
      have h3 : ((t : Int) - s) % (q : Int) = 0 := by rw [← show (t : Int) + -1 * s = t - s by omega, h2]; rfl
      have h4 := Int.dvd_of_emod_eq_zero h3
      have h5 := Int.eq_zero_of_dvd_of_natAbs_lt_natAbs h4 (by omega)
      exact hne (by omega)
    have h1 := powers_le hq hg hq.1 (v :: (List.range q).map fun (s : Nat) => [((s : Nat) : Int)]) (List.pairwise_cons.2 ⟨fun b hb k => by
      obtain ⟨s, hs1, rfl⟩ := List.mem_map.1 hb
      exact hs ⟨s, List.mem_range.1 hs1, k.symm⟩, hp⟩) (fun a ha => by
      rcases List.mem_cons.1 ha with rfl | ha
      · exact h
      · obtain ⟨s, -, rfl⟩ := List.mem_map.1 ha
        exact (con_fermat hq _).m g)
    simp at h1
    omega
/-- .. and splits what it is no constant by. -/
theorem fixed_splits (hq : IsP q) {f v : List Int} (hf : Mo q f) (h2 : 2 ≤ f.length) (h : M q f (ppow v q) v) : ∃ s : Nat, s < q ∧ ∀ d, GcdIs q (padd v (psc (-1) [(s : Int)])) f d → 2 ≤ d.length := by
  obtain ⟨g, hg, hgf⟩ := irr_factor hq _ f (Nat.le_refl _) (by rw [hf.dg]; exact h2)
  obtain ⟨s, hs, k⟩ := fixed_con hq hg (h.dv hgf)
  refine ⟨s, hs, fun d hd => ?_⟩
  have h1 : Dv q g d := hd.great (M_dv.1 k) hgf
  have h3 : d ≠ [] := by
    rintro rfl
    have := (hd.dvG.len hq hf.nf_ne).1
    exact this (nf_nil q)
  have hdm := hd.mon.mo h3
  have h4 := (h1.len hq hdm.nf_ne).2
  rw [hg.mo.dg, hdm.dg] at h4
  have := hg.two; omega
theorem splits_less (hq : IsP q) {f v d : List Int} {s : Int} (hf : Mo q f) (hv : 2 ≤ dg q v) (hl : dg q v < f.length) (hd : GcdIs q (padd v (psc (-1) [s])) f d) : d.length < f.length := by
  have h3 : d ≠ [] := by
    rintro rfl
    have := (hd.dvG.len hq hf.nf_ne).1
    exact this (nf_nil q)
  have hdm := hd.mon.mo h3
  have h0 : nf q (padd v (psc (-1) [s])) ≠ [] := by
    intro e
    have e1 := nf_zero.1 e
    have e2 : E q v [s] := by
      obtain ⟨a, ha⟩ := e1
      exact ⟨a, fun x => by have := ha x; simp only [ev_padd, ev_psc, ev] at *; grind⟩
    have := nf_len q [s]
    rw [dg_congr e2] at hv
    unfold dg at hv; simp at this; omega
  have h1 := (hd.dvF.len hq h0).2
  have h2 : dg q [s] ≤ dg q v := by have := nf_len q [s]; simp at this; unfold dg at hv ⊢; omega
  have h4 := dg_sub hq (Nat.le_refl (dg q v)) h2
  rw [hdm.dg] at h1; omega
/-- There is one, if a square-free polynomial is no irreducible one. -/
theorem fixed_ex (hq : IsP q) {f : List Int} (hf : Mo q f) (h2 : 2 ≤ f.length) (hs : SqF q f) (hn : ¬ Irr q f) : ∃ v, M q f (ppow v q) v ∧ ∀ c, ¬ M q f v [c] := by
  have h : ∃ a b, E q f (pmul a b) ∧ 1 < dg q a ∧ 1 < dg q b := by
    by_cases h : ∃ a b, E q f (pmul a b) ∧ 1 < dg q a ∧ 1 < dg q b
    · exact h
    · refine absurd ⟨hf, h2, fun a b he => ?_⟩ hn
      rcases Nat.lt_or_ge 1 (dg q a) with h3 | h3
      · rcases Nat.lt_or_ge 1 (dg q b) with h4 | h4
        · exact absurd ⟨a, b, he, h3, h4⟩ h
        · exact .inr h4
      · exact .inl h3
  obtain ⟨a, b, he, ha, hb⟩ := h
  have hc := hs.cop hq hf.nf_ne he
  have ha0 : nf q a ≠ [] := by intro e; rw [← dg_zero] at e; omega
  have hb0 : nf q b ≠ [] := by intro e; rw [← dg_zero] at e; omega
  obtain ⟨u, w, huw⟩ := hc
  have haf : Dv q a f := (Dv.self_mul a b).congr he
  have hbf : Dv q b f := (Dv.mul_self b a).congr he
  have hva : M q a (pmul u a) [] := dv_M.1 (Dv.mul_self a u)
  have hvb : M q b (pmul u a) [1] := by
    obtain ⟨e, hev⟩ := huw
    exact ⟨psc (-1) w, psc (-1) e, fun x => by have := hev x; simp only [ev_padd, ev_psc, ev_pmul, ev] at *; grind⟩
  have z : M q a (ppow [] q) [] := .of_ev fun x => by
    obtain ⟨k, hk⟩ : ∃ k, q = k + 1 := ⟨q - 1, by have := hq.1; omega⟩
    rw [ev_ppow, hk]; simp [ev, Int.pow_succ]
  have o : M q b (ppow [1] q) [1] := (con_fermat hq 1).m b
  have k1 : M q a (ppow (pmul u a) q) (pmul u a) := ((M.pow hva q).trans z).trans hva.symm
  have k2 : M q b (ppow (pmul u a) q) (pmul u a) := ((M.pow hvb q).trans o).trans hvb.symm
  refine ⟨pmul u a, M_dv.2 ?_, fun c k => ?_⟩
  · exact (Cop.join ⟨u, w, huw⟩ (M_dv.1 k1) (M_dv.1 k2)).congrL (q := q) (E.symm he)
  · have c1 : M q a [c] [] := (k.dv haf).symm.trans hva
    have c2 : M q b [c] [1] := (k.dv hbf).symm.trans hvb
    have small : ∀ {m : List Int} {t : Int}, 1 < dg q m → Dv q m [t] → t % (q : Int) = 0 := by
      intro m t hm hd
      by_cases h0 : nf q [t] = []
      · have := E_cf (nf_zero.1 h0) 0
        simpa using this
      · have h3 := (hd.len hq h0).2
        have h4 := nf_len q [t]
        simp at h4; unfold dg at hm h3; omega
    have d1 := small ha (dv_M.2 c1)
    have d2 := small (t := c - 1) hb ((M_dv.1 c2).congr (.of_ev fun x => by simp only [ev_padd, ev_psc, ev]; grind))
    have := hq.1
    rw [Int.sub_emod, d1] at d2
    have h5 : (1 : Int) % (q : Int) = 1 := Int.emod_eq_of_lt (by omega) (by omega)
    rw [h5] at d2
    have h6 : (0 - 1 : Int) % (q : Int) = q - 1 := by
      rw [show (0 - 1 : Int) = (q - 1) + q * (-1) by omega, Int.add_mul_emod_self_left]
      exact Int.emod_eq_of_lt (by omega) (by omega)
    omega
end
end Go.Proofs.Ytokdcgmjpnanoaa
/- The order of polynomials, sorted lists; factors by their degrees. No function of the program in it. -/
set_option linter.unusedVariables false
set_option linter.unusedSimpArgs false
namespace Go.Proofs.Ytokdcgmjpnanoaa

/-- Does f stand ahead of g, by the coefficients below n, the highest first? -/
def befAt (f g : List Int) : Nat → Bool
  | 0 => false
  | n + 1 => if f.getD n 0 = g.getD n 0 then befAt f g n else decide (f.getD n 0 < g.getD n 0)
def bef (f g : List Int) : Bool := if f.length = g.length then befAt f g f.length else decide (f.length < g.length)

theorem befAt_asymm (f g : List Int) : ∀ n, befAt f g n = true → befAt g f n = false
  | 0, h => by simp [befAt] at h
  | n + 1, h => by
    unfold befAt at h ⊢
    by_cases h1 : f.getD n 0 = g.getD n 0
    · rw [if_pos h1] at h; rw [if_pos h1.symm]; exact befAt_asymm f g n h
    · rw [if_neg h1] at h; rw [if_neg (Ne.symm h1)]
      have := of_decide_eq_true h
      exact decide_eq_false (by omega)
theorem befAt_trans (f g h : List Int) : ∀ n, befAt f g n = true → befAt g h n = true → befAt f h n = true
  | 0, a, _ => by simp [befAt] at a
  | n + 1, a, b => by
    unfold befAt at a b ⊢
    by_cases h1 : f.getD n 0 = g.getD n 0
    · rw [if_pos h1] at a
      by_cases h2 : g.getD n 0 = h.getD n 0
      · rw [if_pos h2] at b; rw [if_pos (h1.trans h2)]; exact befAt_trans f g h n a b
      · rw [if_neg h2] at b; rw [if_neg (by rw [h1]; exact h2), h1]; exact b
    · rw [if_neg h1] at a
      have a' := of_decide_eq_true a
      by_cases h2 : g.getD n 0 = h.getD n 0
      · rw [if_neg (by rw [← h2]; exact h1), ← h2]; exact a
      · rw [if_neg h2] at b
        have b' := of_decide_eq_true b
        rw [if_neg (by omega)]; exact decide_eq_true (by omega)
theorem befAt_total (f g : List Int) : ∀ n, befAt f g n = false → befAt g f n = false → ∀ i, i < n → f.getD i 0 = g.getD i 0
  | 0, _, _, i, hi => by omega
  | n + 1, a, b, i, hi => by
    unfold befAt at a b
    by_cases h1 : f.getD n 0 = g.getD n 0
    · rw [if_pos h1] at a; rw [if_pos h1.symm] at b
      rcases Nat.lt_or_ge i n with h2 | h2
      · exact befAt_total f g n a b i h2
      · rw [show i = n by omega]; exact h1
    · rw [if_neg h1] at a; rw [if_neg (Ne.symm h1)] at b
      have := of_decide_eq_false a; have := of_decide_eq_false b
      omega
theorem bef_asymm {f g : List Int} (h : bef f g = true) : bef g f = false := by
  unfold bef at h ⊢
  by_cases h1 : f.length = g.length
  · rw [if_pos h1] at h; rw [if_pos h1.symm, ← h1]; exact befAt_asymm f g _ h
  · rw [if_neg h1] at h; rw [if_neg (Ne.symm h1)]
    have := of_decide_eq_true h
    exact decide_eq_false (by omega)
theorem bef_trans {f g h : List Int} (a : bef f g = true) (b : bef g h = true) : bef f h = true := by
  unfold bef at a b ⊢
  by_cases h1 : f.length = g.length
  · rw [if_pos h1] at a
    by_cases h2 : g.length = h.length
    · rw [if_pos h2] at b; rw [if_pos (h1.trans h2)]; rw [← h1] at b; exact befAt_trans f g h _ a b
    · rw [if_neg h2] at b; rw [if_neg (by rw [h1]; exact h2), h1]; exact b
  · rw [if_neg h1] at a
    have a' := of_decide_eq_true a
    by_cases h2 : g.length = h.length
    · rw [if_neg (by rw [← h2]; exact h1), ← h2]; exact a
    · rw [if_neg h2] at b
      have b' := of_decide_eq_true b
      rw [if_neg (by omega)]; exact decide_eq_true (by omega)
theorem bef_total {f g : List Int} (a : bef f g = false) (b : bef g f = false) : f = g := by
  unfold bef at a b
  by_cases h1 : f.length = g.length
  · rw [if_pos h1] at a; rw [if_pos h1.symm, ← h1] at b
    have h := befAt_total f g _ a b
    apply List.ext_getElem h1
    intro i h2 h3
    have := h i h2
    rw [List.getD_eq_getElem?_getD, List.getD_eq_getElem?_getD, List.getElem?_eq_getElem h2, List.getElem?_eq_getElem h3] at this
    exact this
  · rw [if_neg h1] at a; rw [if_neg (Ne.symm h1)] at b
    have := of_decide_eq_false a; have := of_decide_eq_false b
    omega
/-- a does not stand behind b. -/
def Le (a b : List Int) : Prop := bef b a = false
theorem Le.refl (a : List Int) : Le a a := by
  unfold Le
  cases h : bef a a with
  | false => rfl
  | true => exact absurd (bef_asymm h) (by rw [h]; decide)
theorem Le.trans {a b c : List Int} (h : Le a b) (k : Le b c) : Le a c := by
  unfold Le at *
  cases h1 : bef c a with
  | false => rfl
  | true =>
    cases h2 : bef a b with
    | true => rw [bef_trans h1 h2] at k; exact absurd k (by decide)
    | false => have := bef_total h h2; subst this; rw [h1] at k; exact absurd k (by decide)
theorem Le.of_bef {a b : List Int} (h : bef a b = true) : Le a b := bef_asymm h
theorem Le.anti {a b : List Int} (h : Le a b) (k : Le b a) : a = b := bef_total k h
def SortedL (l : List (List Int)) : Prop := l.Pairwise Le
theorem sorted_unique : ∀ {l l' : List (List Int)}, l.Perm l' → SortedL l → SortedL l' → l = l'
  | [], l', h, _, _ => by simpa using h.symm
  | a :: l, [], h, _, _ => by simp at h
  | a :: l, b :: l', h, h1, h2 => by
    obtain ⟨p1, p2⟩ := List.pairwise_cons.1 h1
    obtain ⟨p3, p4⟩ := List.pairwise_cons.1 h2
    have ha : a ∈ b :: l' := h.subset (by simp)
    have hb : b ∈ a :: l := h.symm.subset (by simp)
    have e : a = b := by
      rcases List.mem_cons.1 ha with h3 | h3
      · exact h3
      · rcases List.mem_cons.1 hb with h4 | h4
        · exact h4.symm
        · exact (p1 b h4).anti (p3 a h3)
    subst e
    rw [sorted_unique (List.perm_cons a |>.1 h) p2 p4]

section
variable {q : Nat}
/-- What Factor answers: in order, irreducible, and their product is f. -/
structure FactorsOf (q : Nat) (f : List Int) (l : List (List Int)) : Prop where
  irr : ∀ g ∈ l, Irr q g
  eq : E q (prodL l) f
theorem FactorsOf.perm (hq : IsP q) {f f' : List Int} {l l' : List (List Int)} (h : FactorsOf q f l) (h' : FactorsOf q f' l') (e : E q f f') : l.Perm l' :=
  factors_perm hq l l' h.irr h'.irr (h.eq.trans (e.trans h'.eq.symm))
theorem FactorsOf.unique (hq : IsP q) {f f' : List Int} {l l' : List (List Int)} (h : FactorsOf q f l) (h' : FactorsOf q f' l') (e : E q f f') (s : SortedL l) (s' : SortedL l') : l = l' :=
  sorted_unique (h.perm hq h' e) s s'
theorem FactorsOf.nil : FactorsOf q [1] [] := ⟨fun g h => by simp at h, E.refl q _⟩
theorem FactorsOf.single {f : List Int} (h : Irr q f) : FactorsOf q f [f] := ⟨fun g hg => by rw [List.mem_singleton.1 hg]; exact h, .of_ev fun x => by simp [prodL, ev_pmul, ev]⟩
theorem FactorsOf.app {f g h : List Int} {l m : List (List Int)} (hf : FactorsOf q f l) (hg : FactorsOf q g m) (e : E q h (pmul f g)) : FactorsOf q h (l ++ m) :=
  ⟨fun k hk => (List.mem_append.1 hk).elim (hf.irr k) (hg.irr k), (E.trans (.of_ev fun x => by rw [prodL_app, ev_pmul]) (hf.eq.mul hg.eq)).trans e.symm⟩
theorem FactorsOf.of_perm {f : List Int} {l m : List (List Int)} (h : FactorsOf q f l) (p : m.Perm l) : FactorsOf q f m :=
  ⟨fun k hk => h.irr k (p.subset hk), E.trans (.of_ev fun x => prodL_perm p x) h.eq⟩
theorem FactorsOf.congr {f f' : List Int} {l : List (List Int)} (h : FactorsOf q f l) (e : E q f f') : FactorsOf q f' l := ⟨h.irr, h.eq.trans e⟩
/-- Lists n times behind each other. -/
def timesL (l : List (List Int)) : Nat → List (List Int)
  | 0 => []
  | n + 1 => timesL l n ++ l
theorem FactorsOf.times {f : List Int} {l : List (List Int)} (h : FactorsOf q f l) : ∀ n, FactorsOf q (ppow f n) (timesL l n)
  | 0 => FactorsOf.nil
  | n + 1 => (h.times n).app h (.of_ev fun x => by simp only [ppow, ev_pmul]; grind)

/-! ### Factors of one degree -/
def AllD (q : Nat) (f : List Int) (d : Nat) : Prop := ∀ g, Irr q g → Dv q g f → g.length = d + 1
def MinD (q : Nat) (f : List Int) (d : Nat) : Prop := ∀ g, Irr q g → Dv q g f → d + 1 ≤ g.length
theorem AllD.dv {f a : List Int} {d : Nat} (h : AllD q f d) (k : Dv q a f) : AllD q a d := fun g hg hd => h g hg (hd.trans k)
theorem MinD.dv {f a : List Int} {d : Nat} (h : MinD q f d) (k : Dv q a f) : MinD q a d := fun g hg hd => h g hg (hd.trans k)
theorem MinD.one (f : List Int) : MinD q f 1 := fun g hg _ => hg.two
theorem MinD.irr (hq : IsP q) {f : List Int} {d : Nat} (hf : Mo q f) (h : MinD q f d) (h2 : 2 ≤ f.length) (hl : f.length - 1 < 2 * d) : Irr q f := by
  obtain ⟨g, hg, hgf⟩ := irr_factor hq _ f (Nat.le_refl _) (by rw [hf.dg]; exact h2)
  obtain ⟨k, hk⟩ := hgf
  have h0 : nf q (pmul k g) ≠ [] := by rw [← nf_eq hk]; exact hf.nf_ne
  obtain ⟨k0, -⟩ := ne_of_mul h0
  have hm := dg_mul hq k0 hg.mo.nf_ne
  rw [← dg_congr hk, hf.dg, hg.mo.dg] at hm
  have h1 := h g hg ⟨k, hk⟩
  have : dg q k < 2 := by
    rcases Nat.lt_or_ge (dg q k) 2 with h3 | h3
    · exact h3
    · exfalso
      obtain ⟨i, hi, hik⟩ := irr_factor hq _ k (Nat.le_refl _) h3
      have h4 := h i hi ((hik.mulR g).congr hk)
      have h5 := (hik.len hq k0).2
      rw [hi.mo.dg] at h5; omega
  have := hg.mo.same_len hq hf ⟨k, hk⟩ (by omega)
  rw [← this]; exact hg
theorem AllD.irr (hq : IsP q) {f : List Int} {d : Nat} (hf : Mo q f) (h : AllD q f d) (hd : 1 ≤ d) (hl : f.length = d + 1) : Irr q f :=
  MinD.irr hq (d := d) hf (fun g hg k => by rw [h g hg k]; exact Nat.le_refl _) (by omega) (by omega)
/-- What f has in common with x^(q^d) - x has factors of the degree d alone, if f has none of a smaller one; what is left has none of that degree, if f is square-free. -/
theorem degree_part (hq : IsP q) {f h k : List Int} {d : Nat} (hd : 1 ≤ d) (hf : Mo q f) (hs : SqF q f) (hm : MinD q f d) (hg : GcdIs q (xq q d) f h) (e : E q f (pmul k h)) : AllD q h d ∧ MinD q k (d + 1) := by
  constructor
  · intro g hi hgh
    have h1 := (XF_iff hq hi d).1 (XF_dv.2 (hgh.trans hg.dvF))
    have h2 := Nat.le_of_dvd (by omega) h1
    have h3 := hm g hi (hgh.trans hg.dvG)
    have := hi.two; omega
  · intro g hi hgk
    have h1 := hm g hi ((hgk.mulR h).congr e)
    rcases Nat.eq_or_lt_of_le h1 with h2 | h2
    · exfalso
      have h3 : Dv q g (xq q d) := XF_dv.1 ((XF_iff hq hi d).2 (by rw [← h2]; simp))
      have h4 := hg.great h3 ((hgk.mulR h).congr e)
      exact hs g hi ((hgk.mul h4).congr e)
    · omega
end
end Go.Proofs.Ytokdcgmjpnanoaa
/- Sums, rows and columns by a prime: what multiples of rows add up to noughts; steps on columns leave it; what the last form tells; fixed polynomials as such rows. No function of the program in it. -/
set_option linter.unusedVariables false
set_option linter.unusedSimpArgs false
namespace Go.Proofs.Ytokdcgmjpnanoaa

def sm (F : Nat → Int) : Nat → Int
  | 0 => 0
  | n + 1 => sm F n + F n
theorem sm_congr {F G : Nat → Int} : ∀ n, (∀ i, i < n → F i = G i) → sm F n = sm G n
  | 0, _ => rfl
  | n + 1, h => by simp only [sm]; rw [sm_congr n (fun i hi => h i (by omega)), h n (by omega)]
theorem sm_add (F G : Nat → Int) : ∀ n, sm (fun i => F i + G i) n = sm F n + sm G n
  | 0 => rfl
  | n + 1 => by simp only [sm, sm_add F G n]; omega
theorem sm_mul (c : Int) (F : Nat → Int) : ∀ n, sm (fun i => c * F i) n = c * sm F n
  | 0 => by simp [sm]
  | n + 1 => by simp only [sm, sm_mul c F n]; grind
theorem sm_mod {q : Int} {F G : Nat → Int} : ∀ n, (∀ i, i < n → F i % q = G i % q) → sm F n % q = sm G n % q
  | 0, _ => rfl
  | n + 1, h => by simp only [sm]; rw [Int.add_emod, sm_mod n (fun i hi => h i (by omega)), h n (by omega), ← Int.add_emod]
theorem sm_zero {q : Int} {F : Nat → Int} : ∀ n, (∀ i, i < n → F i % q = 0) → sm F n % q = 0
  | 0, _ => by simp [sm]
  | n + 1, h => by simp only [sm]; rw [Int.add_emod, sm_zero n (fun i hi => h i (by omega)), h n (by omega)]; simp
theorem sm_one {q : Int} {F : Nat → Int} (j : Nat) : ∀ n, j < n → (∀ i, i < n → i ≠ j → F i % q = 0) → sm F n % q = F j % q
  | 0, h, _ => by omega
  | n + 1, h, k => by
    simp only [sm]
    by_cases hj : j = n
    · subst hj
      rw [Int.add_emod, sm_zero j (fun i hi => k i (by omega) (by omega))]; simp
    · rw [Int.add_emod, sm_one j n (by omega) (fun i hi hne => k i (by omega) hne), k n (by omega) (by omega)]; simp
theorem sm_two {q : Int} {F : Nat → Int} (j l : Nat) (hjl : j ≠ l) : ∀ n, j < n → l < n → (∀ i, i < n → i ≠ j → i ≠ l → F i % q = 0) → sm F n % q = (F j + F l) % q
  | 0, h, _, _ => by omega
  | n + 1, h1, h2, k => by
    simp only [sm]
    by_cases hj : j = n
    · subst hj
      rw [Int.add_emod, sm_one l j (by omega) (fun i hi hne => k i (by omega) (by omega) hne), ← Int.add_emod, Int.add_comm]
    · by_cases hl : l = n
      · subst hl
        rw [Int.add_emod, sm_one j l (by omega) (fun i hi hne => k i (by omega) hne (by omega)), ← Int.add_emod]
      · rw [Int.add_emod, sm_two j l hjl n (by omega) (by omega) (fun i hi a b => k i (by omega) a b), k n (by omega) (by omega) (by omega)]; simp

section
variable {q n : Nat}
/-- The rows, each times a number, add up to noughts. -/
def Ker (q n : Nat) (m : Nat → Nat → Int) (v : Nat → Int) : Prop := ∀ k, k < n → sm (fun i => v i * m i k) n % (q : Int) = 0
theorem Ker.congr {m m' : Nat → Nat → Int} {v : Nat → Int} (h : Ker q n m v) (e : ∀ i k, i < n → k < n → m' i k % (q : Int) = m i k % (q : Int)) : Ker q n m' v := fun k hk => by
  rw [← h k hk]
  exact sm_mod n fun i hi => by rw [Int.mul_emod, e i k hi hk, ← Int.mul_emod]
theorem Ker.swap {m m' : Nat → Nat → Int} {v : Nat → Int} {a b : Nat} (ha : a < n) (hb : b < n) (h : Ker q n m v) (e : ∀ i k, i < n → k < n → m' i k = m i (if k = a then b else if k = b then a else k)) : Ker q n m' v := fun k hk => by
  rw [sm_congr n (G := fun i => v i * m i (if k = a then b else if k = b then a else k)) (fun i hi => by rw [e i k hi hk])]
  split
  · exact h b hb
  · split
    · exact h a ha
    · exact h k hk
theorem Ker.scale {m m' : Nat → Nat → Int} {v : Nat → Int} {u : Nat} {c : Int} (h : Ker q n m v) (e : ∀ i k, i < n → k < n → m' i k % (q : Int) = (if k = u then m i k * c else m i k) % (q : Int)) : Ker q n m' v := fun k hk => by
  have h1 := h k hk
  by_cases hu : k = u
  · rw [sm_mod n (G := fun i => c * (v i * m i k)) (fun i hi => by rw [Int.mul_emod, e i k hi hk, if_pos hu, ← Int.mul_emod]; congr 1; grind), sm_mul, Int.mul_emod, h1]; simp
  · rw [← h1]
    exact sm_mod n fun i hi => by rw [Int.mul_emod, e i k hi hk, if_neg hu, ← Int.mul_emod]
theorem Ker.less {m m' : Nat → Nat → Int} {v : Nat → Int} {u : Nat} {b : Nat → Int} (hu : u < n) (h : Ker q n m v) (e : ∀ i k, i < n → k < n → m' i k % (q : Int) = (if k = u then m i k else m i k - b k * m i u) % (q : Int)) : Ker q n m' v := fun k hk => by
  have h1 := h k hk
  have h2 := h u hu
  by_cases hk' : k = u
  · rw [← h1]
    exact sm_mod n fun i hi => by rw [Int.mul_emod, e i k hi hk, if_pos hk', ← Int.mul_emod]
  · rw [sm_mod n (G := fun i => v i * m i k + (-b k) * (v i * m i u)) (fun i hi => by rw [Int.mul_emod, e i k hi hk, if_neg hk', ← Int.mul_emod]; congr 1; grind), sm_add, sm_mul, Int.add_emod, h1, Int.mul_emod, h2]; simp

/-- The columns below used are led by one row each; rows that lead none are noughts behind them. -/
structure Ech (q n c used free : Nat) (lead : Nat → Int) (M0 m : Nat → Nat → Int) : Prop where
  ker : ∀ v, Ker q n m v ↔ Ker q n M0 v
  rng : ∀ i k, i < n → k < n → 0 ≤ m i k ∧ m i k < (q : Int)
  ul : used ≤ c
  ld : ∀ r, r < c → lead r = -1 ∨ ∃ j : Nat, lead r = j ∧ j < used ∧ m r j = 1 ∧ ∀ k, k < n → k ≠ j → m r k = 0
  nl : ∀ r, r < c → lead r = -1 → ∀ k, used ≤ k → k < n → m r k = 0
  on : ∀ j, j < used → ∃ r, r < c ∧ lead r = j
  inj : ∀ r s, r < c → s < c → lead r = lead s → 0 ≤ lead r → r = s
  fre : free = 0 ∨ (free < c ∧ lead free = -1)
  las : ∀ r, r < c → lead r = -1 → r ≤ free
  z0 : ∀ k, k < n → m 0 k = 0
theorem Ech.start {M0 : Nat → Nat → Int} {lead : Nat → Int} (h : ∀ i k, i < n → k < n → 0 ≤ M0 i k ∧ M0 i k < (q : Int)) (hz : ∀ k, k < n → M0 0 k = 0) : Ech q n 0 0 0 lead M0 M0 :=
  ⟨fun _ => Iff.rfl, h, Nat.le_refl _, fun r hr => by omega, fun r hr => by omega, fun j hj => by omega, fun r s hr => by omega, .inl rfl, fun r hr => by omega, hz⟩
/-- A row of noughts behind used: it leads none. -/
theorem Ech.skip {c used free : Nat} {lead lead' : Nat → Int} {M0 m : Nat → Nat → Int} (h : Ech q n c used free lead M0 m) (hc : c < n) (h0 : ∀ k, used ≤ k → k < n → m c k = 0) (hl : ∀ r, lead' r = if r = c then -1 else lead r) : Ech q n (c + 1) used c lead' M0 m := by
  have lo : ∀ r, r < c → lead' r = lead r := fun r hr => by rw [hl, if_neg (by omega)]
  have lc : lead' c = -1 := by rw [hl, if_pos rfl]
  refine ⟨h.ker, h.rng, by have := h.ul; omega, fun r hr => ?_, fun r hr => ?_, fun j hj => ?_, fun r s hr hs e e0 => ?_, .inr ⟨by omega, lc⟩, fun r hr _ => by omega, h.z0⟩
  · by_cases e : r = c
    · subst e; exact .inl lc
    · rw [lo r (by omega)]; exact h.ld r (by omega)
  · by_cases e : r = c
    · subst e; exact fun _ => h0
    · rw [lo r (by omega)]; exact h.nl r (by omega)
  · obtain ⟨r, hr, e⟩ := h.on j hj
    exact ⟨r, by omega, by rw [lo r hr]; exact e⟩
  · by_cases e1 : r = c
    · subst e1; rw [lc] at e0; omega
    · by_cases e2 : s = c
      · subst e2; rw [e, lc] at e0; omega
      · rw [lo r (by omega), lo s (by omega)] at e
        rw [lo r (by omega)] at e0
        exact h.inj r s (by omega) (by omega) e e0
/-- A row with a number that is not 0: its column comes to used, is made to 1, and multiples of it are taken from the others. -/
theorem Ech.take (hq : IsP q) {c used free a : Nat} {lead lead' : Nat → Int} {M0 m m1 m2 m3 : Nat → Nat → Int} {iv : Int} (h : Ech q n c used free lead M0 m) (hc : c < n) (ha : used ≤ a) (han : a < n) (h0 : m c a ≠ 0)
    (e1 : ∀ i k, i < n → k < n → m1 i k = m i (if k = a then used else if k = used then a else k))
    (hiv : (m c a * iv) % (q : Int) = 1)
    (e2 : ∀ i k, i < n → k < n → m2 i k = if k = used then (m1 i k * iv) % (q : Int) else m1 i k)
    (e3 : ∀ i k, i < n → k < n → m3 i k = if k = used then m2 i k else (m2 i k - m2 c k * m2 i used) % (q : Int))
    (hl : ∀ r, lead' r = if r = c then (used : Int) else lead r) : Ech q n (c + 1) (used + 1) free lead' M0 m3 := by
  have hq0 := hq.pos
  have hun : used < n := by omega
  have lo : ∀ r, r < c → lead' r = lead r := fun r hr => by rw [hl, if_neg (by omega)]
  have lc : lead' c = used := by rw [hl, if_pos rfl]
  have c1 : m1 c used = m c a := by
    rw [e1 c used hc hun]
    by_cases e : used = a
    · rw [if_pos e, e]
    · rw [if_neg e, if_pos rfl]
  have c2 : m2 c used = 1 := by rw [e2 c used hc hun, if_pos rfl, c1, hiv]
  have c3 : ∀ k, k < n → m3 c k = if k = used then 1 else 0 := fun k hk => by
    rw [e3 c k hc hk]
    split
    · rename_i e; rw [e]; exact c2
    · rw [c2]; have : m2 c k - m2 c k * 1 = 0 := by omega
      rw [this]; simp
  have r1 : ∀ i k, i < n → k < n → 0 ≤ m1 i k ∧ m1 i k < (q : Int) := fun i k hi hk => by
    rw [e1 i k hi hk]; split
    · exact h.rng i _ hi hun
    · split
      · exact h.rng i _ hi han
      · exact h.rng i _ hi hk
  have r2 : ∀ i k, i < n → k < n → 0 ≤ m2 i k ∧ m2 i k < (q : Int) := fun i k hi hk => by
    rw [e2 i k hi hk]; split
    · exact ⟨Int.emod_nonneg _ (by omega), Int.emod_lt_of_pos _ (by omega)⟩
    · exact r1 i k hi hk
  have r3 : ∀ i k, i < n → k < n → 0 ≤ m3 i k ∧ m3 i k < (q : Int) := fun i k hi hk => by
    rw [e3 i k hi hk]; split
    · exact r2 i k hi hk
    · exact ⟨Int.emod_nonneg _ (by omega), Int.emod_lt_of_pos _ (by omega)⟩
  -- rows ahead stay as they are
  have keep : ∀ r, r < c → (∀ k, used ≤ k → k < n → m r k = 0) → ∀ k, k < n → m3 r k = m r k := by
    intro r hr h1 k hk
    have hrn : r < n := by omega
    have m1u : ∀ k, used ≤ k → k < n → m1 r k = 0 := fun k h2 h3 => by
      rw [e1 r k hrn h3]; split
      · exact h1 _ (by omega) hun
      · split
        · exact h1 _ ha han
        · exact h1 k h2 h3
    have m2u : m2 r used = 0 := by rw [e2 r used hrn hun, if_pos rfl, m1u used (by omega) hun]; simp
    rw [e3 r k hrn hk]
    by_cases hk2 : used ≤ k
    · rw [h1 k hk2 hk]
      split
      · rename_i e; rw [e]; exact m2u
      · rename_i e
        rw [m2u, e2 r k hrn hk, if_neg e, m1u k hk2 hk]; simp
    · rw [if_neg (by omega), m2u, e2 r k hrn hk, if_neg (by omega), e1 r k hrn hk, if_neg (by omega), if_neg (by omega)]
      have := h.rng r k hrn hk
      rw [Int.mul_zero, Int.sub_zero, Int.emod_eq_of_lt this.1 this.2]
  have zero : ∀ r, r < c → ∀ k, used ≤ k → k < n → m r k = 0 := fun r hr k h1 h2 => by
    rcases h.ld r hr with h3 | ⟨j, h3, h4, h5, h6⟩
    · exact h.nl r hr h3 k h1 h2
    · exact h6 k h2 (by omega)
  refine ⟨fun v => (Iff.trans ?_ (h.ker v)), r3, by have := h.ul; omega, fun r hr => ?_, fun r hr => ?_, fun j hj => ?_, fun r s hr hs e e0 => ?_, ?_, fun r hr e => ?_, fun k hk => ?_⟩
  · -- the kernel
    have w1 : Ker q n m1 v ↔ Ker q n m v := by
      constructor
      · intro k
        refine k.swap (a := a) (b := used) han hun fun i k hi hk => ?_
        by_cases k1 : k = a
        · rw [if_pos k1, e1 i used hi hun]
          by_cases k2 : used = a
          · rw [if_pos k2, k1, k2]
          · rw [if_neg k2, if_pos rfl, k1]
        · rw [if_neg k1]
          by_cases k2 : k = used
          · rw [if_pos k2, e1 i a hi han, if_pos rfl, k2]
          · rw [if_neg k2, e1 i k hi hk, if_neg k1, if_neg k2]
      · intro k
        exact k.swap (a := a) (b := used) han hun fun i k hi hk => e1 i k hi hk
    have w2 : Ker q n m2 v ↔ Ker q n m1 v := by
      constructor
      · intro k
        refine k.scale (u := used) (c := m c a) fun i k hi hk => ?_
        rw [e2 i k hi hk]
        split
        · rename_i e
          obtain ⟨r, hr⟩ := one_of_inv hq hiv
          rw [Int.mul_emod, Int.emod_emod, ← Int.mul_emod]
          have : m1 i k * iv * m c a = m1 i k + q * (r * m1 i k) := by grind
          rw [this, Int.add_mul_emod_self_left]
        · rfl
      · intro k
        refine k.scale (u := used) (c := iv) fun i k hi hk => ?_
        rw [e2 i k hi hk]
        split
        · rw [Int.emod_emod]
        · rfl
    have w3 : Ker q n m3 v ↔ Ker q n m2 v := by
      constructor
      · intro k
        refine k.less (u := used) (b := fun k => -(m2 c k)) hun fun i k hi hk => ?_
        rw [e3 i k hi hk, e3 i used hi hun, if_pos rfl]
        split
        · rfl
        · rw [Int.sub_emod, Int.emod_emod, ← Int.sub_emod]
          have : m2 i k - m2 c k * m2 i used - -(m2 c k) * m2 i used = m2 i k := by grind
          rw [this]
      · intro k
        refine k.less (u := used) (b := fun k => m2 c k) hun fun i k hi hk => ?_
        rw [e3 i k hi hk]
        split
        · rfl
        · rw [Int.emod_emod]
    exact w3.trans (w2.trans w1)
  · by_cases e : r = c
    · subst e
      exact .inr ⟨used, lc, by omega, by rw [c3 used hun, if_pos rfl], fun k hk hne => by rw [c3 k hk, if_neg hne]⟩
    · have hk := keep r (by omega) (zero r (by omega))
      rw [lo r (by omega)]
      rcases h.ld r (by omega) with h3 | ⟨j, h3, h4, h5, h6⟩
      · exact .inl h3
      · exact .inr ⟨j, h3, by omega, by rw [hk j (by omega)]; exact h5, fun k k1 k2 => by rw [hk k k1]; exact h6 k k1 k2⟩
  · by_cases e : r = c
    · subst e; intro e; rw [lc] at e; omega
    · have hk := keep r (by omega) (zero r (by omega))
      intro e k k1 k2
      rw [hk k k2]; exact zero r (by omega) k (by omega) k2
  · by_cases e : j = used
    · subst e; exact ⟨c, by omega, lc⟩
    · obtain ⟨r, hr, e⟩ := h.on j (by omega)
      exact ⟨r, by omega, by rw [lo r hr]; exact e⟩
  · have nu : ∀ r, r < c → lead r ≠ used := fun r hr e => by
      rcases h.ld r hr with h3 | ⟨j, h3, h4, -, -⟩ <;> omega
    by_cases e1 : r = c
    · by_cases e2 : s = c
      · omega
      · subst e1; rw [lc, lo s (by omega)] at e; exact absurd e.symm (nu s (by omega))
    · by_cases e2 : s = c
      · subst e2; rw [lc, lo r (by omega)] at e; exact absurd e (nu r (by omega))
      · rw [lo r (by omega), lo s (by omega)] at e
        rw [lo r (by omega)] at e0
        exact h.inj r s (by omega) (by omega) e e0
  · rcases h.fre with h3 | ⟨h3, h4⟩
    · exact .inl h3
    · exact .inr ⟨by omega, by rw [lo free h3]; exact h4⟩
  · by_cases e1 : r = c
    · subst e1; rw [lc] at e; omega
    · rw [lo r (by omega)] at e; exact h.las r (by omega) e
  · rcases Nat.eq_zero_or_pos c with e | e
    · subst e; exact absurd (h.z0 a han) h0
    · rw [keep 0 e (fun k _ h2 => h.z0 k h2) k hk]; exact h.z0 k hk
/-- The first row alone leads none: what adds up to noughts has noughts behind its first number. -/
theorem Ech.none {used : Nat} {lead : Nat → Int} {M0 m : Nat → Nat → Int} (h : Ech q n n used 0 lead M0 m) {v : Nat → Int} (k : Ker q n M0 v) : ∀ c, 1 ≤ c → c < n → v c % (q : Int) = 0 := by
  intro c h1 h2
  have k' := (h.ker v).2 k
  rcases h.ld c h2 with h3 | ⟨j, h3, h4, h5, h6⟩
  · have := h.las c h2 h3; omega
  · have hu := h.ul
    have h7 := k' j (by omega)
    rw [sm_one c n h2 (fun i hi hne => ?_), h5, Int.mul_one] at h7
    · exact h7
    · have : m i j = 0 := by
        rcases h.ld i hi with h8 | ⟨l, h8, h9, h10, h11⟩
        · have := h.las i hi h8
          have e : i = 0 := by omega
          subst e; exact h.z0 j (by omega)
        · exact h11 j (by omega) (fun e => hne (h.inj i c hi h2 (by rw [h8, h3, e]) (by rw [h8]; omega)))
      rw [this]; simp
/-- Another one leads none: what is told by it adds up to noughts. -/
theorem Ech.found {used free : Nat} {lead : Nat → Int} {M0 m : Nat → Nat → Int} (h : Ech q n n used free lead M0 m) (hf : 1 ≤ free) {v : Nat → Int} (hv : ∀ c, c < n → v c % (q : Int) = (if c = free then 1 else if 0 ≤ lead c then -(m free (lead c).toNat) else 0) % (q : Int)) : Ker q n M0 v := by
  rw [← h.ker v]
  have hu := h.ul
  obtain ⟨f1, f2⟩ : free < n ∧ lead free = -1 := by
    rcases h.fre with h1 | h1
    · omega
    · exact h1
  intro k hk
  rcases Nat.lt_or_ge k used with h1 | h1
  · obtain ⟨r, hr, hrk⟩ := h.on k h1
    have hrf : r ≠ free := by rintro rfl; omega
    rcases h.ld r hr with h3 | ⟨j, h3, h4, h5, h6⟩
    · omega
    · have e : j = k := by omega
      subst e
      rw [sm_two r free hrf n hr f1 (fun i hi hne1 hne2 => ?_)]
      · rw [Int.add_emod, Int.mul_emod, hv r hr, if_neg hrf, if_pos (by omega), hrk, h5, ← Int.mul_emod, Int.mul_emod (v free), hv free f1, if_pos rfl, ← Int.mul_emod, ← Int.add_emod]
        have : -m free ((j : Int)).toNat * 1 + 1 * m free j = 0 := by rw [Int.toNat_natCast]; omega
        rw [this]; simp
      · rcases h.ld i hi with h8 | ⟨l, h8, h9, h10, h11⟩
        · rw [Int.mul_emod, hv i hi, if_neg hne2, if_neg (by omega)]; simp
        · rw [h11 j hk (fun e => hne1 (h.inj i r hi hr (by rw [h8, hrk, e]) (by omega)))]; simp
  · refine sm_zero n fun i hi => ?_
    have : m i k = 0 := by
      rcases h.ld i hi with h8 | ⟨l, h8, h9, h10, h11⟩
      · exact h.nl i hi h8 k h1 hk
      · exact h11 k hk (by omega)
    rw [this]; simp

/-! ### Fixed polynomials as rows -/
theorem ev_sm (x : Int) (v : List Int) : ∀ k, k ≤ v.length → ev (v.take k) x = sm (fun i => v.getD i 0 * x ^ i) k
  | 0, _ => by simp [ev, sm]
  | k + 1, h => by
    rw [List.take_succ_eq_append_getElem (by omega), ev_append, ev_sm x v k (by omega), List.length_take, Nat.min_eq_left (by omega)]
    have e : v.getD k 0 = v[k] := by rw [List.getD_eq_getElem?_getD, List.getElem?_eq_getElem (by omega)]; rfl
    simp only [sm, ev, e]
    grind
theorem ev_sm' (x : Int) (v : List Int) : ev v x = sm (fun i => v.getD i 0 * x ^ i) v.length := by
  have := ev_sm x v v.length (Nat.le_refl _)
  rwa [List.take_length] at this
/-- The rows, each times a number of v, added. -/
def lc (v : List Int) (row : Nat → List Int) : Nat → List Int
  | 0 => []
  | k + 1 => padd (lc v row k) (psc (v.getD k 0) (row k))
theorem getD_lc (v : List Int) (row : Nat → List Int) (k : Nat) : ∀ j, (lc v row j).getD k 0 = sm (fun i => v.getD i 0 * (row i).getD k 0) j
  | 0 => by simp [lc, sm]
  | j + 1 => by simp only [lc, sm, getD_padd, getD_psc, getD_lc v row k j]
theorem lc_M {f v : List Int} {row : Nat → List Int} (A B : Nat → List Int) : ∀ n, (∀ i, i < n → M q f (padd (A i) (psc (-1) (B i))) (row i)) → ∃ k h : List Int, ∀ x, sm (fun i => v.getD i 0 * ev (A i) x) n - sm (fun i => v.getD i 0 * ev (B i) x) n = ev (lc v row n) x + ev f x * ev k x + q * ev h x
  | 0, _ => ⟨[], [], fun x => by simp [sm, lc, ev]⟩
  | n + 1, hr => by
    obtain ⟨k, h, e⟩ := lc_M (v := v) A B n (fun i hi => hr i (by omega))
    obtain ⟨k', h', e'⟩ := hr n (by omega)
    refine ⟨padd k (psc (v.getD n 0) k'), padd h (psc (v.getD n 0) h'), fun x => ?_⟩
    have := e x; have := e' x
    simp only [sm, lc, ev_padd, ev_psc] at *
    grind
/-- v's power by q less v, by f: the rows, each times a number of v. -/
theorem rows_M (hq : IsP q) {f v : List Int} {row : Nat → List Int} (hr : ∀ i, i < v.length → M q f (padd (ppow pX (q * i)) (psc (-1) (ppow pX i))) (row i)) : M q f (padd (ppow v q) (psc (-1) v)) (lc v row v.length) := by
  obtain ⟨k, h, e⟩ := lc_M (v := v) (fun i => ppow pX (q * i)) (fun i => ppow pX i) v.length hr
  obtain ⟨a, ha⟩ := pow_spread hq v
  refine ⟨k, padd h a, fun x => ?_⟩
  have e1 := e x; have e2 := ha x
  have e3 := ev_sm' (x ^ q) v
  have e4 := ev_sm' x v
  rw [sm_congr v.length (G := fun i => v.getD i 0 * (x ^ q) ^ i) (fun i _ => by simp only [ev_ppow, ev_pX, Int.pow_mul]), ← e3,
    sm_congr v.length (F := fun i => v.getD i 0 * ev (ppow pX i) x) (G := fun i => v.getD i 0 * x ^ i) (fun i _ => by simp only [ev_ppow, ev_pX]), ← e4] at e1
  rw [ev_spread hq.pos] at e2
  simp only [ev_padd, ev_psc]
  rw [e2]
  grind
theorem fixed_iff (hq : IsP q) {f v : List Int} {row : Nat → List Int} {n : Nat} (hf : Mo q f) (hl : f.length = n + 1) (hv : v.length = n) (hrl : ∀ i, i < n → (row i).length ≤ n)
    (hr : ∀ i, i < n → M q f (padd (ppow pX (q * i)) (psc (-1) (ppow pX i))) (row i)) : M q f (ppow v q) v ↔ Ker q n (fun i k => (row i).getD k 0) (fun i => v.getD i 0) := by
  have h1 := rows_M hq (f := f) (v := v) (row := row) (by rw [hv]; exact hr)
  rw [hv] at h1
  have hz : ∀ k, n ≤ k → (lc v row n).getD k 0 % (q : Int) = 0 := fun k hk => by
    rw [getD_lc]
    exact sm_zero n fun i hi => by rw [getD_over' (row i) k (by have := hrl i hi; omega)]; simp
  constructor
  · intro h k hk
    have h2 : Dv q f (lc v row n) := dv_M.2 (h1.symm.trans (dv_M.1 (M_dv.1 h)))
    have h3 := small_zero hq hf h2 (by have := nf_short hq hz; omega)
    have h4 := E_cf h3 k
    rw [getD_lc] at h4
    rw [h4]; rfl
  · intro h
    have h2 : E q (lc v row n) [] := cf_E fun k => by
      rcases Nat.lt_or_ge k n with hk | hk
      · rw [getD_lc, h k hk]; rfl
      · rw [hz k hk]; rfl
    exact M_dv.2 (dv_M.2 (h1.trans (h2.m f)))
end
end Go.Proofs.Ytokdcgmjpnanoaa
/- Factors of one degree are told apart: a power (or, by 2, a trace) of some polynomial has something in common with some of them and not with all. No function of the program in it. -/
set_option linter.unusedVariables false
set_option linter.unusedSimpArgs false
namespace Go.Proofs.Ytokdcgmjpnanoaa

section
variable {q : Nat}
theorem two_factors (hq : IsP q) {f : List Int} {d : Nat} (hf : Mo q f) (hs : SqF q f) (ha : AllD q f d) (hl : d + 1 < f.length) : ∃ g h, Irr q g ∧ Irr q h ∧ g ≠ h ∧ Dv q g f ∧ Dv q h f := by
  obtain ⟨g, hg, hgf⟩ := irr_factor hq _ f (Nat.le_refl _) (by rw [hf.dg]; omega)
  have hgl := ha g hg hgf
  obtain ⟨k, hk⟩ := hgf
  have h0 : nf q (pmul k g) ≠ [] := by rw [← nf_eq hk]; exact hf.nf_ne
  obtain ⟨k0, -⟩ := ne_of_mul h0
  have hm := dg_mul hq k0 hg.mo.nf_ne
  rw [← dg_congr hk, hf.dg, hg.mo.dg] at hm
  obtain ⟨h, hh, hhk⟩ := irr_factor hq _ k (Nat.le_refl _) (by omega)
  refine ⟨g, h, hg, hh, ?_, ⟨k, hk⟩, (hhk.mulR g).congr hk⟩
  rintro rfl
  exact hs g hg ((hhk.mul (Dv.refl g)).congr hk)
theorem crt (hq : IsP q) {g h : List Int} (c : Cop q g h) (a b : List Int) : ∃ v, M q g v a ∧ M q h v b := by
  obtain ⟨u, w, e, he⟩ := c
  -- 1 = u g + w h: v = a w h + b u g
  refine ⟨padd (pmul a (pmul w h)) (pmul b (pmul u g)), ⟨padd (pmul b u) (psc (-1) (pmul a u)), psc (-1) (pmul a e), fun x => ?_⟩, ⟨padd (pmul a w) (psc (-1) (pmul b w)), psc (-1) (pmul b e), fun x => ?_⟩⟩
  · have := he x; simp only [ev_padd, ev_pmul, ev_psc, ev] at *; grind
  · have := he x; simp only [ev_padd, ev_pmul, ev_psc, ev] at *; grind
theorem Irr.cop (hq : IsP q) {g h : List Int} (hg : Irr q g) (hh : Irr q h) (n : g ≠ h) : Cop q g h := by
  rcases hg.dv_or hq h with k | k
  · exact absurd (hg.eq hq hh k) n
  · exact k
theorem rest_small (hq : IsP q) {f : List Int} (hf : Mo q f) (v : List Int) : ∃ r, Plain q r ∧ r.length < f.length ∧ M q f v r := by
  obtain ⟨Q, R, ⟨e, he⟩, hR⟩ := div_ex hq hf.nf_ne v
  rw [hf.dg] at hR
  refine ⟨nf q R, nf_plain hq.pos R, hR, M.trans ⟨Q, e, fun x => ?_⟩ ((nf_E q R).symm.m f)⟩
  have := he x; simp only [ev_padd, ev_pmul] at *; grind
/-- w has something in common with f, and not all. -/
def Splits (q : Nat) (w f : List Int) : Prop := ∃ g h, Irr q g ∧ Irr q h ∧ Dv q g f ∧ Dv q h f ∧ Dv q g w ∧ ¬ Dv q h w
theorem Splits.gcd (hq : IsP q) {w f d : List Int} (s : Splits q w f) (hf : Mo q f) (hd : GcdIs q w f d) : Mo q d ∧ 2 ≤ d.length ∧ d.length < f.length := by
  obtain ⟨g, h, hg, hh, gf, hf', gw, hw⟩ := s
  have h3 : d ≠ [] := by
    rintro rfl
    exact (hd.dvG.len hq hf.nf_ne).1 (nf_nil q)
  have hm := hd.mon.mo h3
  have h1 := hd.great gw gf
  have h4 := (h1.len hq hm.nf_ne).2
  rw [hg.mo.dg, hm.dg] at h4
  have h5 := (hd.dvG.len hq hf.nf_ne).2
  rw [hf.dg, hm.dg] at h5
  refine ⟨hm, by have := hg.two; omega, ?_⟩
  rcases Nat.lt_or_ge d.length f.length with h6 | h6
  · exact h6
  · have := hm.same_len hq hf hd.dvG h6
    subst this
    exact absurd (hf'.trans hd.dvF) hw
theorem Splits.of (hq : IsP q) {w f d : List Int} (hf : Mo q f) (hs : SqF q f) (hd : GcdIs q w f d) (h1 : d ≠ [1]) (h2 : d ≠ f) : Splits q w f := by
  have h3 : d ≠ [] := by
    rintro rfl
    exact (hd.dvG.len hq hf.nf_ne).1 (nf_nil q)
  have hm := hd.mon.mo h3
  have l2 : 2 ≤ d.length := by
    rcases Nat.lt_or_ge d.length 2 with h | h
    · exact absurd (hm.is_one hq (by omega)) h1
    · exact h
  obtain ⟨g, hg, hgd⟩ := irr_factor hq _ d (Nat.le_refl _) (by rw [hm.dg]; exact l2)
  obtain ⟨k, hk⟩ := hd.dvG
  have h0 : nf q (pmul k d) ≠ [] := by rw [← nf_eq hk]; exact hf.nf_ne
  obtain ⟨k0, -⟩ := ne_of_mul h0
  have hmm := dg_mul hq k0 hm.nf_ne
  rw [← dg_congr hk, hf.dg, hm.dg] at hmm
  have h5 := (hd.dvG.len hq hf.nf_ne).2
  rw [hf.dg, hm.dg] at h5
  have k2 : 2 ≤ dg q k := by
    rcases Nat.lt_or_ge (dg q k) 2 with h | h
    · exact absurd (hm.same_len hq hf hd.dvG (by omega)) h2
    · exact h
  obtain ⟨h, hh, hhk⟩ := irr_factor hq _ k (Nat.le_refl _) k2
  refine ⟨g, h, hg, hh, hgd.trans hd.dvG, (hhk.mulR d).congr hk, hgd.trans hd.dvF, fun hw => ?_⟩
  have h6 : Dv q h f := (hhk.mulR d).congr hk
  exact hs h hh ((hhk.mul (hd.great hw h6)).congr hk)
theorem ppow_M_one (m : List Int) : ∀ n, M q m (ppow [1] n) [1]
  | 0 => M.refl m _
  | n + 1 => (M.mul (M.refl m [1]) (ppow_M_one m n)).trans (.of_ev fun x => by simp [ev_pmul, ev])
/-- A power splits for some polynomial. -/
theorem power_splits (hq : IsP q) {f : List Int} {d : Nat} (hf : Mo q f) (hs : SqF q f) (ha : AllD q f d) (hl : d + 1 < f.length) {e : Nat} (he : 1 ≤ e) : ∃ v, Plain q v ∧ v.length < f.length ∧ Splits q (padd (ppow v e) (psc (-1) [1])) f := by
  obtain ⟨g, h, hg, hh, hne, gf, hf'⟩ := two_factors hq hf hs ha hl
  obtain ⟨v, vg, vh⟩ := crt hq (hg.cop hq hh hne) [1] []
  obtain ⟨r, hr, hrl, hrv⟩ := rest_small hq hf v
  have rg := (hrv.dv gf).symm.trans vg
  have rh := (hrv.dv hf').symm.trans vh
  refine ⟨r, hr, hrl, g, h, hg, hh, gf, hf', M_dv.1 ((rg.pow e).trans (ppow_M_one g e)), fun k => ?_⟩
  have h1 : M q h (ppow r e) [] := by
    obtain ⟨n, rfl⟩ : ∃ n, e = n + 1 := ⟨e - 1, by omega⟩
    exact (M.mul rh (M.refl h (ppow r n))).trans (.of_ev fun x => by simp [ev_pmul, ev])
  have h2 := h1.symm.trans (M_dv.2 k)
  exact hh.not_one hq (dg_one hq) (dv_M.2 h2.symm)

/-! ### The trace by 2 -/
def tr (v : List Int) : Nat → List Int
  | 0 => []
  | d + 1 => padd (tr v d) (ppow v (2 ^ d))
/-- y + y^2 + .. as a monic polynomial over polynomials: d + 1 summands. -/
def trl : Nat → List (List Int)
  | 0 => [[]]
  | d + 1 => trl d ++ ([1] :: List.replicate (2 ^ d - 1) [])
theorem trl_len : ∀ d, (trl d).length = 2 ^ d
  | 0 => rfl
  | d + 1 => by
    have : 1 ≤ 2 ^ d := Nat.pow_pos (by decide)
    simp only [trl, List.length_append, trl_len d, List.length_cons, List.length_replicate, Nat.pow_succ]; omega
theorem mpe_app (y : List Int) (x : Int) (m : List (List Int)) : ∀ l : List (List Int), ev (mpe (l ++ m) y) x = ev (mpe l y) x - ev y x ^ l.length + ev y x ^ l.length * ev (mpe m y) x
  | [] => by simp [mpe, ev]
  | c :: l => by
    have ih := mpe_app y x m l
    simp only [List.cons_append, mpe, ev_padd, ev_pmul, ih, List.length_cons, Int.pow_succ]; grind
theorem mpe_trl (y : List Int) (x : Int) : ∀ d, ev (mpe (trl d) y) x = ev (tr y (d + 1)) x
  | 0 => by simp [trl, mpe, tr, ev_padd, ev_pmul, ev_ppow, ev, padd, ppow, Int.pow_succ]
  | d + 1 => by
    have ih := mpe_trl y x d
    have h1 : 1 ≤ 2 ^ d := Nat.pow_pos (by decide)
    have e1 : ev y x ^ 2 ^ d = ev y x * ev y x ^ (2 ^ d - 1) := by
      obtain ⟨k, hk⟩ : ∃ k, 2 ^ d = k + 1 := ⟨2 ^ d - 1, by omega⟩
      rw [hk, Nat.add_sub_cancel, Int.pow_succ, Int.mul_comm]
    have e2 : tr y (d + 1 + 1) = padd (tr y (d + 1)) (ppow y (2 ^ (d + 1))) := rfl
    have e3 : ev y x ^ 2 ^ (d + 1) = ev y x ^ 2 ^ d * ev y x ^ 2 ^ d := by rw [Nat.pow_succ, Nat.mul_two, Int.pow_add]
    simp only [trl]
    rw [mpe_app, ih, trl_len, e2, ev_padd, ev_ppow, e3]
    simp only [mpe, ev_padd, ev_pmul, mpe_rep]
    simp only [ev]
    grind
/-- Some polynomial has a trace that is not 0. -/
theorem trace_ex {g : List Int} (hq : IsP 2) (hg : Irr 2 g) {d : Nat} (hd : g.length = d + 1) : ∃ y, ¬ Dv 2 g (tr y d) := by
  have two := hg.two
  by_cases h : ∃ y, ¬ Dv 2 g (tr y d)
  · exact h
  · exfalso
    obtain ⟨k, rfl⟩ : ∃ k, d = k + 1 := ⟨d - 1, by omega⟩
    have h1 := roots_le hq hg (trl k) (resL 2 (g.length - 1)) (resL_pair hq hg.mo) (fun a _ => by
      have : Dv 2 g (tr a (k + 1)) := Classical.byContradiction fun n => h ⟨a, n⟩
      exact this.congr (.of_ev fun x => mpe_trl a x k))
    rw [resL_len, trl_len, hd, Nat.add_sub_cancel, Nat.pow_succ] at h1
    have : 1 ≤ 2 ^ k := Nat.pow_pos (by decide)
    omega
theorem tr_M {m v w : List Int} (h : M q m v w) : ∀ d, M q m (tr v d) (tr w d)
  | 0 => M.refl m _
  | d + 1 => (tr_M h d).add (h.pow _)
theorem tr_nil (x : Int) : ∀ d, ev (tr [] d) x = 0
  | 0 => rfl
  | d + 1 => by
    have : 1 ≤ 2 ^ d := Nat.pow_pos (by decide)
    obtain ⟨k, hk⟩ : ∃ k, 2 ^ d = k + 1 := ⟨2 ^ d - 1, by omega⟩
    simp only [tr, ev_padd, tr_nil x d, ev_ppow, hk, ev, Int.pow_succ]; simp
/-- The trace splits for some polynomial. -/
theorem trace_splits (hq : IsP 2) {f : List Int} {d : Nat} (hf : Mo 2 f) (hs : SqF 2 f) (ha : AllD 2 f d) (hl : d + 1 < f.length) : ∃ v, Plain 2 v ∧ v.length < f.length ∧ Splits 2 (tr v d) f := by
  obtain ⟨g, h, hg, hh, hne, gf, hf'⟩ := two_factors hq hf hs ha hl
  obtain ⟨y, hy⟩ := trace_ex hq hh (ha h hh hf')
  obtain ⟨v, vg, vh⟩ := crt hq (hg.cop hq hh hne) [] y
  obtain ⟨r, hr, hrl, hrv⟩ := rest_small hq hf v
  have rg := (hrv.dv gf).symm.trans vg
  have rh := (hrv.dv hf').symm.trans vh
  refine ⟨r, hr, hrl, g, h, hg, hh, gf, hf', dv_M.2 ((tr_M rg d).trans (.of_ev fun x => by rw [tr_nil]; rfl)), fun k => ?_⟩
  exact hy (dv_M.2 ((tr_M rh d).symm.trans (dv_M.1 k)))
end
end Go.Proofs.Ytokdcgmjpnanoaa
