/- Polynomials by a prime: the greatest common divisor; the power of a sum by the prime; values and roots. No function of the program in it. -/
import Derived.Test.YtokdcgmjpnanoaaJaN

set_option linter.unusedVariables false
set_option linter.unusedSimpArgs false
namespace Go.Proofs.Ytokdcgmjpnanoaa

/-! ### The greatest common divisor -/
/-- h is a sum of multiples of f and g. -/
def Span (q : Nat) (h f g : List Int) : Prop := ∃ a b : List Int, E q h (padd (pmul a f) (pmul b g))
theorem Span.left (q : Nat) (f g : List Int) : Span q f f g := ⟨[1], [], .of_ev fun x => by simp [ev_padd, ev_pmul, ev]⟩
theorem Span.right (q : Nat) (f g : List Int) : Span q g f g := ⟨[], [1], .of_ev fun x => by simp [ev_padd, ev_pmul, ev]⟩
theorem Span.trans {q : Nat} {h f g F G : List Int} (k : Span q h F G) (kF : Span q F f g) (kG : Span q G f g) : Span q h f g := by
  obtain ⟨a, b, e, he⟩ := k; obtain ⟨c, d, e1, h1⟩ := kF; obtain ⟨c', d', e2, h2⟩ := kG
  refine ⟨padd (pmul a c) (pmul b c'), padd (pmul a d) (pmul b d'), padd e (padd (pmul a e1) (pmul b e2)), fun x => ?_⟩
  have := he x; have := h1 x; have := h2 x
  simp only [ev_padd, ev_pmul] at *
  grind
theorem Span.congr {q : Nat} {h h' f g : List Int} (k : Span q h f g) (e : E q h' h) : Span q h' f g := by
  obtain ⟨a, b, k⟩ := k; exact ⟨a, b, e.trans k⟩
theorem Span.of_mul {q : Nat} {h f g k : List Int} (e : Go.Proofs.Ytokdcgmjpnanoaa.E q h (pmul k f)) : Span q h f g := by
  obtain ⟨a, ha⟩ := e
  exact ⟨k, [], a, fun x => by rw [ha x]; simp [ev_padd, ev_pmul, ev]⟩

/-- Both pairs tell the same sums of multiples. -/
structure Both (q : Nat) (F G f g : List Int) : Prop where
  F1 : Span q F f g
  G1 : Span q G f g
  f1 : Span q f F G
  g1 : Span q g F G
theorem Both.refl (q : Nat) (f g : List Int) : Both q f g f g := ⟨.left q f g, .right q f g, .left q f g, .right q f g⟩
theorem Both.trans {q : Nat} {f g F G A B : List Int} (h : Both q A B F G) (k : Both q F G f g) : Both q A B f g :=
  ⟨h.F1.trans k.F1 k.G1, h.G1.trans k.F1 k.G1, k.f1.trans h.f1 h.g1, k.g1.trans h.f1 h.g1⟩
theorem Both.swap (q : Nat) (f g : List Int) : Both q g f f g := ⟨.right q f g, .left q f g, .right q g f, .left q g f⟩
/-- One step of Euclid. -/
theorem Both.step {q : Nat} {f g Q R : List Int} (h : Go.Proofs.Ytokdcgmjpnanoaa.E q f (padd (pmul Q g) R)) : Both q g R f g := by
  obtain ⟨a, ha⟩ := h
  refine ⟨.right q f g, ⟨[1], psc (-1) Q, psc (-1) a, fun x => ?_⟩, ⟨Q, [1], a, fun x => ?_⟩, .left q g R⟩
  · have := ha x; simp only [ev_padd, ev_pmul, ev_psc, ev] at *; grind
  · have := ha x; simp only [ev_padd, ev_pmul, ev_psc, ev] at *; grind
/-- Multiples by what has an inverse. -/
theorem Both.unit {q : Nat} {f g F G : List Int} {c c' d d' : Int} (h : (c * c') % (q : Int) = 1 % (q : Int)) (k : (d * d') % (q : Int) = 1 % (q : Int)) (hF : Go.Proofs.Ytokdcgmjpnanoaa.E q F (psc c f)) (hG : Go.Proofs.Ytokdcgmjpnanoaa.E q G (psc d g)) : Both q F G f g := by
  obtain ⟨a, ha⟩ := hF; obtain ⟨b, hb⟩ := hG
  have e1 : ∃ r : Int, c * c' = 1 + q * r := by
    have h1 : (q : Int) ∣ c * c' - 1 := Int.dvd_of_emod_eq_zero (by rw [Int.sub_emod, h]; simp)
    obtain ⟨r, hr⟩ := h1; exact ⟨r, by omega⟩
  have e2 : ∃ r : Int, d * d' = 1 + q * r := by
    have h1 : (q : Int) ∣ d * d' - 1 := Int.dvd_of_emod_eq_zero (by rw [Int.sub_emod, k]; simp)
    obtain ⟨r, hr⟩ := h1; exact ⟨r, by omega⟩
  obtain ⟨r, hr⟩ := e1; obtain ⟨s, hs⟩ := e2
  refine ⟨⟨[c], [], a, fun x => ?_⟩, ⟨[], [d], b, fun x => ?_⟩, ⟨[c'], [], padd (psc (-r) f) (psc (-c') a), fun x => ?_⟩, ⟨[], [d'], padd (psc (-s) g) (psc (-d') b), fun x => ?_⟩⟩
  · have := ha x; simp only [ev_padd, ev_pmul, ev_psc, ev] at *; grind
  · have := hb x; simp only [ev_padd, ev_pmul, ev_psc, ev] at *; grind
  · have := ha x; simp only [ev_padd, ev_pmul, ev_psc, ev] at *; grind
  · have := hb x; simp only [ev_padd, ev_pmul, ev_psc, ev] at *; grind

/-- Monic, or 0. -/
def Mon (q : Nat) (d : List Int) : Prop := Plain q d ∧ (d ≠ [] → d.getD (d.length - 1) 0 = 1)
structure GcdIs (q : Nat) (f g d : List Int) : Prop where
  mon : Mon q d
  sp : Both q d [] f g
theorem Span.zero {q : Nat} {h d : List Int} (k : Span q h d []) : ∃ a, E q h (pmul a d) := by
  obtain ⟨a, b, e, he⟩ := k
  exact ⟨a, e, fun x => by have := he x; simp only [ev_padd, ev_pmul, ev] at *; grind⟩

/-- Two monic ones that divide each other are one. -/
theorem Mon.unique {q : Nat} (hq : IsP q) {d e : List Int} (hd : Mon q d) (he : Mon q e) (h1 : ∃ a, E q d (pmul a e)) (h2 : ∃ b, E q e (pmul b d)) : d = e := by
  have hq0 : 0 < q := by have := hq.1; omega
  obtain ⟨a, ha⟩ := h1; obtain ⟨b, hb⟩ := h2
  by_cases d0 : d = []
  · subst d0
    refine hd.1.ext he.1 ?_
    obtain ⟨x, hx⟩ := hb
    exact E.symm ⟨x, fun y => by have := hx y; simp only [ev_pmul, ev] at *; grind⟩
  by_cases e0 : e = []
  · subst e0
    refine hd.1.ext he.1 ?_
    obtain ⟨x, hx⟩ := ha
    exact ⟨x, fun y => by have := hx y; simp only [ev_pmul, ev] at *; grind⟩
  have ld : 0 < d.length := List.length_pos_iff.2 d0
  have le : 0 < e.length := List.length_pos_iff.2 e0
  have key : ∀ {d e a : List Int}, Mon q d → Mon q e → d ≠ [] → e ≠ [] → E q d (pmul a e) → e.length ≤ d.length ∧ (e.length = d.length → ∃ c : Int, 0 ≤ c ∧ c < q ∧ E q d (psc c e)) := by
    intro d e a hd he d0 e0 ha
    have ld : 0 < d.length := List.length_pos_iff.2 d0
    have le : 0 < e.length := List.length_pos_iff.2 e0
    have hp := nf_plain hq0 a
    have h1 : E q d (pmul (nf q a) e) := ha.trans ((nf_E q a).symm.mul (E.refl q e))
    by_cases a0 : nf q a = []
    · exfalso
      rw [a0] at h1
      have := E_cf h1 (d.length - 1)
      rw [hd.2 d0] at this
      simp only [pmul, getD_nil'] at this
      have h2 := hq.1
      rw [Int.emod_eq_of_lt (by omega) (by omega)] at this
      simp at this
    · have la : 0 < (nf q a).length := List.length_pos_iff.2 a0
      have h2 := top_mul e e0 (nf q a) a0
      have h3 := E_cf h1 ((nf q a).length + e.length - 2)
      rw [h2, he.2 e0, Int.mul_one, Int.emod_eq_of_lt (hd.1.1 _).1 (hd.1.1 _).2, Int.emod_eq_of_lt (hp.1 _).1 (hp.1 _).2] at h3
      have h4 : (nf q a).length + e.length - 2 < d.length := by
        rcases Nat.lt_or_ge ((nf q a).length + e.length - 2) d.length with h | h
        · exact h
        · rw [getD_over' d _ h] at h3
          exact absurd h3.symm (hp.2 a0)
      refine ⟨by omega, fun hl => ?_⟩
      have h5 : (nf q a).length = 1 := by omega
      obtain ⟨c, hc⟩ : ∃ c, nf q a = [c] := List.length_eq_one_iff.1 h5
      have hr := hp.1 0
      rw [hc] at h1 hr
      exact ⟨c, hr.1, hr.2, h1.trans (.of_ev fun x => by simp only [ev_pmul, ev_psc, ev]; grind)⟩
  have k1 := key hd he d0 e0 ha
  have k2 := key he hd e0 d0 hb
  have hl : e.length = d.length := by omega
  obtain ⟨c, c1, c2, hc⟩ := k1.2 hl
  have h3 := E_cf hc (d.length - 1)
  rw [getD_psc, hd.2 d0, ← hl, he.2 e0, Int.mul_one, Int.emod_eq_of_lt c1 c2, Int.emod_eq_of_lt (by omega) (by have := hq.1; omega)] at h3
  subst h3
  exact hd.1.ext he.1 (hc.trans (.of_ev fun x => by rw [ev_psc, Int.one_mul]))
theorem GcdIs.unique {q : Nat} (hq : IsP q) {f g f' g' d e : List Int} (h : GcdIs q f g d) (k : GcdIs q f' g' e) (hb : Both q f g f' g') : d = e := by
  have h1 : Both q d [] e [] := (h.sp.trans hb).trans ⟨k.sp.f1, k.sp.g1, k.sp.F1, k.sp.G1⟩
  exact h.mon.unique hq k.mon h1.F1.zero h1.f1.zero
theorem Mon.nil (q : Nat) (hq : 0 < q) : Mon q [] := ⟨Plain.nil q hq, fun h => absurd rfl h⟩

/-! ### The power of a sum -/
/-- The terms below m of the power of F + G. -/
def bin2 (n : Nat) (F G : Int) : Nat → Int
  | 0 => 0
  | m + 1 => bin2 n F G m + ch n m * (F ^ m * G ^ (n - m))
theorem bin2_step (n : Nat) (F G : Int) : ∀ m, m ≤ n → bin2 (n + 1) F G (m + 1) = G * bin2 n F G (m + 1) + F * bin2 n F G m
  | 0, h => by simp [bin2, ch_zero, Int.pow_succ]; grind
  | m + 1, h => by
    have ih := bin2_step n F G m (by omega)
    have e1 : bin2 (n + 1) F G (m + 1 + 1) = bin2 (n + 1) F G (m + 1) + ch (n + 1) (m + 1) * (F ^ (m + 1) * G ^ (n + 1 - (m + 1))) := rfl
    have e2 : bin2 n F G (m + 1 + 1) = bin2 n F G (m + 1) + ch n (m + 1) * (F ^ (m + 1) * G ^ (n - (m + 1))) := rfl
    have e3 : bin2 n F G (m + 1) = bin2 n F G m + ch n m * (F ^ m * G ^ (n - m)) := rfl
    rw [e1, ih, e2, show ch (n + 1) (m + 1) = ch n m + ch n (m + 1) from rfl, show n + 1 - (m + 1) = (n - (m + 1)) + 1 by omega, e3, show n - m = (n - (m + 1)) + 1 by omega]
    simp only [Int.pow_succ, Int.natCast_add]
    grind
theorem pow_bin2 (F G : Int) : ∀ n, (F + G) ^ n = bin2 n F G (n + 1)
  | 0 => by simp [bin2, ch_zero]
  | n + 1 => by
    have h1 := bin2_step n F G n (Nat.le_refl _)
    have h2 : bin2 (n + 1) F G (n + 1 + 1) = bin2 (n + 1) F G (n + 1) + ch (n + 1) (n + 1) * (F ^ (n + 1) * G ^ (n + 1 - (n + 1))) := rfl
    have h3 : bin2 n F G (n + 1) = bin2 n F G n + ch n n * (F ^ n * G ^ (n - n)) := rfl
    rw [Int.pow_succ, pow_bin2 F G n, h2, h1, ch_self, Nat.sub_self]
    rw [ch_self, Nat.sub_self] at h3
    simp only [Int.pow_succ, Int.pow_zero] at *
    grind
/-- The middle terms, each divided by p. -/
def mids (p : Nat) (f g : List Int) : Nat → List Int
  | 0 => []
  | m + 1 => padd (mids p f g m) (psc ((ch p (m + 1) / p : Nat) : Int) (pmul (ppow f (m + 1)) (ppow g (p - (m + 1)))))
theorem bin2_mids {p : Nat} (hp : IsP p) (f g : List Int) (x : Int) : ∀ m, m + 1 ≤ p → bin2 p (ev f x) (ev g x) (m + 1) = ev g x ^ p + p * ev (mids p f g m) x
  | 0, _ => by simp [bin2, mids, ch_zero, ev]
  | m + 1, h => by
    have ih := bin2_mids hp f g x m (by omega)
    have e1 : bin2 p (ev f x) (ev g x) (m + 1 + 1) = bin2 p (ev f x) (ev g x) (m + 1) + ch p (m + 1) * (ev f x ^ (m + 1) * ev g x ^ (p - (m + 1))) := rfl
    have hd : p ∣ ch p (m + 1) := by
      obtain ⟨q, rfl⟩ : ∃ q, p = q + 1 := ⟨p - 1, by have := hp.1; omega⟩
      have hm : (q + 1) ∣ (m + 1) * ch (q + 1) (m + 1) := ⟨ch q m, ch_absorb q m⟩
      rcases hp.euclid hm with h1 | h1
      · have := Nat.le_of_dvd (by omega) h1; omega
      · exact h1
    have e2 : ch p (m + 1) = p * (ch p (m + 1) / p) := (Nat.mul_div_cancel' hd).symm
    obtain ⟨c, hc⟩ : ∃ c, ch p (m + 1) / p = c := ⟨_, rfl⟩
    have e3 : mids p f g (m + 1) = padd (mids p f g m) (psc (c : Int) (pmul (ppow f (m + 1)) (ppow g (p - (m + 1))))) := by rw [← hc]; rfl
    rw [hc] at e2
    rw [e1, ih, e2, e3, ev_padd, ev_psc, ev_pmul, ev_ppow, ev_ppow, Int.natCast_mul]
    grind
theorem frobenius {p : Nat} (hp : IsP p) (f g : List Int) : E p (ppow (padd f g) p) (padd (ppow f p) (ppow g p)) := by
  refine ⟨mids p f g (p - 1), fun x => ?_⟩
  obtain ⟨q, rfl⟩ : ∃ q, p = q + 1 := ⟨p - 1, by have := hp.1; omega⟩
  have h := bin2_mids hp f g x q (Nat.le_refl _)
  have e1 : bin2 (q + 1) (ev f x) (ev g x) (q + 1 + 1) = bin2 (q + 1) (ev f x) (ev g x) (q + 1) + ch (q + 1) (q + 1) * (ev f x ^ (q + 1) * ev g x ^ (q + 1 - (q + 1))) := rfl
  rw [ch_self, Nat.sub_self] at e1
  rw [ev_ppow, ev_padd, ev_padd, ev_ppow, ev_ppow, pow_bin2, e1, h, Nat.add_sub_cancel]
  simp only [Int.pow_zero]
  grind
theorem ppow_add (f : List Int) (n m : Nat) (x : Int) : ev (ppow f (n + m)) x = ev (pmul (ppow f n) (ppow f m)) x := by
  simp only [ev_pmul, ev_ppow, Int.pow_add]
theorem ppow_two (f : List Int) (n : Nat) (x : Int) : ev (ppow (pmul f f) n) x = ev (ppow f (2 * n)) x := by
  simp only [ev_pmul, ev_ppow, Int.pow_mul, Int.mul_pow, Nat.two_mul, Int.pow_add]

/-! ### Values -/
theorem E.ev {q : Nat} {f g : List Int} (h : E q f g) (x : Int) : ev f x % (q : Int) = Go.Proofs.Ytokdcgmjpnanoaa.ev g x % (q : Int) := by
  obtain ⟨a, ha⟩ := h
  rw [ha x, Int.add_mul_emod_self_left]
theorem ev_mod {q : Nat} (f : List Int) : ∀ {x y : Int}, x % (q : Int) = y % (q : Int) → ev f x % (q : Int) = ev f y % (q : Int) := by
  induction f with
  | nil => intro x y _; rfl
  | cons a f ih =>
    intro x y h
    simp only [ev_cons]
    rw [Int.add_emod, Int.mul_emod, h, ih h, ← Int.mul_emod, ← Int.add_emod]
end Go.Proofs.Ytokdcgmjpnanoaa
