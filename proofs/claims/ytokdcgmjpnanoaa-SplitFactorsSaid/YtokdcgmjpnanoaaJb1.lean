/- What the laws of layer 10 say of lists; contracts in the form that they want. -/
import Derived.Test.YtokdcgmjpnanoaaJaZ

set_option linter.unusedVariables false
set_option linter.unusedSimpArgs false
namespace Go.Proofs.Ytokdcgmjpnanoaa
open Go.RowKit

theorem modT_Add {va vb : Value} {q : Nat} {f g : List Int} {w : World} (hf : SeesI w va f) (hg : SeesI w vb g) (hlf : f.length ≤ 65536) (hlg : g.length ≤ 65536) (hq : IsP q) :
    Calls Try.prog 68 #[va, vb, .int .i64 q] w fun e w' => Tells (nf q (padd f g)) w e w' :=
  (mod_add hf hg hlf hlg hq).mono fun e w' ⟨v, g', he, _, hm, hb⟩ => ⟨v, he, hm.sees, hb⟩
theorem modT_Sub {va vb : Value} {q : Nat} {f g : List Int} {w : World} (hf : SeesI w va f) (hg : SeesI w vb g) (hlf : f.length ≤ 65536) (hlg : g.length ≤ 65536) (hq : IsP q) :
    Calls Try.prog 35 #[va, vb, .int .i64 q] w fun e w' => Tells (nf q (padd f (psc (-1) g))) w e w' :=
  (mod_sub hf hg hlf hlg hq).mono fun e w' ⟨v, g', he, _, hm, hb⟩ => ⟨v, he, hm.sees, hb⟩
theorem modZ_Add {va vb : Value} {p : Int} {f g : List Int} {w : World} (hf : SeesI w va f) (hg : SeesI w vb g) (hlf : f.length ≤ 65536) (hlg : g.length ≤ 65536) (h1 : -9223372036854775808 ≤ p) (h2 : p < 9223372036854775808) :
    Calls Try.prog 68 #[va, vb, .int .i64 p] w fun e w' => Tells (nfZ p (padd f g)) w e w' := by
  cases h : isP p with
  | true => obtain ⟨q, rfl, hq⟩ := isP_true h; rw [nfZ_prime hq]; exact modT_Add hf hg hlf hlg hq
  | false => rw [nfZ_none h]; exact (none_Add h1 h2 h).mono fun e w' ⟨he, hb⟩ => ⟨_, he, SeesF.nil _, hb⟩
theorem modZ_Sub {va vb : Value} {p : Int} {f g : List Int} {w : World} (hf : SeesI w va f) (hg : SeesI w vb g) (hlf : f.length ≤ 65536) (hlg : g.length ≤ 65536) (h1 : -9223372036854775808 ≤ p) (h2 : p < 9223372036854775808) :
    Calls Try.prog 35 #[va, vb, .int .i64 p] w fun e w' => Tells (nfZ p (padd f (psc (-1) g))) w e w' := by
  cases h : isP p with
  | true => obtain ⟨q, rfl, hq⟩ := isP_true h; rw [nfZ_prime hq]; exact modT_Sub hf hg hlf hlg hq
  | false => rw [nfZ_none h]; exact (none_Sub h1 h2 h).mono fun e w' ⟨he, hb⟩ => ⟨_, he, SeesF.nil _, hb⟩

/-- DivMod by what is not 0. -/
def Divs (q : Nat) (f g : List Int) (w : World) (e : Ending) (w' : World) : Prop := ∃ vq vr Q R, e = .returned (.tuple #[vq, vr, .int .i64 0]) ∧ SeesI w' vq Q ∧ SeesI w' vr R ∧ DivIs q f g Q R ∧ Below w.heap.size w w'
theorem mod_DM {va vb : Value} {q : Nat} {f g : List Int} {w : World} (hf : SeesI w va f) (hg : SeesI w vb g) (hlf : f.length ≤ 16384) (hlg : g.length ≤ 16384) (hq : IsP q) (hz : nf q g ≠ []) :
    Calls Try.prog 39 #[va, vb, .int .i64 q] w fun e w' => Divs q f g w e w' :=
  (mod_DivMod hf hg (by omega) (by omega) hq).mono fun e w' h => by
    rcases h with ⟨h, -, -⟩ | ⟨vq, vr, Q, R, he, hd, h1, h2, h3⟩
    · exact absurd h hz
    · exact ⟨vq, vr, Q, R, he, h1, h2, hd, h3⟩
theorem ref_DM {va vb : Value} {q : Nat} {f g : List Int} {w : World} (hf : SeesI w va f) (hg : SeesI w vb g) (hlf : f.length ≤ 16384) (hlg : g.length ≤ 16384) (hq : IsP q) (hz : nf q g ≠ []) :
    Calls Try.prog 52 #[va, vb, .int .i64 q] w fun e w' => Divs q f g w e w' :=
  (ref_DivMod hf hg hlf hlg hq).mono fun e w' h => by
    rcases h with ⟨h, -, -⟩ | ⟨vq, vr, Q, R, he, hd, h1, h2, h3⟩
    · exact absurd h hz
    · exact ⟨vq, vr, Q, R, he, h1, h2, hd, h3⟩
theorem mod_DM0 {va vb : Value} {q : Nat} {f g : List Int} {w : World} (hf : SeesI w va f) (hg : SeesI w vb g) (hlf : f.length ≤ 16384) (hlg : g.length ≤ 16384) (hq : IsP q) (hz : nf q g = []) :
    Calls Try.prog 39 #[va, vb, .int .i64 q] w fun e w' => e = .returned (.tuple #[.slice none 0 0, .slice none 0 0, .int .i64 30]) ∧ Below w.heap.size w w' :=
  (mod_DivMod hf hg (by omega) (by omega) hq).mono fun e w' h => by
    rcases h with ⟨-, he, hb⟩ | ⟨vq, vr, Q, R, he, hd, h1, h2, h3⟩
    · exact ⟨he, hb⟩
    · have := hd.lt; rw [hz] at this; exact absurd this (by simp)
theorem ref_DM0 {va vb : Value} {q : Nat} {f g : List Int} {w : World} (hf : SeesI w va f) (hg : SeesI w vb g) (hlf : f.length ≤ 16384) (hlg : g.length ≤ 16384) (hq : IsP q) (hz : nf q g = []) :
    Calls Try.prog 52 #[va, vb, .int .i64 q] w fun e w' => e = .returned (.tuple #[.slice none 0 0, .slice none 0 0, .int .i64 30]) ∧ Below w.heap.size w w' :=
  (ref_DivMod hf hg hlf hlg hq).mono fun e w' h => by
    rcases h with ⟨-, he, hb⟩ | ⟨vq, vr, Q, R, he, hd, h1, h2, h3⟩
    · exact ⟨he, hb⟩
    · have := hd.lt; rw [hz] at this; exact absurd this (by simp)
/-- Pow by what is not 0. -/
def Pows (q n : Nat) (f m : List Int) (w : World) (e : Ending) (w' : World) : Prop := ∃ v R, e = .returned (.tuple #[v, .int .i64 0]) ∧ SeesI w' v R ∧ RestIs q (ppow f n) m R ∧ Below w.heap.size w w'
theorem mod_PW {va vm : Value} {q n : Nat} {f m : List Int} {w : World} (hf : SeesI w va f) (hm : SeesI w vm m) (hn : n < 9223372036854775808) (hlf : f.length ≤ 4096) (hlm : m.length ≤ 4096) (hq : IsP q) (hz : nf q m ≠ []) :
    Calls Try.prog 33 #[va, .int .i64 n, vm, .int .i64 q] w fun e w' => Pows q n f m w e w' :=
  (mod_Pow hf hm hn (by omega) (by omega) hq).mono fun e w' h => by
    rcases h with ⟨h, -, -⟩ | h
    · exact absurd h hz
    · exact h
theorem ref_PW {va vm : Value} {q n : Nat} {f m : List Int} {w : World} (hf : SeesI w va f) (hm : SeesI w vm m) (hn : n < 9223372036854775808) (hlf : f.length ≤ 4096) (hlm : m.length ≤ 4096) (hq : IsP q) (hz : nf q m ≠ []) :
    Calls Try.prog 27 #[va, .int .i64 n, vm, .int .i64 q] w fun e w' => Pows q n f m w e w' :=
  (ref_Pow hf hm hn hlf hlm hq).mono fun e w' h => by
    rcases h with ⟨h, -, -⟩ | h
    · exact absurd h hz
    · exact h
theorem mod_PW0 {va vm : Value} {q n : Nat} {f m : List Int} {w : World} (hf : SeesI w va f) (hm : SeesI w vm m) (hn : n < 9223372036854775808) (hlf : f.length ≤ 4096) (hlm : m.length ≤ 4096) (hq : IsP q) (hz : nf q m = []) :
    Calls Try.prog 33 #[va, .int .i64 n, vm, .int .i64 q] w fun e w' => e = .returned (.tuple #[.slice none 0 0, .int .i64 30]) ∧ Below w.heap.size w w' :=
  (mod_Pow hf hm hn (by omega) (by omega) hq).mono fun e w' h => by
    rcases h with ⟨-, he, hb⟩ | ⟨v, R, he, h1, h2, h3⟩
    · exact ⟨he, hb⟩
    · have := h2.lt; rw [hz] at this; exact absurd this (by simp)
theorem ref_PW0 {va vm : Value} {q n : Nat} {f m : List Int} {w : World} (hf : SeesI w va f) (hm : SeesI w vm m) (hn : n < 9223372036854775808) (hlf : f.length ≤ 4096) (hlm : m.length ≤ 4096) (hq : IsP q) (hz : nf q m = []) :
    Calls Try.prog 27 #[va, .int .i64 n, vm, .int .i64 q] w fun e w' => e = .returned (.tuple #[.slice none 0 0, .int .i64 30]) ∧ Below w.heap.size w w' :=
  (ref_Pow hf hm hn hlf hlm hq).mono fun e w' h => by
    rcases h with ⟨-, he, hb⟩ | ⟨v, R, he, h1, h2, h3⟩
    · exact ⟨he, hb⟩
    · have := h2.lt; rw [hz] at this; exact absurd this (by simp)
/-! ### Lists -/
theorem len_nf {q : Nat} {l : List Int} {n : Nat} (h : l.length ≤ n) : (nf q l).length ≤ n := Nat.le_trans (nf_len q l) h
theorem len_add {f g : List Int} {n : Nat} (h : f.length ≤ n) (k : g.length ≤ n) : (padd f g).length ≤ n := by rw [padd_len]; omega
theorem len_mul {f g : List Int} {n m : Nat} (h : f.length ≤ n) (k : g.length ≤ m) : (pmul f g).length ≤ n + m := Nat.le_trans (pmul_len f g) (by omega)
theorem nf_comm (q : Nat) (f g : List Int) : nf q (padd g f) = nf q (padd f g) := nf_eq (.of_ev fun x => by rw [ev_padd, ev_padd, Int.add_comm])
theorem nf_mcomm (q : Nat) (f g : List Int) : nf q (pmul g f) = nf q (pmul f g) := nf_eq (.of_ev fun x => by rw [ev_pmul, ev_pmul, Int.mul_comm])
theorem ring_assoc (q : Nat) (f g h : List Int) : nf q (padd (nf q (padd f g)) h) = nf q (padd f (nf q (padd g h))) :=
  nf_eq (((nf_E q _).add (E.refl q h)).trans ((E.of_ev (g := padd f (padd g h)) fun x => by simp only [ev_padd]; omega).trans ((E.refl q f).add (nf_E q _).symm)))
theorem ring_sub (q : Nat) (f g : List Int) : nf q (padd (nf q (padd f g)) (psc (-1) g)) = nf q f :=
  nf_eq (((nf_E q _).add (E.refl q _)).trans (.of_ev fun x => by simp only [ev_padd, ev_psc]; omega))
theorem ring_massoc (q : Nat) (f g h : List Int) : nf q (pmul (nf q (pmul f g)) h) = nf q (pmul f (nf q (pmul g h))) :=
  nf_eq (((nf_E q _).mul (E.refl q h)).trans ((E.of_ev (g := pmul f (pmul g h)) fun x => by simp only [ev_pmul]; grind).trans ((E.refl q f).mul (nf_E q _).symm)))
theorem ring_dist (q : Nat) (f g h : List Int) : nf q (pmul (nf q (padd f g)) h) = nf q (padd (nf q (pmul f h)) (nf q (pmul g h))) :=
  nf_eq (((nf_E q _).mul (E.refl q h)).trans ((E.of_ev (g := padd (pmul f h) (pmul g h)) fun x => by simp only [ev_pmul, ev_padd]; grind).trans (((nf_E q _).symm).add (nf_E q _).symm)))
theorem rest_sum {q : Nat} {f g Q R : List Int} (h : DivIs q f g Q R) : nf q (padd (nf q (pmul Q g)) R) = nf q f :=
  nf_eq (((nf_E q _).add (E.refl q R)).trans h.eq.symm)

theorem gcd_zero {q : Nat} {f g : List Int} (h : GcdIs q f g []) : nf q f = [] ∧ nf q g = [] := by
  obtain ⟨a, ha⟩ := h.sp.f1.zero
  obtain ⟨b, hb⟩ := h.sp.g1.zero
  constructor
  · rw [nf_eq (ha.trans (g := pmul a []) (k := []) (.of_ev fun x => by rw [ev_pmul, ev_nil]; simp))]; rfl
  · rw [nf_eq (hb.trans (g := pmul b []) (k := []) (.of_ev fun x => by rw [ev_pmul, ev_nil]; simp))]; rfl
/-- What a divisor leaves. -/
theorem rest_nil {q : Nat} (hq : IsP q) {f d Q R : List Int} (hd : nf q d ≠ []) (ha : ∃ a, E q f (pmul a d)) (h : DivIs q f d Q R) : R = [] := by
  obtain ⟨a, e, he⟩ := ha
  have h0 : RestIs q f d [] := ⟨⟨a, e, fun x => by have := he x; rw [ev_pmul] at this; rw [this, ev_nil]; grind⟩, Plain.nil q (isP_bounds hq).1, List.length_pos_iff.2 hd⟩
  exact h.rest.unique hq h0 (M.of_ev fun x => rfl)
theorem mon_mul {q : Nat} (hq : IsP q) {d e : List Int} (hd : Mon q d) (he : Mon q e) : Mon q (nf q (pmul d e)) := by
  have hq0 := (isP_bounds hq).1
  by_cases d0 : d = []
  · subst d0; exact Mon.nil q hq0
  by_cases e0 : e = []
  · subst e0
    have : nf q (pmul d []) = [] := by rw [nf_eq (g := []) (.of_ev fun x => by rw [ev_pmul, ev_nil]; simp)]; rfl
    rw [this]; exact Mon.nil q hq0
  have ht := top_mul e e0 d d0
  rw [hd.2 d0, he.2 e0, Int.mul_one] at ht
  have hlp : ∀ (f g : List Int), g ≠ [] → f ≠ [] → (pmul f g).length ≤ f.length + g.length - 1 := by
    intro f g hg
    have hgl := List.length_pos_iff.2 hg
    induction f with
    | nil => intro h; exact absurd rfl h
    | cons a f ih =>
      intro _
      simp only [pmul, padd_len, psc_len, List.length_cons]
      by_cases hf : f = []
      · subst hf; simp [pmul]; omega
      · have := ih hf; have := List.length_pos_iff.2 hf; omega
  have hl := hlp d e e0 d0
  have hdl := List.length_pos_iff.2 d0
  have hel := List.length_pos_iff.2 e0
  have h1 : (nf q (pmul d e)).getD (d.length + e.length - 2) 0 = 1 := by
    rw [getD_nf, ht]; exact Int.emod_eq_of_lt (by omega) (by have := hq.1; omega)
  have h2 : (nf q (pmul d e)).length = d.length + e.length - 1 := by
    have h3 := nf_len q (pmul d e)
    rcases Nat.lt_or_ge (d.length + e.length - 2) (nf q (pmul d e)).length with h4 | h4
    · omega
    · rw [getD_over' _ _ h4] at h1; cases h1
  refine ⟨nf_plain hq0 _, fun _ => ?_⟩
  rw [h2, show d.length + e.length - 1 - 1 = d.length + e.length - 2 by omega]; exact h1
theorem gcd_mul {q : Nat} (hq : IsP q) {f g h d : List Int} (k : GcdIs q f g d) : GcdIs q (nf q (pmul f h)) (nf q (pmul g h)) (nf q (pmul d (mon q (nf q h)))) := by
  obtain ⟨c, c', h1, -, -, h4, -⟩ := mon_unit hq (nf_plain (isP_bounds hq).1 h)
  have hm : E q (mon q (nf q h)) (psc c h) := h4.trans ((nf_E q h).sc c)
  refine ⟨mon_mul hq k.mon (mon_mon hq (nf_plain (isP_bounds hq).1 h)).1, ?_⟩
  have e1 : ∃ r : Int, c * c' = 1 + q * r := by
    have h2 : (q : Int) ∣ c * c' - 1 := Int.dvd_of_emod_eq_zero (by rw [Int.sub_emod, h1]; simp)
    obtain ⟨r, hr⟩ := h2; exact ⟨r, by omega⟩
  obtain ⟨r, hr⟩ := e1
  have eD : E q (nf q (pmul d (mon q (nf q h)))) (psc c (pmul d h)) := (nf_E q _).trans (((E.refl q d).mul hm).trans (.of_ev fun x => by simp only [ev_pmul, ev_psc]; grind))
  obtain ⟨a, b, u, hu⟩ := k.sp.F1
  obtain ⟨s, v, hs⟩ := k.sp.f1.zero
  obtain ⟨t, y, hy⟩ := k.sp.g1.zero
  have back : ∀ {F f' s' v' : List Int}, E q F (pmul f' h) → (∀ x, ev f' x = ev (pmul s' d) x + q * ev v' x) → Span q F (nf q (pmul d (mon q (nf q h)))) [] := by
    intro F f' s' v' hF hx
    refine Span.of_mul (k := psc c' s') (hF.trans (E.trans ?_ ((E.refl q _).mul eD.symm)))
    exact ⟨padd (pmul v' h) (psc (-r) (pmul s' (pmul d h))), fun x => by have := hx x; simp only [ev_pmul, ev_psc, ev_padd] at *; rw [this]; grind⟩
  refine ⟨⟨psc c a, psc c b, ?_⟩, ⟨[], [], .of_ev fun x => by simp [ev_padd, ev_pmul, ev]⟩, back (nf_E q _) hs, back (nf_E q _) hy⟩
  refine eD.trans (E.trans (g := padd (pmul (psc c a) (pmul f h)) (pmul (psc c b) (pmul g h))) ?_ (((E.refl q _).mul (nf_E q _).symm).add ((E.refl q _).mul (nf_E q _).symm)))
  exact ⟨psc c (pmul u h), fun x => by have := hu x; simp only [ev_pmul, ev_psc, ev_padd] at *; rw [this]; grind⟩
theorem gcd_swap {q : Nat} (hq : IsP q) {f g d e : List Int} (h : GcdIs q f g d) (k : GcdIs q g f e) : d = e := h.unique hq k (Both.swap q g f)

theorem frob_rest {q : Nat} (hq : IsP q) {f g m a b c : List Int} (ha : RestIs q (ppow (nf q (padd f g)) q) m a) (hb : RestIs q (ppow f q) m b) (hc : RestIs q (ppow g q) m c) : a = nf q (padd b c) := by
  have hq0 := (isP_bounds hq).1
  have hl : (nf q (padd b c)).length < (nf q m).length := by
    have h1 := nf_len q (padd b c)
    rw [padd_len] at h1
    have := hb.lt; have := hc.lt; omega
  have h2 : RestIs q (ppow (nf q (padd f g)) q) m (nf q (padd b c)) := by
    refine ⟨?_, nf_plain hq0 _, hl⟩
    have e1 : M q m (ppow (nf q (padd f g)) q) (ppow (padd f g) q) := ((nf_E q (padd f g)).pow q).m m
    refine e1.trans (((frobenius hq f g).m m).trans ?_)
    exact (hb.eq.add hc.eq).trans ((nf_E q _).symm.m m)
  exact ha.unique hq h2 (M.of_ev fun x => rfl)
theorem pow_rest {q : Nat} (hq : IsP q) {f m x y z Q R : List Int} {n k : Nat} (hx : RestIs q (ppow f n) m x) (hy : RestIs q (ppow f k) m y) (hz : RestIs q (ppow f (n + k)) m z) (hd : DivIs q (nf q (pmul x y)) m Q R) : z = R := by
  refine hz.unique hq hd.rest ?_
  refine (M.of_ev (g := pmul (ppow f n) (ppow f k)) fun t => by rw [ppow_add]).trans ?_
  exact (hx.eq.mul hy.eq).trans ((nf_E q _).symm.m m)

/-- The polynomial less a place. -/
theorem line_nz {q : Nat} (hq : IsP q) (x : Int) : nf q (nf q (padd [0, 1] (psc (-1) [x]))) ≠ [] ∧ (nf q (nf q (padd [0, 1] (psc (-1) [x])))).length ≤ 2 := by
  rw [nf_self (nf_plain (isP_bounds hq).1 _)]
  constructor
  · intro e
    have h := getD_nf q (padd [0, 1] (psc (-1) [x])) 1
    rw [e] at h
    have h2 : (padd [0, 1] (psc (-1) [x])).getD 1 0 = 1 := rfl
    rw [h2, Int.emod_eq_of_lt (by omega) (by have := hq.1; omega)] at h
    simp at h
  · exact nf_len q _
theorem root_iff {q : Nat} (hq : IsP q) {f Q R : List Int} {x : Int} (h : DivIs q f (nf q (padd [0, 1] (psc (-1) [x]))) Q R) : decide (R.length = 0) = decide (ev f x % (q : Int) = 0) := by
  have hl := (line_nz hq x).2
  have h1 : R.length ≤ 1 := by have := h.lt; omega
  have h2 : ev f x % (q : Int) = ev R x % (q : Int) := by
    rw [h.eq.ev x, ev_padd, ev_pmul]
    have h3 := (nf_E q (padd [0, 1] (psc (-1) [x]))).ev x
    rw [ev_padd, ev_psc] at h3
    have h4 : ev [0, 1] x + -1 * ev [x] x = 0 := by simp only [ev]; grind
    rw [h4] at h3
    rw [Int.add_emod, Int.mul_emod, h3]; simp
  rw [h2]
  have : R = [] ∨ ∃ r, R = [r] := by
    cases R with
    | nil => exact Or.inl rfl
    | cons r l =>
      right
      have : l = [] := by simpa using h1
      rw [this]; exact ⟨r, rfl⟩
  rcases this with rfl | ⟨r, rfl⟩
  · simp [ev]
  · have hr := h.pr.1 0
    have hr0 := h.pr.2 (by simp)
    have e1 : ev [r] x = r := by simp [ev]
    rw [e1]
    have hr' : 0 ≤ r ∧ r < (q : Int) := hr
    have hr0' : r ≠ 0 := hr0
    rw [Int.emod_eq_of_lt hr'.1 hr'.2]
    simp [hr0']
theorem ev_sum {q : Nat} (hq : IsP q) (f g : List Int) (x : Int) : addP (ev f x % (q : Int)) (ev g x % (q : Int)) q = ev (nf q (padd f g)) x % (q : Int) := by
  rw [addP_eq hq, (nf_E q (padd f g)).ev x, ev_padd, ← Int.add_emod]
theorem ev_prod {q : Nat} (hq : IsP q) (f g : List Int) (x : Int) : mulP (ev f x % (q : Int)) (ev g x % (q : Int)) q = ev (nf q (pmul f g)) x % (q : Int) := by
  rw [mulP_eq hq, (nf_E q (pmul f g)).ev x, ev_pmul, ← Int.mul_emod]
end Go.Proofs.Ytokdcgmjpnanoaa
