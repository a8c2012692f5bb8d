/- Polynomials as lists of ints, and the same by a prime: sums, products, powers; plain forms; division has one answer. No function of the program in it. -/
import Derived.Test.YtokdcgmjpnanoaaPr5

set_option linter.unusedVariables false
set_option linter.unusedSimpArgs false
namespace Go.Proofs.Ytokdcgmjpnanoaa

/-- The value at x. -/
def ev : List Int → Int → Int
  | [], _ => 0
  | a :: l, x => a + x * ev l x
def padd : List Int → List Int → List Int
  | [], g => g
  | a :: f, [] => a :: f
  | a :: f, b :: g => (a + b) :: padd f g
def psc (c : Int) (f : List Int) : List Int := f.map (fun a => c * a)
def pmul : List Int → List Int → List Int
  | [], _ => []
  | a :: f, g => padd (psc a g) (0 :: pmul f g)
def ppow (f : List Int) : Nat → List Int
  | 0 => [1]
  | n + 1 => pmul f (ppow f n)
def pup (n : Nat) (f : List Int) : List Int := List.replicate n 0 ++ f

theorem ev_nil (x : Int) : ev [] x = 0 := rfl
theorem ev_cons (a : Int) (l : List Int) (x : Int) : ev (a :: l) x = a + x * ev l x := rfl
theorem ev_padd (x : Int) : ∀ f g : List Int, ev (padd f g) x = ev f x + ev g x
  | [], g => by simp [padd, ev]
  | a :: f, [] => by simp [padd, ev]
  | a :: f, b :: g => by simp only [padd, ev, ev_padd x f g]; grind
theorem ev_psc (c x : Int) : ∀ f : List Int, ev (psc c f) x = c * ev f x
  | [] => by simp [psc, ev]
  | a :: f => by
    have := ev_psc c x f
    simp only [psc, List.map_cons, ev] at this ⊢; grind
theorem ev_pmul (x : Int) : ∀ f g : List Int, ev (pmul f g) x = ev f x * ev g x
  | [], g => by simp [pmul, ev]
  | a :: f, g => by simp only [pmul, ev_padd, ev_psc, ev, ev_pmul x f g]; grind
theorem ev_ppow (f : List Int) (x : Int) : ∀ n, ev (ppow f n) x = ev f x ^ n
  | 0 => by simp [ppow, ev]
  | n + 1 => by simp only [ppow, ev_pmul, ev_ppow f x n, Int.pow_succ]; grind
theorem ev_append (x : Int) (g : List Int) : ∀ f : List Int, ev (f ++ g) x = ev f x + x ^ f.length * ev g x
  | [] => by simp [ev]
  | a :: f => by simp only [List.cons_append, ev, ev_append x g f, List.length_cons, Int.pow_succ]; grind
theorem ev_zeros (x : Int) : ∀ n, ev (List.replicate n 0) x = 0
  | 0 => rfl
  | n + 1 => by rw [List.replicate_succ, ev_cons, ev_zeros x n]; simp
theorem ev_pup (x : Int) (n : Nat) (f : List Int) : ev (pup n f) x = x ^ n * ev f x := by
  unfold pup; rw [ev_append, ev_zeros, List.length_replicate]; simp

theorem getD_cons_zero' (a : Int) (l : List Int) : (a :: l).getD 0 0 = a := rfl
theorem getD_cons_succ' (a : Int) (l : List Int) (i : Nat) : (a :: l).getD (i + 1) 0 = l.getD i 0 := by simp
theorem getD_nil' (i : Nat) : ([] : List Int).getD i 0 = 0 := by simp
theorem getD_over' (l : List Int) (i : Nat) (h : l.length ≤ i) : l.getD i 0 = 0 := by
  rw [List.getD_eq_getElem?_getD, List.getElem?_eq_none h]; rfl
theorem getD_padd : ∀ (f g : List Int) (i : Nat), (padd f g).getD i 0 = f.getD i 0 + g.getD i 0
  | [], g, i => by simp [padd]
  | a :: f, [], i => by simp [padd]
  | a :: f, b :: g, 0 => rfl
  | a :: f, b :: g, i + 1 => by simp only [padd, getD_cons_succ']; exact getD_padd f g i
theorem getD_psc (c : Int) : ∀ (f : List Int) (i : Nat), (psc c f).getD i 0 = c * f.getD i 0
  | [], i => by simp [psc]
  | a :: f, 0 => rfl
  | a :: f, i + 1 => by
    have := getD_psc c f i
    simp only [psc, List.map_cons, getD_cons_succ'] at this ⊢; exact this
theorem getD_pup (n : Nat) (f : List Int) (i : Nat) : (pup n f).getD i 0 = if i < n then 0 else f.getD (i - n) 0 := by
  unfold pup
  rw [List.getD_eq_getElem?_getD]
  by_cases h : i < n
  · rw [if_pos h, List.getElem?_append_left (by simpa using h), List.getElem?_replicate, if_pos h]; rfl
  · rw [if_neg h, List.getElem?_append_right (by simp; omega), List.length_replicate, List.getD_eq_getElem?_getD]
theorem getD_pmul_cons (a : Int) (f g : List Int) (i : Nat) : (pmul (a :: f) g).getD i 0 = a * g.getD i 0 + (if i = 0 then 0 else (pmul f g).getD (i - 1) 0) := by
  simp only [pmul, getD_padd, getD_psc]
  cases i with
  | zero => rfl
  | succ i => simp only [getD_cons_succ']; rw [if_neg (by omega)]; rfl
theorem padd_len : ∀ f g : List Int, (padd f g).length = max f.length g.length
  | [], g => by simp [padd]
  | a :: f, [] => by simp [padd]
  | a :: f, b :: g => by simp [padd, padd_len f g]
theorem psc_len (c : Int) (f : List Int) : (psc c f).length = f.length := by simp [psc]
theorem pup_len (n : Nat) (f : List Int) : (pup n f).length = n + f.length := by simp [pup]

theorem pmul_len : ∀ f g : List Int, (pmul f g).length ≤ f.length + g.length
  | [], g => by simp [pmul]
  | a :: f, g => by
    have := pmul_len f g
    simp only [pmul, padd_len, psc_len, List.length_cons]; omega

/-- The value is 0 everywhere: so is each coefficient. -/
theorem ev_zero : ∀ (d : List Int), (∀ x, ev d x = 0) → ∀ i, d.getD i 0 = 0
  | [], _, i => by simp
  | a :: d, h, i => by
    have ha : a = 0 := by have := h 0; simp [ev] at this; exact this
    subst ha
    have h1 : ∀ x, x ≠ 0 → ev d x = 0 := by
      intro x hx
      have := h x
      simp only [ev, Int.zero_add] at this
      rcases Int.mul_eq_zero.1 this with h2 | h2
      · exact absurd h2 hx
      · exact h2
    have h2 : ∀ x, ev d x = 0 := by
      intro x
      by_cases hx : x = 0
      · subst hx
        cases d with
        | nil => rfl
        | cons c d =>
          have h3 := h1 ((c.natAbs : Int) + 1) (by omega)
          simp only [ev] at h3 ⊢
          have h4 : ((c.natAbs : Int) + 1) ∣ c := ⟨-ev d ((c.natAbs : Int) + 1), by grind⟩
          have h5 : c = 0 := Int.eq_zero_of_dvd_of_natAbs_lt_natAbs h4 (by omega)
          rw [h5]; simp
      · exact h1 x hx
    cases i with
    | zero => rfl
    | succ i => rw [getD_cons_succ']; exact ev_zero d h2 i
theorem cf_ext {f g : List Int} (h : ∀ x, ev f x = ev g x) (i : Nat) : f.getD i 0 = g.getD i 0 := by
  have := ev_zero (padd f (psc (-1) g)) (fun x => by rw [ev_padd, ev_psc, h x]; grind) i
  rw [getD_padd, getD_psc] at this; omega
theorem ev_ext (x : Int) : ∀ f g : List Int, (∀ i, f.getD i 0 = g.getD i 0) → ev f x = ev g x
  | [], [], _ => rfl
  | [], b :: g, h => by
    have h0 := h 0
    rw [getD_cons_zero'] at h0
    have h1 := ev_ext x [] g (fun i => by have := h (i + 1); rw [getD_cons_succ'] at this; simpa using this)
    simp only [ev] at h1 ⊢
    rw [← h1]; simp at h0 ⊢; exact h0
  | a :: f, [], h => by
    have h0 := h 0
    rw [getD_cons_zero'] at h0
    have h1 := ev_ext x f [] (fun i => by have := h (i + 1); rw [getD_cons_succ'] at this; simpa using this)
    simp only [ev] at h1 ⊢
    rw [h1]; simp at h0 ⊢; exact h0
  | a :: f, b :: g, h => by
    have h0 := h 0
    rw [getD_cons_zero', getD_cons_zero'] at h0
    have h1 := ev_ext x f g (fun i => by have := h (i + 1); rwa [getD_cons_succ', getD_cons_succ'] at this)
    simp only [ev]; rw [h0, h1]

/-! ### The same by a number -/
def E (q : Nat) (f g : List Int) : Prop := ∃ h : List Int, ∀ x, ev f x = ev g x + q * ev h x
/-- .. and by a polynomial. -/
def M (q : Nat) (m f g : List Int) : Prop := ∃ k h : List Int, ∀ x, ev f x = ev g x + ev m x * ev k x + q * ev h x

theorem E.refl (q : Nat) (f : List Int) : E q f f := ⟨[], fun x => by simp [ev]⟩
theorem E.of_ev {q : Nat} {f g : List Int} (h : ∀ x, ev f x = ev g x) : E q f g := ⟨[], fun x => by simp [ev, h x]⟩
theorem E.symm {q : Nat} {f g : List Int} (h : E q f g) : E q g f := by
  obtain ⟨a, ha⟩ := h
  exact ⟨psc (-1) a, fun x => by rw [ev_psc, ha x]; grind⟩
theorem E.trans {q : Nat} {f g k : List Int} (h : E q f g) (h' : E q g k) : E q f k := by
  obtain ⟨a, ha⟩ := h; obtain ⟨b, hb⟩ := h'
  exact ⟨padd a b, fun x => by rw [ev_padd, ha x, hb x]; grind⟩
theorem E.add {q : Nat} {f f' g g' : List Int} (h : E q f f') (k : E q g g') : E q (padd f g) (padd f' g') := by
  obtain ⟨a, ha⟩ := h; obtain ⟨b, hb⟩ := k
  exact ⟨padd a b, fun x => by simp only [ev_padd, ha x, hb x]; grind⟩
theorem E.mul {q : Nat} {f f' g g' : List Int} (h : E q f f') (k : E q g g') : E q (pmul f g) (pmul f' g') := by
  obtain ⟨a, ha⟩ := h; obtain ⟨b, hb⟩ := k
  exact ⟨padd (padd (pmul a g') (pmul f' b)) (psc q (pmul a b)), fun x => by simp only [ev_padd, ev_pmul, ev_psc, ha x, hb x]; grind⟩
theorem E.sc {q : Nat} {f f' : List Int} (c : Int) (h : E q f f') : E q (psc c f) (psc c f') := by
  obtain ⟨a, ha⟩ := h
  exact ⟨psc c a, fun x => by simp only [ev_psc, ha x]; grind⟩
theorem E.pow {q : Nat} {f f' : List Int} (h : E q f f') : ∀ n, E q (ppow f n) (ppow f' n)
  | 0 => E.refl _ _
  | n + 1 => h.mul (E.pow h n)
theorem E.m {q : Nat} {f g : List Int} (m : List Int) (h : E q f g) : M q m f g := by
  obtain ⟨a, ha⟩ := h
  exact ⟨[], a, fun x => by rw [ha x]; simp [ev]⟩
theorem M.symm {q : Nat} {m f g : List Int} (h : M q m f g) : M q m g f := by
  obtain ⟨k, a, ha⟩ := h
  exact ⟨psc (-1) k, psc (-1) a, fun x => by simp only [ev_psc, ha x]; grind⟩
theorem M.trans {q : Nat} {m f g k : List Int} (h : M q m f g) (h' : M q m g k) : M q m f k := by
  obtain ⟨a, b, ha⟩ := h; obtain ⟨c, d, hc⟩ := h'
  exact ⟨padd a c, padd b d, fun x => by simp only [ev_padd, ha x, hc x]; grind⟩
theorem M.add {q : Nat} {m f f' g g' : List Int} (h : M q m f f') (h' : M q m g g') : M q m (padd f g) (padd f' g') := by
  obtain ⟨a, b, ha⟩ := h; obtain ⟨c, d, hc⟩ := h'
  exact ⟨padd a c, padd b d, fun x => by simp only [ev_padd, ha x, hc x]; grind⟩
theorem M.mul {q : Nat} {m f f' g g' : List Int} (h : M q m f f') (h' : M q m g g') : M q m (pmul f g) (pmul f' g') := by
  obtain ⟨a, b, ha⟩ := h; obtain ⟨c, d, hc⟩ := h'
  exact ⟨padd (padd (pmul a g') (pmul f' c)) (pmul m (pmul a c)), padd (padd (pmul b g) (pmul f' d)) (pmul m (pmul a d)), fun x => by simp only [ev_padd, ev_pmul, ha x, hc x]; grind⟩
theorem M.pow {q : Nat} {m f f' : List Int} (h : M q m f f') : ∀ n, M q m (ppow f n) (ppow f' n)
  | 0 => (E.refl _ _).m _
  | n + 1 => h.mul (M.pow h n)
theorem M.of_ev {q : Nat} {m f g : List Int} (h : ∀ x, ev f x = ev g x) : M q m f g := (E.of_ev h).m m

theorem E_cf {q : Nat} {f g : List Int} (h : E q f g) (i : Nat) : f.getD i 0 % (q : Int) = g.getD i 0 % (q : Int) := by
  obtain ⟨a, ha⟩ := h
  have := cf_ext (f := f) (g := padd g (psc q a)) (fun x => by rw [ev_padd, ev_psc]; exact ha x) i
  rw [this, getD_padd, getD_psc, Int.add_mul_emod_self_left]
theorem getD_map_range (n : Nat) (F : Nat → Int) (i : Nat) : ((List.range n).map F).getD i 0 = if i < n then F i else 0 := by
  rw [List.getD_eq_getElem?_getD]
  by_cases h : i < n
  · rw [if_pos h]; simp [h]
  · rw [if_neg h, List.getElem?_eq_none (by simpa using h)]; rfl
theorem cf_E {q : Nat} {f g : List Int} (h : ∀ i, f.getD i 0 % (q : Int) = g.getD i 0 % (q : Int)) : E q f g := by
  refine ⟨(List.range (max f.length g.length)).map (fun i => (f.getD i 0 - g.getD i 0) / q), fun x => ?_⟩
  rw [← ev_psc, ← ev_padd]
  refine ev_ext x _ _ fun i => ?_
  rw [getD_padd, getD_psc, getD_map_range]
  split
  · have h1 : (q : Int) ∣ f.getD i 0 - g.getD i 0 := Int.dvd_of_emod_eq_zero (by rw [Int.sub_emod, h i]; simp)
    have := Int.mul_ediv_cancel' h1
    omega
  · rename_i h1
    rw [getD_over' f i (by omega), getD_over' g i (by omega)]; simp

/-! ### Plain form -/
def trim : List Int → List Int
  | [] => []
  | a :: l => if a = 0 ∧ trim l = [] then [] else a :: trim l
theorem getD_trim : ∀ (l : List Int) (i : Nat), (trim l).getD i 0 = l.getD i 0
  | [], _ => rfl
  | a :: l, i => by
    have h := getD_trim l
    unfold trim
    split
    · rename_i h1
      obtain ⟨h1, h2⟩ := h1
      rw [h2] at h
      cases i with
      | zero => simp [h1]
      | succ i => rw [getD_cons_succ', ← h i]; simp
    · cases i with
      | zero => rfl
      | succ i => rw [getD_cons_succ', getD_cons_succ', h i]
theorem trim_last : ∀ (l : List Int), trim l ≠ [] → (trim l).getD ((trim l).length - 1) 0 ≠ 0
  | [], h => absurd rfl h
  | a :: l, h => by
    have ih := trim_last l
    unfold trim at h ⊢
    split
    · rename_i h1; rw [if_pos h1] at h; exact absurd rfl h
    · rename_i h1
      by_cases h2 : trim l = []
      · rw [h2]; simp; intro h3; exact h1 ⟨h3, h2⟩
      · have h3 : 0 < (trim l).length := List.length_pos_iff.2 h2
        have := ih h2
        rw [List.length_cons, Nat.add_sub_cancel]
        obtain ⟨n, hn⟩ : ∃ n, (trim l).length = n + 1 := ⟨(trim l).length - 1, by omega⟩
        rw [hn] at this ⊢
        rw [getD_cons_succ']; exact this
theorem trim_len : ∀ l : List Int, (trim l).length ≤ l.length
  | [] => Nat.le_refl _
  | a :: l => by
    have := trim_len l
    unfold trim; split <;> simp; omega
theorem trim_self : ∀ {l : List Int}, (l ≠ [] → l.getD (l.length - 1) 0 ≠ 0) → trim l = l
  | [], _ => rfl
  | a :: l, h => by
    have h1 := h (by simp)
    rw [List.length_cons, Nat.add_sub_cancel] at h1
    have ih : trim l = l := trim_self (fun hl => by
      obtain ⟨n, hn⟩ : ∃ n, l.length = n + 1 := ⟨l.length - 1, by have := List.length_pos_iff.2 hl; omega⟩
      rw [hn] at h1 ⊢
      rw [getD_cons_succ'] at h1; exact h1)
    unfold trim
    rw [ih, if_neg]
    rintro ⟨h2, h3⟩
    subst h3; apply h1; rw [h2]; rfl
theorem trim_zero : ∀ (l : List Int), trim (l ++ [0]) = trim l
  | [] => by simp [trim]
  | a :: l => by
    rw [List.cons_append]; unfold trim; rw [trim_zero l]

def nf (q : Nat) (f : List Int) : List Int := trim (f.map (fun a => a % (q : Int)))
def Plain (q : Nat) (f : List Int) : Prop := (∀ i, 0 ≤ f.getD i 0 ∧ f.getD i 0 < (q : Int)) ∧ (f ≠ [] → f.getD (f.length - 1) 0 ≠ 0)

theorem getD_map_mod (q : Nat) : ∀ (f : List Int) (i : Nat), (f.map (fun a => a % (q : Int))).getD i 0 = f.getD i 0 % (q : Int)
  | [], i => by simp
  | a :: f, 0 => rfl
  | a :: f, i + 1 => by rw [List.map_cons, getD_cons_succ', getD_cons_succ']; exact getD_map_mod q f i
theorem getD_nf (q : Nat) (f : List Int) (i : Nat) : (nf q f).getD i 0 = f.getD i 0 % (q : Int) := by
  unfold nf; rw [getD_trim, getD_map_mod]
theorem nf_E (q : Nat) (f : List Int) : E q (nf q f) f := cf_E fun i => by rw [getD_nf, Int.emod_emod_of_dvd _ (Int.dvd_refl _)]
theorem nf_plain {q : Nat} (hq : 0 < q) (f : List Int) : Plain q (nf q f) :=
  ⟨fun i => by rw [getD_nf]; exact ⟨Int.emod_nonneg _ (by omega), Int.emod_lt_of_pos _ (by omega)⟩, fun h => trim_last _ h⟩
theorem nf_len (q : Nat) (f : List Int) : (nf q f).length ≤ f.length := by
  have := trim_len (f.map (fun a => a % (q : Int)))
  rw [List.length_map] at this; exact this
theorem getD_ext {f g : List Int} (hf : f ≠ [] → f.getD (f.length - 1) 0 ≠ 0) (hg : g ≠ [] → g.getD (g.length - 1) 0 ≠ 0) (h : ∀ i, f.getD i 0 = g.getD i 0) : f = g := by
  have hl : f.length = g.length := by
    rcases Nat.lt_trichotomy f.length g.length with h1 | h1 | h1
    · have h2 := hg (by intro e; rw [e] at h1; simp at h1)
      rw [← h, getD_over' f _ (by omega)] at h2
      exact absurd rfl h2
    · exact h1
    · have h2 := hf (by intro e; rw [e] at h1; simp at h1)
      rw [h, getD_over' g _ (by omega)] at h2
      exact absurd rfl h2
  apply List.ext_getElem hl
  intro i h1 h2
  have := h i
  rw [List.getD_eq_getElem?_getD, List.getD_eq_getElem?_getD, List.getElem?_eq_getElem h1, List.getElem?_eq_getElem h2] at this
  exact this
theorem Plain.ext {q : Nat} {f g : List Int} (hf : Plain q f) (hg : Plain q g) (h : E q f g) : f = g := by
  refine getD_ext hf.2 hg.2 fun i => ?_
  have h1 := E_cf h i
  rwa [Int.emod_eq_of_lt (hf.1 i).1 (hf.1 i).2, Int.emod_eq_of_lt (hg.1 i).1 (hg.1 i).2] at h1
theorem nf_eq {q : Nat} {f g : List Int} (h : E q f g) : nf q f = nf q g :=
  getD_ext (fun h => trim_last _ h) (fun h => trim_last _ h) fun i => by rw [getD_nf, getD_nf, E_cf h i]
theorem nf_self {q : Nat} {f : List Int} (h : Plain q f) : nf q f = f :=
  getD_ext (fun h => trim_last _ h) h.2 fun i => by rw [getD_nf, Int.emod_eq_of_lt (h.1 i).1 (h.1 i).2]
theorem nf_unique {q : Nat} {f g : List Int} (h : Plain q f) (he : E q f g) : f = nf q g := by rw [← nf_eq he, nf_self h]
theorem nf_nil (q : Nat) : nf q [] = [] := rfl
theorem Plain.nil (q : Nat) (hq : 0 < q) : Plain q [] := ⟨fun i => by simp; omega, fun h => absurd rfl h⟩

/-! ### The first coefficient of a product; division has one answer -/
theorem top_mul (g : List Int) (hg : g ≠ []) : ∀ f : List Int, f ≠ [] → (pmul f g).getD (f.length + g.length - 2) 0 = f.getD (f.length - 1) 0 * g.getD (g.length - 1) 0
  | [], h => absurd rfl h
  | [a], _ => by
    have : 0 < g.length := List.length_pos_iff.2 hg
    rw [getD_pmul_cons]
    simp only [List.length_singleton]
    rw [show 1 + g.length - 2 = g.length - 1 by omega]
    simp [pmul]
  | a :: b :: f, _ => by
    have hl : 0 < g.length := List.length_pos_iff.2 hg
    have ih := top_mul g hg (b :: f) (by simp)
    rw [getD_pmul_cons]
    simp only [List.length_cons] at ih ⊢
    rw [getD_over' g _ (by omega), if_neg (by omega), show f.length + 1 + 1 + g.length - 2 - 1 = f.length + 1 + g.length - 2 by omega, ih]
    rw [show f.length + 1 + 1 - 1 = (f.length + 1 - 1) + 1 by omega, getD_cons_succ']; simp

theorem prime_dvd {q : Nat} (hq : IsP q) {a b : Int} (ha : 0 ≤ a ∧ a < q) (hb : 0 ≤ b ∧ b < q) (h : (a * b) % (q : Int) = 0) : a = 0 ∨ b = 0 := by
  obtain ⟨x, rfl⟩ : ∃ x : Nat, a = x := ⟨a.toNat, by omega⟩
  obtain ⟨y, rfl⟩ : ∃ y : Nat, b = y := ⟨b.toNat, by omega⟩
  have h1 : q ∣ x * y := by
    have : (q : Int) ∣ ((x * y : Nat) : Int) := Int.dvd_of_emod_eq_zero (by rw [Int.natCast_mul]; exact h)
    exact Int.natCast_dvd_natCast.1 this
  rcases hq.euclid h1 with h2 | h2
  · left
    rcases Nat.eq_zero_or_pos x with h3 | h3
    · omega
    · have := Nat.le_of_dvd h3 h2; omega
  · right
    rcases Nat.eq_zero_or_pos y with h3 | h3
    · omega
    · have := Nat.le_of_dvd h3 h2; omega

theorem div_free {q : Nat} (hq : IsP q) {k m d : List Int} (hm : Plain q m) (hm0 : m ≠ []) (h : E q (pmul k m) d) (hd : ∀ i, m.length - 1 ≤ i → d.getD i 0 % (q : Int) = 0) : E q k [] := by
  have hq0 : 0 < q := by have := hq.1; omega
  by_cases hk : nf q k = []
  · have := (nf_E q k).symm; rw [hk] at this; exact this
  · exfalso
    have hp := nf_plain hq0 k
    have h1 := top_mul m hm0 (nf q k) hk
    have h2 : E q (pmul (nf q k) m) d := ((nf_E q k).mul (E.refl q m)).trans h
    have hl1 : 0 < (nf q k).length := List.length_pos_iff.2 hk
    have hl2 : 0 < m.length := List.length_pos_iff.2 hm0
    have h3 := E_cf h2 ((nf q k).length + m.length - 2)
    rw [hd _ (by omega), h1] at h3
    rcases prime_dvd hq (hp.1 _) (hm.1 _) h3 with h4 | h4
    · exact hp.2 hk h4
    · exact hm.2 hm0 h4

theorem M_unique {q : Nat} (hq : IsP q) {m r s : List Int} (hm : Plain q m) (hr : Plain q r) (hs : Plain q s) (lr : r.length < m.length) (ls : s.length < m.length) (h : M q m r s) : r = s := by
  have hm0 : m ≠ [] := by intro e; rw [e] at lr; simp at lr
  obtain ⟨k, a, ha⟩ := h
  have h1 : E q (pmul k m) (padd r (psc (-1) s)) := ⟨psc (-1) a, fun x => by simp only [ev_pmul, ev_padd, ev_psc, ha x]; grind⟩
  have h2 := div_free hq hm hm0 h1 (fun i hi => by rw [getD_padd, getD_psc, getD_over' r i (by omega), getD_over' s i (by omega)]; simp)
  refine hr.ext hs ?_
  obtain ⟨b, hb⟩ := h2
  exact ⟨padd (pmul m b) a, fun x => by simp only [ev_padd, ev_pmul, ha x, hb x, ev_nil]; grind⟩

/-- f divided by g: quotient and rest. -/
structure DivIs (q : Nat) (f g Q R : List Int) : Prop where
  eq : E q f (padd (pmul Q g) R)
  pq : Plain q Q
  pr : Plain q R
  lt : R.length < (nf q g).length
theorem DivIs.unique {q : Nat} (hq : IsP q) {f g Q R Q' R' : List Int} (h : DivIs q f g Q R) (h' : DivIs q f g Q' R') : Q = Q' ∧ R = R' := by
  have hq0 : 0 < q := by have := hq.1; omega
  have hg := nf_plain hq0 g
  have hg0 : nf q g ≠ [] := by intro e; have := h.lt; rw [e] at this; simp at this
  obtain ⟨a, ha⟩ := h.eq
  obtain ⟨b, hb⟩ := h'.eq
  obtain ⟨c, hc⟩ := nf_E q g
  have hR : R = R' := M_unique hq hg h.pr h'.pr h.lt h'.lt ⟨padd Q' (psc (-1) Q), padd (padd b (psc (-1) a)) (pmul (padd Q (psc (-1) Q')) c), fun x => by
    have h1 := ha x; have h2 := hb x; have h3 := hc x
    simp only [ev_padd, ev_pmul, ev_psc] at h1 h2 ⊢
    grind⟩
  refine ⟨?_, hR⟩
  subst hR
  have h1 : E q (pmul (padd Q (psc (-1) Q')) (nf q g)) [] := ⟨padd (padd b (psc (-1) a)) (pmul (padd Q (psc (-1) Q')) c), fun x => by
    have h1 := ha x; have h2 := hb x; have h3 := hc x
    simp only [ev_padd, ev_pmul, ev_psc, ev_nil] at h1 h2 ⊢
    grind⟩
  obtain ⟨e, he⟩ := div_free hq hg hg0 h1 (fun i _ => by simp)
  exact h.pq.ext h'.pq ⟨e, fun x => by have := he x; simp only [ev_padd, ev_psc, ev_nil] at this; grind⟩

/-- r is what is left of f, divided by m. -/
structure RestIs (q : Nat) (f m r : List Int) : Prop where
  eq : M q m f r
  pr : Plain q r
  lt : r.length < (nf q m).length
theorem M.nf {q : Nat} {m f g : List Int} (h : M q m f g) : M q (nf q m) f g := by
  obtain ⟨k, a, ha⟩ := h
  obtain ⟨c, hc⟩ := (nf_E q m).symm
  exact ⟨k, padd a (pmul c k), fun x => by have h1 := ha x; have h2 := hc x; simp only [ev_padd, ev_pmul]; rw [h1, h2]; grind⟩
theorem RestIs.unique {q : Nat} (hq : IsP q) {f f' m r r' : List Int} (h : RestIs q f m r) (h' : RestIs q f' m r') (he : M q m f f') : r = r' :=
  M_unique hq (nf_plain (by have := hq.1; omega) m) h.pr h'.pr h.lt h'.lt ((h.eq.symm.trans (he.trans h'.eq))).nf
theorem DivIs.rest {q : Nat} {f g Q R : List Int} (h : DivIs q f g Q R) : RestIs q f g R := by
  obtain ⟨a, ha⟩ := h.eq
  exact ⟨⟨Q, a, fun x => by rw [ha x, ev_padd, ev_pmul]; grind⟩, h.pr, h.lt⟩
end Go.Proofs.Ytokdcgmjpnanoaa
