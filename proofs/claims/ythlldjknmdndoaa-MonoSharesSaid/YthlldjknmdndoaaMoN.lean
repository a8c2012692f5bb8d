/- Plain mathematics of monomials: exponents in range, degrees, the four orders as the first number that is not 0 of a list. No program in it. -/
set_option linter.unusedVariables false
set_option linter.unusedSimpArgs false
namespace Go.Proofs.Ythlldjknmdndoaa

/-- The sign of a number. -/
def sgn (x : Int) : Int := if x < 0 then -1 else if 0 < x then 1 else 0
theorem sgn_neg {x : Int} (h : x < 0) : sgn x = -1 := by unfold sgn; rw [if_pos h]
theorem sgn_pos {x : Int} (h : 0 < x) : sgn x = 1 := by unfold sgn; rw [if_neg (by omega), if_pos h]
theorem sgn_zero : sgn 0 = 0 := rfl
theorem sgn_minus (x : Int) : sgn (-x) = -sgn x := by
  unfold sgn; split <;> split <;> (try split) <;> (try split) <;> omega
theorem sgn_eq_zero {x : Int} : sgn x = 0 ↔ x = 0 := by
  unfold sgn; split
  · omega
  · split <;> omega
theorem sgn_range (x : Int) : sgn x = -1 ∨ sgn x = 0 ∨ sgn x = 1 := by
  unfold sgn; split
  · exact .inl rfl
  · split
    · exact .inr (.inr rfl)
    · exact .inr (.inl rfl)

/-- The sign of the first number that is not 0. -/
def sgnL : List Int → Int
  | [] => 0
  | x :: l => if x = 0 then sgnL l else sgn x

theorem sgnL_range (l : List Int) : sgnL l = -1 ∨ sgnL l = 0 ∨ sgnL l = 1 := by
  induction l with
  | nil => exact .inr (.inl rfl)
  | cons x l ih => unfold sgnL; split; exact ih; exact sgn_range x

theorem sgnL_append (l m : List Int) : sgnL (l ++ m) = if sgnL l = 0 then sgnL m else sgnL l := by
  induction l with
  | nil => simp [sgnL]
  | cons x l ih =>
    simp only [List.cons_append, sgnL]
    by_cases h : x = 0
    · simp [h, ih]
    · simp only [h, if_false]
      rw [if_neg (fun e => h (sgn_eq_zero.1 e))]

theorem sgnL_neg (l : List Int) : sgnL (l.map (fun x => -x)) = -sgnL l := by
  induction l with
  | nil => rfl
  | cons x l ih =>
    simp only [List.map_cons, sgnL]
    by_cases h : x = 0
    · simp [h, ih]
    · rw [if_neg (by omega), if_neg h, sgn_minus]

theorem sgnL_zero {l : List Int} : sgnL l = 0 ↔ ∀ x ∈ l, x = 0 := by
  induction l with
  | nil => simp [sgnL]
  | cons x l ih =>
    simp only [sgnL]
    by_cases h : x = 0
    · simp [h, ih]
    · simp only [h, if_false, List.mem_cons, forall_eq_or_imp, false_and, iff_false]
      exact fun e => h (sgn_eq_zero.1 e)

theorem sgnL_add : ∀ (l m : List Int), l.length = m.length → sgnL l ≤ 0 → sgnL m ≤ 0 → sgnL (List.zipWith (· + ·) l m) ≤ 0
  | [], m, h, _, _ => by cases m <;> simp [sgnL] at h ⊢
  | x :: l, [], h, _, _ => by simp at h
  | x :: l, y :: m, h, h1, h2 => by
    simp only [List.zipWith_cons_cons, sgnL] at h1 h2 ⊢
    have ih := sgnL_add l m (by simpa using h)
    by_cases hx : x = 0 <;> by_cases hy : y = 0
    · rw [if_pos hx] at h1; rw [if_pos hy] at h2
      rw [if_pos (by omega)]; exact ih h1 h2
    · rw [if_neg hy] at h2
      rw [if_neg (by omega), show x + y = y by omega]; exact h2
    · rw [if_neg hx] at h1
      rw [if_neg (by omega), show x + y = x by omega]; exact h1
    · rw [if_neg hx] at h1; rw [if_neg hy] at h2
      have a : x < 0 := by
        rcases Int.lt_trichotomy x 0 with h | h | h
        · exact h
        · exact absurd h hx
        · rw [sgn_pos h] at h1; omega
      have b : y < 0 := by
        rcases Int.lt_trichotomy y 0 with h | h | h
        · exact h
        · exact absurd h hy
        · rw [sgn_pos h] at h2; omega
      rw [if_neg (by omega), sgn_neg (by omega)]; omega

theorem sgnL_nonneg {l : List Int} (h : ∀ x ∈ l, 0 ≤ x) : 0 ≤ sgnL l := by
  induction l with
  | nil => exact Int.le_refl _
  | cons x l ih =>
    simp only [sgnL]
    split
    · exact ih (fun y hy => h y (by simp [hy]))
    · have := h x (by simp)
      rw [sgn_pos (by omega)]; omega

/-- The first number that is not 0 stands at k. -/
theorem sgnL_at {l : List Int} {k : Nat} (h0 : ∀ i, i < k → l.getD i 0 = 0) (hk : l.getD k 0 ≠ 0) : sgnL l = sgn (l.getD k 0) := by
  induction l generalizing k with
  | nil => simp at hk
  | cons x l ih =>
    cases k with
    | zero =>
      simp only [List.getD_cons_zero] at hk ⊢
      simp only [sgnL]; rw [if_neg hk]
    | succ k =>
      have hx := h0 0 (by omega)
      simp only [List.getD_cons_zero] at hx
      simp only [List.getD_cons_succ] at hk ⊢
      simp only [sgnL]; rw [if_pos hx]
      exact ih (fun i hi => by have := h0 (i + 1) (by omega); simpa using this) hk

theorem sgnL_none {l : List Int} (h0 : ∀ i, i < l.length → l.getD i 0 = 0) : sgnL l = 0 := by
  rw [sgnL_zero]
  intro x hx
  obtain ⟨i, hi, rfl⟩ := List.getElem_of_mem hx
  have := h0 i hi
  rw [List.getD_eq_getElem?_getD, List.getElem?_eq_getElem hi] at this
  simpa using this

/-- By the degree, then the last that differs is the smaller one. -/
def keyG (d : List Int) : List Int := d.sum :: d.reverse.map (fun x => -x)
/-- The numbers whose first that is not 0 tells which of two monomials is the greater one; d: the differences of their exponents. -/
def key (o : Int) (f : Nat) (d : List Int) : List Int := if o = 0 then d else if o = 1 then d.sum :: d else if o = 2 then keyG d else keyG (d.take f) ++ keyG (d.drop f)

theorem sum_neg (l : List Int) : (l.map (fun x => -x)).sum = -l.sum := by
  induction l with
  | nil => rfl
  | cons x l ih => simp only [List.map_cons, List.sum_cons, ih]; omega
theorem sum_zip : ∀ (l m : List Int), l.length = m.length → (List.zipWith (· + ·) l m).sum = l.sum + m.sum
  | [], m, h => by cases m <;> simp at h ⊢
  | x :: l, [], h => by simp at h
  | x :: l, y :: m, h => by
    simp only [List.zipWith_cons_cons, List.sum_cons, sum_zip l m (by simpa using h)]; omega
theorem sum_sub : ∀ (l m : List Int), l.length = m.length → (List.zipWith (· - ·) l m).sum = l.sum - m.sum
  | [], m, h => by cases m <;> simp at h ⊢
  | x :: l, [], h => by simp at h
  | x :: l, y :: m, h => by
    simp only [List.zipWith_cons_cons, List.sum_cons, sum_sub l m (by simpa using h)]; omega
theorem zip_map_neg : ∀ (l m : List Int), List.zipWith (· + ·) (l.map (fun x => -x)) (m.map (fun x => -x)) = (List.zipWith (· + ·) l m).map (fun x => -x)
  | [], m => by simp
  | x :: l, [] => by simp
  | x :: l, y :: m => by
    simp only [List.map_cons, List.zipWith_cons_cons, zip_map_neg l m]
    congr 1; omega
theorem zip_swap : ∀ (l m : List Int), List.zipWith (· - ·) m l = (List.zipWith (· - ·) l m).map (fun x => -x)
  | [], m => by simp
  | x :: l, [] => by simp
  | x :: l, y :: m => by
    simp only [List.map_cons, List.zipWith_cons_cons, zip_swap l m]
    congr 1; omega
theorem zip_chain : ∀ (a b c : List Int), a.length = b.length → b.length = c.length → List.zipWith (· - ·) a c = List.zipWith (· + ·) (List.zipWith (· - ·) a b) (List.zipWith (· - ·) b c)
  | [], b, c, h, h2 => by simp
  | x :: a, [], c, h, h2 => by simp at h
  | x :: a, y :: b, [], h, h2 => by simp at h2
  | x :: a, y :: b, z :: c, h, h2 => by
    simp only [List.zipWith_cons_cons, zip_chain a b c (by simpa using h) (by simpa using h2)]
    congr 1; omega
theorem zip_shift : ∀ (a b c : List Int), a.length = c.length → b.length = c.length → List.zipWith (· - ·) (List.zipWith (· + ·) a c) (List.zipWith (· + ·) b c) = List.zipWith (· - ·) a b
  | [], b, c, h, h2 => by simp
  | x :: a, [], c, h, h2 => by cases c <;> simp at h h2 ⊢
  | x :: a, y :: b, [], h, h2 => by simp at h2
  | x :: a, y :: b, z :: c, h, h2 => by
    simp only [List.zipWith_cons_cons, zip_shift a b c (by simpa using h) (by simpa using h2)]
    congr 1; omega
theorem zip_same : ∀ (a b : List Int), a.length = b.length → ((∀ x ∈ List.zipWith (· - ·) a b, x = 0) ↔ a = b)
  | [], [], h => by simp
  | [], y :: b, h => by simp at h
  | x :: a, [], h => by simp at h
  | x :: a, y :: b, h => by
    have ih := zip_same a b (by simpa using h)
    simp only [List.zipWith_cons_cons, List.mem_cons, forall_eq_or_imp, ih, List.cons.injEq]
    constructor
    · rintro ⟨h1, h2⟩; exact ⟨by omega, h2⟩
    · rintro ⟨h1, h2⟩; exact ⟨by omega, h2⟩
theorem zip_zero (n : Nat) : ∀ (a : List Int), a.length = n → List.zipWith (· - ·) (List.replicate n 0) a = a.map (fun x => -x) := by
  induction n with
  | zero => intro a h; have : a = [] := List.length_eq_zero_iff.1 h; subst this; rfl
  | succ n ih =>
    intro a h
    match a, h with
    | x :: a, h =>
      simp only [List.replicate_succ, List.zipWith_cons_cons, List.map_cons, ih a (by simpa using h)]
      congr 1; omega
theorem zip_getD (a b : List Int) (i : Nat) (h1 : i < a.length) (h2 : i < b.length) : (List.zipWith (· - ·) a b).getD i 0 = a.getD i 0 - b.getD i 0 := by
  simp only [List.getD_eq_getElem?_getD, List.getElem?_zipWith, List.getElem?_eq_getElem h1, List.getElem?_eq_getElem h2, Option.getD_some]

theorem keyG_neg (d : List Int) : keyG (d.map (fun x => -x)) = (keyG d).map (fun x => -x) := by
  unfold keyG
  simp only [List.map_cons, sum_neg, List.map_reverse]
theorem key_neg (o : Int) (f : Nat) (d : List Int) : key o f (d.map (fun x => -x)) = (key o f d).map (fun x => -x) := by
  unfold key
  split
  · rfl
  · split
    · simp only [List.map_cons, sum_neg]
    · split
      · exact keyG_neg d
      · rw [← List.map_take, ← List.map_drop, keyG_neg, keyG_neg, List.map_append]
theorem keyG_len (d : List Int) : (keyG d).length = d.length + 1 := by simp [keyG]
theorem keyG_add (l m : List Int) (h : l.length = m.length) : keyG (List.zipWith (· + ·) l m) = List.zipWith (· + ·) (keyG l) (keyG m) := by
  unfold keyG
  simp only [List.zipWith_cons_cons, sum_zip l m h]
  congr 1
  rw [zip_map_neg, List.reverse_zipWith h]
theorem key_len (o : Int) (f : Nat) (l m : List Int) (h : l.length = m.length) : (key o f l).length = (key o f m).length := by
  unfold key
  split
  · exact h
  · split
    · simp [h]
    · split
      · simp [keyG_len, h]
      · simp [keyG_len, h]
theorem key_add (o : Int) (f : Nat) (l m : List Int) (h : l.length = m.length) : key o f (List.zipWith (· + ·) l m) = List.zipWith (· + ·) (key o f l) (key o f m) := by
  unfold key
  split
  · rfl
  · split
    · simp only [List.zipWith_cons_cons, sum_zip l m h]
    · split
      · exact keyG_add l m h
      · rw [List.zipWith_append (by simp [keyG_len, h]), ← keyG_add _ _ (by simp [h]), ← keyG_add _ _ (by simp [h]), List.take_zipWith, List.drop_zipWith]

theorem sum_zero {l : List Int} (h : ∀ x ∈ l, x = 0) : l.sum = 0 := by
  induction l with
  | nil => rfl
  | cons x l ih => rw [List.sum_cons, h x (by simp), ih (fun y hy => h y (by simp [hy]))]; rfl
theorem keyG_zero (d : List Int) : (∀ x ∈ keyG d, x = 0) ↔ ∀ x ∈ d, x = 0 := by
  unfold keyG
  constructor
  · intro h x hx
    have := h (-x) (by simp [hx])
    omega
  · intro h x hx
    simp only [List.mem_cons, List.mem_map, List.mem_reverse] at hx
    rcases hx with rfl | ⟨y, hy, rfl⟩
    · exact sum_zero h
    · rw [h y hy]; rfl
theorem key_zero (o : Int) (f : Nat) (d : List Int) : (∀ x ∈ key o f d, x = 0) ↔ ∀ x ∈ d, x = 0 := by
  unfold key
  split
  · rfl
  · split
    · constructor
      · intro h x hx; exact h x (by simp [hx])
      · intro h x hx
        simp only [List.mem_cons] at hx
        rcases hx with rfl | hx
        · exact sum_zero h
        · exact h x hx
    · split
      · exact keyG_zero d
      · have e : (∀ x ∈ d, x = 0) ↔ (∀ x ∈ d.take f, x = 0) ∧ ∀ x ∈ d.drop f, x = 0 := by
          conv => lhs; rw [← List.take_append_drop f d]
          simp only [List.mem_append]
          exact ⟨fun h => ⟨fun x hx => h x (.inl hx), fun x hx => h x (.inr hx)⟩, fun h x hx => hx.elim (h.1 x) (h.2 x)⟩
        rw [e, ← keyG_zero (d.take f), ← keyG_zero (d.drop f)]
        simp only [List.mem_append]
        exact ⟨fun h => ⟨fun x hx => h x (.inl hx), fun x hx => h x (.inr hx)⟩, fun h x hx => hx.elim (h.1 x) (h.2 x)⟩

theorem sum_nonneg {l : List Int} (h : ∀ x ∈ l, 0 ≤ x) : 0 ≤ l.sum := by
  induction l with
  | nil => exact Int.le_refl _
  | cons x l ih =>
    have := ih (fun y hy => h y (by simp [hy])); have := h x (by simp)
    rw [List.sum_cons]; omega
theorem sum_nonneg_zero {l : List Int} (h : ∀ x ∈ l, 0 ≤ x) (h0 : l.sum = 0) : ∀ x ∈ l, x = 0 := by
  induction l with
  | nil => intro x hx; cases hx
  | cons x l ih =>
    rw [List.sum_cons] at h0
    have h1 := sum_nonneg (l := l) (fun y hy => h y (by simp [hy])); have h2 := h x (by simp)
    intro y hy
    rcases List.mem_cons.1 hy with rfl | hy
    · omega
    · exact ih (fun y hy => h y (by simp [hy])) (by omega) y hy
theorem keyG_nonneg {d : List Int} (h : ∀ x ∈ d, 0 ≤ x) : 0 ≤ sgnL (keyG d) := by
  have h1 := sum_nonneg h
  unfold keyG
  simp only [sgnL]
  split
  · rename_i h0
    have hz := sum_nonneg_zero h h0
    have : sgnL (List.map (fun x => -x) d.reverse) = 0 := by
      rw [sgnL_zero]
      intro x hx
      simp only [List.mem_map, List.mem_reverse] at hx
      obtain ⟨y, hy, rfl⟩ := hx
      rw [hz y hy]; rfl
    omega
  · rw [sgn_pos (by omega)]; omega
theorem key_nonneg (o : Int) (f : Nat) {d : List Int} (h : ∀ x ∈ d, 0 ≤ x) : 0 ≤ sgnL (key o f d) := by
  unfold key
  split
  · exact sgnL_nonneg h
  · split
    · exact sgnL_nonneg (fun x hx => by
        rcases List.mem_cons.1 hx with rfl | hx
        · exact sum_nonneg h
        · exact h x hx)
    · split
      · exact keyG_nonneg h
      · rw [sgnL_append]
        have h1 := keyG_nonneg (d := d.take f) (fun x hx => h x (List.mem_of_mem_take hx))
        have h2 := keyG_nonneg (d := d.drop f) (fun x hx => h x (List.mem_of_mem_drop hx))
        split <;> assumption

/-- How two monomials compare. -/
def cmpL (o : Int) (f : Nat) (a b : List Int) : Int := sgnL (key o f (List.zipWith (· - ·) a b))

theorem cmpL_range (o : Int) (f : Nat) (a b : List Int) : cmpL o f a b = -1 ∨ cmpL o f a b = 0 ∨ cmpL o f a b = 1 := sgnL_range _
theorem cmpL_swap (o : Int) (f : Nat) (a b : List Int) : cmpL o f b a = -cmpL o f a b := by
  unfold cmpL; rw [zip_swap a b, key_neg, sgnL_neg]
theorem cmpL_zero (o : Int) (f : Nat) {a b : List Int} (h : a.length = b.length) : cmpL o f a b = 0 ↔ a = b := by
  unfold cmpL; rw [sgnL_zero, key_zero, zip_same a b h]
theorem cmpL_trans (o : Int) (f : Nat) {a b c : List Int} (h : a.length = b.length) (h' : b.length = c.length) (h1 : cmpL o f a b ≤ 0) (h2 : cmpL o f b c ≤ 0) : cmpL o f a c ≤ 0 := by
  unfold cmpL at *
  rw [zip_chain a b c h h', key_add _ _ _ _ (by simp [h, h'])]
  exact sgnL_add _ _ (key_len _ _ _ _ (by simp [h, h'])) h1 h2
theorem cmpL_one (o : Int) (f : Nat) {a : List Int} (h : ∀ x ∈ a, 0 ≤ x) : cmpL o f (List.replicate a.length 0) a ≤ 0 := by
  unfold cmpL
  rw [zip_zero _ a rfl, key_neg, sgnL_neg]
  have := key_nonneg o f h
  omega
theorem cmpL_mul (o : Int) (f : Nat) {a b c : List Int} (h : a.length = c.length) (h' : b.length = c.length) : cmpL o f (List.zipWith (· + ·) a c) (List.zipWith (· + ·) b c) = cmpL o f a b := by
  unfold cmpL; rw [zip_shift a b c h h']
theorem cmpL_degree {o : Int} (ho : o = 1 ∨ o = 2) (f : Nat) {a b : List Int} (h : a.length = b.length) (hd : a.sum < b.sum) : cmpL o f a b = -1 := by
  have hs := sum_sub a b h
  unfold cmpL key
  rcases ho with rfl | rfl
  · simp only [show ¬ ((1 : Int) = 0) by decide, if_false, if_true, sgnL]
    rw [if_neg (by omega), sgn_neg (by omega)]
  · simp only [show ¬ ((2 : Int) = 0) by decide, show ¬ ((2 : Int) = 1) by decide, if_false, if_true, keyG, sgnL]
    rw [if_neg (by omega), sgn_neg (by omega)]
theorem cmpL_single (a b : Int) : cmpL 0 0 [a] [b] = cmpL 2 0 [a] [b] := by
  unfold cmpL key
  simp only [show ¬ ((2 : Int) = 0) by decide, show ¬ ((2 : Int) = 1) by decide, if_false, if_true, keyG, sgnL, List.zipWith_cons_cons, List.zipWith_nil_left, List.reverse_cons, List.reverse_nil, List.nil_append, List.map_cons, List.map_nil, List.sum_cons, List.sum_nil]
  by_cases h : a - b = 0
  · simp [h]
  · have h1 : ¬ a - b + 0 = 0 := by omega
    have h2 : a - b + 0 = a - b := by omega
    simp only [h, h1, if_false, h2]

/-- What the loops find: the first that differs, or none. -/
theorem lex_at {a b : List Int} {k : Nat} (hl : a.length = b.length) (hk : k < a.length) (h0 : ∀ i, i < k → a.getD i 0 = b.getD i 0) (hd : a.getD k 0 ≠ b.getD k 0) : sgnL (List.zipWith (· - ·) a b) = sgn (a.getD k 0 - b.getD k 0) := by
  rw [← zip_getD a b k hk (by omega)]
  refine sgnL_at (fun i hi => ?_) ?_
  · rw [zip_getD a b i (by omega) (by omega), h0 i hi]; omega
  · rw [zip_getD a b k hk (by omega)]; omega
theorem lex_none {a b : List Int} (hl : a.length = b.length) (h0 : ∀ i, i < a.length → a.getD i 0 = b.getD i 0) : sgnL (List.zipWith (· - ·) a b) = 0 :=
  sgnL_none fun i hi => by
    simp only [List.length_zipWith] at hi
    rw [zip_getD a b i (by omega) (by omega), h0 i (by omega)]; omega
theorem rev_getD (d : List Int) (i : Nat) (h : i < d.length) : (d.reverse.map (fun x => -x)).getD i 0 = -(d.getD (d.length - 1 - i) 0) := by
  rw [List.getD_eq_getElem?_getD, List.getElem?_map, List.getElem?_reverse h, List.getD_eq_getElem?_getD, List.getElem?_eq_getElem (by omega)]; rfl
theorem last_at {a b : List Int} {k : Nat} (hl : a.length = b.length) (hk : k < a.length) (h0 : ∀ i, k < i → i < a.length → a.getD i 0 = b.getD i 0) (hd : a.getD k 0 ≠ b.getD k 0) : sgnL ((List.zipWith (· - ·) a b).reverse.map (fun x => -x)) = sgn (b.getD k 0 - a.getD k 0) := by
  have hn : (List.zipWith (· - ·) a b).length = a.length := by simp [hl]
  have e : ∀ i, i < a.length → ((List.zipWith (· - ·) a b).reverse.map (fun x => -x)).getD i 0 = b.getD (a.length - 1 - i) 0 - a.getD (a.length - 1 - i) 0 := fun i hi => by
    rw [rev_getD _ i (by omega), hn, zip_getD a b _ (by omega) (by omega)]; omega
  have e2 : a.length - 1 - (a.length - 1 - k) = k := by omega
  have := sgnL_at (l := (List.zipWith (· - ·) a b).reverse.map (fun x => -x)) (k := a.length - 1 - k) (fun i hi => by rw [e i (by omega), h0 _ (by omega) (by omega)]; omega) (by rw [e _ (by omega), e2]; omega)
  rw [this, e _ (by omega), e2]
theorem last_none {a b : List Int} (hl : a.length = b.length) (h0 : ∀ i, i < a.length → a.getD i 0 = b.getD i 0) : sgnL ((List.zipWith (· - ·) a b).reverse.map (fun x => -x)) = 0 := by
  refine sgnL_none fun i hi => ?_
  simp only [List.length_map, List.length_reverse, List.length_zipWith] at hi
  have hn : (List.zipWith (· - ·) a b).length = a.length := by simp [hl]
  rw [rev_getD _ i (by omega), hn, zip_getD a b _ (by omega) (by omega), h0 _ (by omega)]; omega

/-- Exponents from 0 to 2^16. -/
def mayB (l : List Int) : Bool := l.all (fun x => decide (0 ≤ x ∧ x ≤ 65536))
theorem mayB_iff {l : List Int} : mayB l = true ↔ ∀ x ∈ l, 0 ≤ x ∧ x ≤ 65536 := by simp [mayB, List.all_eq_true]
theorem mayB_getD {l : List Int} : mayB l = true ↔ ∀ i, i < l.length → 0 ≤ l.getD i 0 ∧ l.getD i 0 ≤ 65536 := by
  rw [mayB_iff]
  constructor
  · intro h i hi
    rw [List.getD_eq_getElem?_getD, List.getElem?_eq_getElem hi]
    exact h _ (List.getElem_mem hi)
  · intro h x hx
    obtain ⟨i, hi, rfl⟩ := List.getElem_of_mem hx
    have := h i hi
    rw [List.getD_eq_getElem?_getD, List.getElem?_eq_getElem hi] at this
    exact this
theorem mayB_not {l : List Int} {k : Nat} (hk : k < l.length) (h : l.getD k 0 < 0 ∨ 65536 < l.getD k 0) : mayB l = false := by
  cases e : mayB l with
  | false => rfl
  | true => have := mayB_getD.1 e k hk; omega
theorem mayB_take {l : List Int} (h : mayB l = true) (n : Nat) : mayB (l.take n) = true := mayB_iff.2 fun x hx => mayB_iff.1 h x (List.mem_of_mem_take hx)
theorem mayB_drop {l : List Int} (h : mayB l = true) (n : Nat) : mayB (l.drop n) = true := mayB_iff.2 fun x hx => mayB_iff.1 h x (List.mem_of_mem_drop hx)
/-- The degree. -/
def degL (l : List Int) : Int := if mayB l = true then l.sum else 0

theorem sum_take_succ (l : List Int) (k : Nat) (h : k < l.length) : (l.take (k + 1)).sum = (l.take k).sum + l.getD k 0 := by
  rw [List.take_add_one, List.sum_append, List.getElem?_eq_getElem h, List.getD_eq_getElem?_getD, List.getElem?_eq_getElem h]
  simp
theorem sum_le {l : List Int} (h : mayB l = true) : 0 ≤ l.sum ∧ l.sum ≤ 65536 * (l.length : Int) := by
  rw [mayB_iff] at h
  induction l with
  | nil => simp
  | cons x l ih =>
    have h1 := ih (fun y hy => h y (by simp [hy])); have h2 := h x (by simp)
    rw [List.sum_cons, List.length_cons]; omega
theorem sum_take_le {l : List Int} (h : mayB l = true) (k : Nat) : 0 ≤ (l.take k).sum ∧ (l.take k).sum ≤ 65536 * (l.length : Int) := by
  have := sum_le (mayB_take h k)
  have e : (l.take k).length ≤ l.length := by simp; omega
  omega
theorem degL_range {l : List Int} (hl : l.length ≤ 70368744177664) : 0 ≤ degL l ∧ degL l ≤ 4611686018427387904 := by
  unfold degL
  split
  · rename_i h
    have := sum_le h
    omega
  · omega
end Go.Proofs.Ythlldjknmdndoaa
