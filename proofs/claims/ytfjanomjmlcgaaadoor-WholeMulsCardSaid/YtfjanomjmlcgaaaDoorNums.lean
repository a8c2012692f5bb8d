/- Plain mathematics of lists of limbs of 32 bits: the number that a list represents, the plain list of a number. No program in it. -/
set_option linter.unusedVariables false
set_option linter.unusedSimpArgs false
namespace Go.Proofs.YtfjanomjmlcgaaaDoor

/-- The number that a list of limbs represents, the lowest first. -/
def val : List Nat → Nat
  | [] => 0
  | x :: l => x + 4294967296 * val l

def limbsF : Nat → Nat → List Nat
  | 0, _ => []
  | f + 1, n => if n = 0 then [] else n % 4294967296 :: limbsF f (n / 4294967296)

/-- The plain list of a number. -/
def limbs (n : Nat) : List Nat := limbsF n n

/-- Each is a limb. -/
def Ok (l : List Nat) : Prop := ∀ x ∈ l, x < 4294967296

theorem limbsF_eq (f n : Nat) (h : n ≤ f) : limbsF f n = limbs n := by
  suffices H : ∀ f g n, n ≤ f → n ≤ g → limbsF f n = limbsF g n from H f n n h (Nat.le_refl _)
  intro f
  induction f with
  | zero => intro g n h1 _; have : n = 0 := by omega
            subst this; cases g <;> simp [limbsF]
  | succ f ih =>
    intro g n h1 h2
    cases g with
    | zero => have : n = 0 := by omega
              subst this; simp [limbsF]
    | succ g =>
      by_cases e : n = 0
      · simp [limbsF, e]
      · simp only [limbsF, e, if_false]
        rw [ih g (n / 4294967296) (by omega) (by omega)]

theorem limbs_zero : limbs 0 = [] := rfl

theorem limbs_pos {n : Nat} (h : 0 < n) : limbs n = n % 4294967296 :: limbs (n / 4294967296) := by
  obtain ⟨m, rfl⟩ : ∃ m, n = m + 1 := ⟨n - 1, by omega⟩
  show limbsF (m + 1) (m + 1) = _
  simp only [limbsF]
  rw [if_neg (by omega), limbsF_eq m _ (by omega)]

theorem val_nil : val [] = 0 := rfl
theorem val_cons (x : Nat) (l : List Nat) : val (x :: l) = x + 4294967296 * val l := rfl

theorem val_limbs (n : Nat) : val (limbs n) = n := by
  induction n using Nat.strongRecOn with
  | _ n ih =>
    by_cases h : n = 0
    · subst h; rfl
    · rw [limbs_pos (by omega), val_cons, ih _ (by omega)]; omega

theorem Ok.nil : Ok [] := by intro x h; cases h
theorem Ok.cons {x : Nat} {l : List Nat} (hx : x < 4294967296) (h : Ok l) : Ok (x :: l) := by
  intro y hy
  cases hy with
  | head => exact hx
  | tail _ hy => exact h y hy
theorem Ok.head {x : Nat} {l : List Nat} (h : Ok (x :: l)) : x < 4294967296 := h x (List.mem_cons_self ..)
theorem Ok.tail {x : Nat} {l : List Nat} (h : Ok (x :: l)) : Ok l := fun y hy => h y (List.mem_cons_of_mem _ hy)
theorem Ok.take {l : List Nat} (h : Ok l) (n : Nat) : Ok (l.take n) := fun y hy => h y (List.mem_of_mem_take hy)
theorem Ok.drop {l : List Nat} (h : Ok l) (n : Nat) : Ok (l.drop n) := fun y hy => h y (List.mem_of_mem_drop hy)
theorem Ok.append {l m : List Nat} (h : Ok l) (k : Ok m) : Ok (l ++ m) := by
  intro y hy
  rcases List.mem_append.1 hy with hy | hy
  · exact h y hy
  · exact k y hy
theorem Ok.replicate (n : Nat) : Ok (List.replicate n 0) := by
  intro y hy
  rw [List.eq_of_mem_replicate hy]; decide
theorem Ok.set {l : List Nat} (h : Ok l) (i x : Nat) (hx : x < 4294967296) : Ok (l.set i x) := by
  intro y hy
  rcases List.mem_or_eq_of_mem_set hy with hy | rfl
  · exact h y hy
  · exact hx
theorem Ok.getD {l : List Nat} (h : Ok l) (i : Nat) : l.getD i 0 < 4294967296 := by
  rw [List.getD_eq_getElem?_getD]
  cases e : l[i]? with
  | none => decide
  | some x => exact h x (List.mem_of_getElem? e)

theorem limbs_ok (n : Nat) : Ok (limbs n) := by
  induction n using Nat.strongRecOn with
  | _ n ih =>
    by_cases h : n = 0
    · subst h; exact Ok.nil
    · rw [limbs_pos (by omega)]; exact Ok.cons (by omega) (ih _ (by omega))

theorem val_append (l m : List Nat) : val (l ++ m) = val l + 4294967296 ^ l.length * val m := by
  induction l with
  | nil => simp [val_nil]
  | cons x l ih => simp only [List.cons_append, val_cons, List.length_cons, ih, Nat.pow_succ]; grind

theorem val_lt {l : List Nat} (h : Ok l) : val l < 4294967296 ^ l.length := by
  induction l with
  | nil => simp [val_nil]
  | cons x l ih =>
    have h1 := h.head
    have h2 := ih h.tail
    simp only [val_cons, List.length_cons, Nat.pow_succ]
    omega

theorem val_take_succ (l : List Nat) (k : Nat) (h : k < l.length) : val (l.take (k + 1)) = val (l.take k) + 4294967296 ^ k * l.getD k 0 := by
  rw [List.take_succ_eq_append_getElem h, val_append, val_cons, val_nil, List.length_take, Nat.min_eq_left (by omega)]
  simp [h]

theorem val_split (l : List Nat) (n : Nat) (h : n ≤ l.length) : val l = val (l.take n) + 4294967296 ^ n * val (l.drop n) := by
  have := val_append (l.take n) (l.drop n)
  rwa [List.take_append_drop, List.length_take, Nat.min_eq_left h] at this

theorem val_drop (l : List Nat) (n : Nat) (h : n < l.length) : val (l.drop n) = l.getD n 0 + 4294967296 * val (l.drop (n + 1)) := by
  rw [List.drop_eq_getElem_cons h, val_cons]
  simp [h]

theorem val_zeros (l : List Nat) (h : ∀ i, i < l.length → l.getD i 0 = 0) : val l = 0 := by
  induction l with
  | nil => rfl
  | cons x l ih =>
    have h0 := h 0 (by simp)
    simp at h0
    rw [val_cons, h0, ih (fun i hi => by have := h (i + 1) (by simpa using hi); simpa using this)]

theorem val_replicate (n : Nat) : val (List.replicate n 0) = 0 := by
  induction n with
  | zero => rfl
  | succ n ih => rw [List.replicate_succ, val_cons, ih]

/-- A list without leading zero limbs is the plain list of its number. -/
theorem limbs_val_of_last {l : List Nat} (hl : Ok l) (h : 0 < l.length → l.getD (l.length - 1) 0 ≠ 0) : limbs (val l) = l := by
  induction l with
  | nil => rfl
  | cons x l ih =>
    have hx := hl.head
    have hpos : 0 < val (x :: l) := by
      cases l with
      | nil => have := h (by simp); simp [val_cons, val_nil] at *; omega
      | cons y t =>
        rw [val_cons]
        have := ih hl.tail (fun _ => by have := h (by simp); simpa using this)
        by_cases e : val (y :: t) = 0
        · rw [e] at this; cases this
        · omega
    rw [limbs_pos hpos, val_cons]
    have e1 : (x + 4294967296 * val l) % 4294967296 = x := by omega
    have e2 : (x + 4294967296 * val l) / 4294967296 = val l := by omega
    rw [e1, e2, ih hl.tail]
    intro hlen
    have := h (by simp)
    cases l with
    | nil => simp at hlen
    | cons y t => simpa using this

/-- What 'trim' finds. -/
theorem limbs_val_take {l : List Nat} (hl : Ok l) (n : Nat) (hn : n ≤ l.length) (hz : ∀ i, n ≤ i → i < l.length → l.getD i 0 = 0) (h : 0 < n → l.getD (n - 1) 0 ≠ 0) : limbs (val l) = l.take n := by
  have hv : val l = val (l.take n) := by
    rw [val_split l n hn, val_zeros (l.drop n) (fun i hi => by
      have := hz (n + i) (by omega) (by simp at hi; omega)
      simpa [List.getD_eq_getElem?_getD, List.getElem?_drop] using this)]
    simp
  rw [hv]
  refine limbs_val_of_last (hl.take n) fun hp => ?_
  rw [List.length_take, Nat.min_eq_left hn] at hp ⊢
  have := h hp
  rw [List.getD_eq_getElem?_getD] at this ⊢
  rwa [List.getElem?_take_of_lt (by omega)]

theorem exists_trim (l : List Nat) : ∃ n, n ≤ l.length ∧ (∀ i, n ≤ i → i < l.length → l.getD i 0 = 0) ∧ (0 < n → l.getD (n - 1) 0 ≠ 0) := by
  suffices H : ∀ m, m ≤ l.length → (∀ i, m ≤ i → i < l.length → l.getD i 0 = 0) → ∃ n, n ≤ l.length ∧ (∀ i, n ≤ i → i < l.length → l.getD i 0 = 0) ∧ (0 < n → l.getD (n - 1) 0 ≠ 0) from H l.length (Nat.le_refl _) (fun i h1 h2 => absurd h1 (by omega))
  intro m
  induction m with
  | zero => intro h1 h2; exact ⟨0, by omega, h2, fun h => absurd h (by omega)⟩
  | succ m ih =>
    intro h1 h2
    by_cases e : l.getD m 0 = 0
    · refine ih (by omega) fun i hi hi' => ?_
      by_cases e' : i = m
      · rw [e']; exact e
      · exact h2 i (by omega) hi'
    · exact ⟨m + 1, h1, h2, fun _ => by simpa using e⟩

/-- The plain list is the list without what is 0 at its end. -/
theorem limbs_prefix {l : List Nat} (h : Ok l) : limbs (val l) = l.take (limbs (val l)).length ∧ (limbs (val l)).length ≤ l.length := by
  obtain ⟨n, h1, h2, h3⟩ := exists_trim l
  have e := limbs_val_take h n h1 h2 h3
  have hl : (limbs (val l)).length = n := by rw [e]; simp; omega
  rw [hl]
  exact ⟨e, h1⟩

theorem limbs_length_le {n k : Nat} (h : n < 4294967296 ^ k) : (limbs n).length ≤ k := by
  induction k generalizing n with
  | zero => have : n = 0 := by simpa using h
            subst this; simp [limbs_zero]
  | succ k ih =>
    by_cases e : n = 0
    · subst e; simp [limbs_zero]
    · rw [limbs_pos (by omega), List.length_cons]
      have : n / 4294967296 < 4294967296 ^ k := by
        rw [Nat.pow_succ] at h
        exact Nat.div_lt_of_lt_mul (by omega)
      have := ih this
      omega

theorem lt_pow_length (n : Nat) : n < 4294967296 ^ (limbs n).length := by
  have := val_lt (limbs_ok n)
  rwa [val_limbs] at this

/-- The highest limb of a plain list is not 0. -/
theorem limbs_last {n : Nat} (h : 0 < n) : 0 < (limbs n).length ∧ (limbs n).getD ((limbs n).length - 1) 0 ≠ 0 := by
  induction n using Nat.strongRecOn with
  | _ n ih =>
    rw [limbs_pos h]
    refine ⟨by simp, ?_⟩
    by_cases e : n / 4294967296 = 0
    · rw [e, limbs_zero]; simp; omega
    · have := ih (n / 4294967296) (by omega) (by omega)
      obtain ⟨h1, h2⟩ := this
      simp only [List.length_cons, Nat.add_sub_cancel]
      obtain ⟨m, hm⟩ : ∃ m, (limbs (n / 4294967296)).length = m + 1 := ⟨(limbs (n / 4294967296)).length - 1, by omega⟩
      rw [hm] at h2 ⊢
      simpa using h2

theorem pow_le_of_length {n k : Nat} (h : (limbs n).length = k + 1) : 4294967296 ^ k ≤ n := by
  rcases Nat.lt_or_ge n (4294967296 ^ k) with h1 | h1
  · have := limbs_length_le h1; omega
  · exact h1

theorem limbs_length_lt {m n : Nat} (h : (limbs m).length < (limbs n).length) : m < n := by
  obtain ⟨k, hk⟩ : ∃ k, (limbs n).length = k + 1 := ⟨(limbs n).length - 1, by omega⟩
  have h1 := pow_le_of_length hk
  have h2 := lt_pow_length m
  have h3 : 4294967296 ^ (limbs m).length ≤ 4294967296 ^ k := Nat.pow_le_pow_right (by decide) (by omega)
  omega

theorem limbs_inj {m n : Nat} (h : limbs m = limbs n) : m = n := by
  have := congrArg val h
  rwa [val_limbs, val_limbs] at this

theorem limbs_nil_iff {n : Nat} : limbs n = [] ↔ n = 0 := by
  constructor
  · intro h; exact limbs_inj (h.trans limbs_zero.symm)
  · rintro rfl; rfl

/-- Comparing from the top. -/
theorem val_lt_of_top {a b : List Nat} (ha : Ok a) (hb : Ok b) (n : Nat) (hl : a.length = b.length) (hn : n < a.length) (he : a.drop (n + 1) = b.drop (n + 1)) (h : a.getD n 0 < b.getD n 0) : val a < val b := by
  rw [val_split a n (by omega), val_split b n (by omega), val_drop a n hn, val_drop b n (by omega), he]
  have h1 := val_lt (ha.take n)
  have h2 := val_lt (hb.take n)
  rw [List.length_take, Nat.min_eq_left (by omega)] at h1 h2
  generalize val (a.take n) = x at *
  generalize val (b.take n) = y at *
  generalize val (List.drop (n + 1) b) = z at *
  generalize a.getD n 0 = u at *
  generalize b.getD n 0 = v at *
  generalize 4294967296 ^ n = p at *
  have : p * (u + 1) ≤ p * v := Nat.mul_le_mul_left p (by omega)
  have e1 : p * (u + 4294967296 * z) = p * u + p * (4294967296 * z) := Nat.mul_add ..
  have e2 : p * (v + 4294967296 * z) = p * v + p * (4294967296 * z) := Nat.mul_add ..
  have e3 : p * (u + 1) = p * u + p := Nat.mul_succ ..
  omega

/-- The number of so many limbs, told by their index. -/
def valF (f : Nat → Nat) : Nat → Nat
  | 0 => 0
  | n + 1 => valF f n + 4294967296 ^ n * f n

theorem val_take_valF (l : List Nat) (n : Nat) : val (l.take n) = valF (fun i => l.getD i 0) n := by
  induction n with
  | zero => simp [val_nil, valF]
  | succ n ih =>
    by_cases h : n < l.length
    · rw [val_take_succ l n h, ih]; rfl
    · rw [List.take_of_length_le (by omega)]
      rw [List.take_of_length_le (by omega)] at ih
      rw [ih]
      have : l.getD n 0 = 0 := by rw [List.getD_eq_getElem?_getD, List.getElem?_eq_none (by omega)]; rfl
      simp only [valF, this, Nat.mul_zero, Nat.add_zero]

theorem val_valF (l : List Nat) (n : Nat) (h : l.length ≤ n) : val l = valF (fun i => l.getD i 0) n := by
  rw [← val_take_valF, List.take_of_length_le h]

theorem valF_lt (f : Nat → Nat) (n : Nat) (h : ∀ i, i < n → f i < 4294967296) : valF f n < 4294967296 ^ n := by
  induction n with
  | zero => simp [valF]
  | succ n ih =>
    have h1 := ih (fun i hi => h i (by omega))
    have h2 : 4294967296 ^ n * (f n + 1) ≤ 4294967296 ^ n * 4294967296 := Nat.mul_le_mul_left _ (h n (by omega))
    rw [Nat.mul_add] at h2
    simp only [valF, Nat.pow_succ]
    omega

theorem valF_congr (f g : Nat → Nat) (n : Nat) (h : ∀ i, i < n → f i = g i) : valF f n = valF g n := by
  induction n with
  | zero => rfl
  | succ n ih => simp only [valF]; rw [ih (fun i hi => h i (by omega)), h n (by omega)]

theorem valF_cmp (f g : Nat → Nat) (n k : Nat) (hk : k < n) (hf : ∀ i, i < n → f i < 4294967296) (he : ∀ i, k < i → i < n → f i = g i) (h : f k < g k) : valF f n < valF g n := by
  induction n with
  | zero => omega
  | succ n ih =>
    simp only [valF]
    by_cases e : k = n
    · subst e
      have h1 := valF_lt f k (fun i hi => hf i (by omega))
      have h2 : 4294967296 ^ k * (f k + 1) ≤ 4294967296 ^ k * g k := Nat.mul_le_mul_left _ h
      rw [Nat.mul_add] at h2
      omega
    · have := ih (by omega) (fun i hi => hf i (by omega)) (fun i h1 h2 => he i h1 (by omega))
      rw [he n (by omega) (by omega)]
      omega

/-! ### A part of a list that is written in place -/
/-- The number of n limbs from place o on. -/
def seg (s : List Nat) (o n : Nat) : Nat := valF (fun i => s.getD (o + i) 0) n
theorem seg_zero (s : List Nat) (o : Nat) : seg s o 0 = 0 := rfl
theorem seg_succ (s : List Nat) (o n : Nat) : seg s o (n + 1) = seg s o n + 4294967296 ^ n * s.getD (o + n) 0 := rfl
theorem seg_congr {s t : List Nat} {o n : Nat} (h : ∀ i, i < n → s.getD (o + i) 0 = t.getD (o + i) 0) : seg s o n = seg t o n := valF_congr _ _ _ h
theorem seg_all (s : List Nat) (n : Nat) (h : s.length ≤ n) : seg s 0 n = val s := by
  rw [val_valF s n h]; exact valF_congr _ _ _ (fun i _ => by rw [Nat.zero_add])
theorem seg_lt {s : List Nat} (h : Ok s) (o n : Nat) : seg s o n < 4294967296 ^ n := valF_lt _ _ (fun i _ => h.getD _)
theorem getD_set_ne (s : List Nat) (i j x : Nat) (h : i ≠ j) : (s.set i x).getD j 0 = s.getD j 0 := by
  rw [List.getD_eq_getElem?_getD, List.getD_eq_getElem?_getD, List.getElem?_set_ne h]
theorem getD_set_eq (s : List Nat) (i x : Nat) (h : i < s.length) : (s.set i x).getD i 0 = x := by
  rw [List.getD_eq_getElem?_getD, List.getElem?_set_self h]; rfl
theorem seg_set (s : List Nat) (o k x : Nat) (h : o + k < s.length) : seg (s.set (o + k) x) o (k + 1) = seg s o k + 4294967296 ^ k * x := by
  rw [seg_succ, getD_set_eq _ _ _ h, seg_congr (t := s) (fun i hi => getD_set_ne _ _ _ _ (by omega))]

/-- t is s, but for n limbs from o on. -/
structure Part (s t : List Nat) (o n : Nat) : Prop where
  len : t.length = s.length
  ok : Ok t
  out : ∀ i, (i < o ∨ o + n ≤ i) → t.getD i 0 = s.getD i 0
theorem Part.refl {s : List Nat} (h : Ok s) (o : Nat) : Part s s o 0 := ⟨rfl, h, fun _ _ => rfl⟩
theorem Part.set {s t : List Nat} {o k : Nat} (h : Part s t o k) (x : Nat) (hx : x < 4294967296) : Part s (t.set (o + k) x) o (k + 1) :=
  ⟨by rw [List.length_set]; exact h.len, h.ok.set _ _ hx, fun i hi => by rw [getD_set_ne _ _ _ _ (by omega)]; exact h.out i (by omega)⟩

/-- What 'addTo' has done behind k limbs: y was added; the carry is c. -/
structure AddTo (s : List Nat) (o k y : Nat) (t : List Nat) (c : Nat) : Prop where
  part : Part s t o k
  le : c ≤ 1
  sum : seg t o k + 4294967296 ^ k * c = seg s o k + y
theorem AddTo.start {s : List Nat} (h : Ok s) (o : Nat) : AddTo s o 0 0 s 0 := ⟨Part.refl h o, by omega, by simp⟩
theorem AddTo.step {s t : List Nat} {o k y c : Nat} (h : AddTo s o k y t c) (ho : o + k < s.length) (b x d : Nat) (hx : x < 4294967296) (hd : d ≤ 1) (e : s.getD (o + k) 0 + b + c = x + 4294967296 * d) :
    AddTo s o (k + 1) (y + 4294967296 ^ k * b) (t.set (o + k) x) d := by
  refine ⟨h.part.set x hx, hd, ?_⟩
  rw [seg_set _ _ _ _ (by rw [h.part.len]; exact ho), seg_succ, Nat.pow_succ, Nat.mul_assoc]
  have h1 := h.sum
  have h2 := congrArg (4294967296 ^ k * ·) e
  simp only [Nat.mul_add] at h2
  omega

/-- What 'addTimes' has done behind k limbs: y was added; the carry is c. -/
structure AddMul (s : List Nat) (o k y : Nat) (t : List Nat) (c : Nat) : Prop where
  part : Part s t o k
  lt : c < 4294967296
  sum : seg t o k + 4294967296 ^ k * c = seg s o k + y
theorem AddMul.start {s : List Nat} (h : Ok s) (o : Nat) : AddMul s o 0 0 s 0 := ⟨Part.refl h o, by omega, by simp⟩
theorem AddMul.step {s t : List Nat} {o k y c : Nat} (h : AddMul s o k y t c) (ho : o + k < s.length) (b x d : Nat) (hx : x < 4294967296) (hd : d < 4294967296) (e : s.getD (o + k) 0 + b + c = x + 4294967296 * d) :
    AddMul s o (k + 1) (y + 4294967296 ^ k * b) (t.set (o + k) x) d := by
  refine ⟨h.part.set x hx, hd, ?_⟩
  rw [seg_set _ _ _ _ (by rw [h.part.len]; exact ho), seg_succ, Nat.pow_succ, Nat.mul_assoc]
  have h1 := h.sum
  have h2 := congrArg (4294967296 ^ k * ·) e
  simp only [Nat.mul_add] at h2
  omega

theorem valF_seg (t : List Nat) (o n : Nat) : valF (fun i => t.getD i 0) (o + n) = valF (fun i => t.getD i 0) o + 4294967296 ^ o * seg t o n := by
  induction n with
  | zero => simp [seg_zero]
  | succ n ih => rw [← Nat.add_assoc, seg_succ]; simp only [valF]; rw [ih, Nat.mul_add, Nat.pow_add, Nat.mul_assoc]; omega
theorem val_of_zeros {l : List Nat} {n : Nat} (h : ∀ j, n ≤ j → l.getD j 0 = 0) : val l = valF (fun i => l.getD i 0) n := by
  rcases Nat.lt_or_ge l.length n with h1 | h1
  · exact val_valF l n (by omega)
  · rw [val_split l n h1, val_zeros (l.drop n) (fun i hi => by
      have := h (n + i) (by omega)
      simpa [List.getD_eq_getElem?_getD, List.getElem?_drop] using this), val_take_valF]
    simp

/-- What Mul has told behind i limbs of the one number. -/
structure MulTo (p q : List Nat) (N i : Nat) (t : List Nat) : Prop where
  len : t.length = N
  ok : Ok t
  zero : ∀ j, i + q.length ≤ j → t.getD j 0 = 0
  sum : val t = valF (fun i => p.getD i 0) i * val q
theorem MulTo.start (p q : List Nat) (N : Nat) : MulTo p q N 0 (List.replicate N 0) := by
  refine ⟨by simp, Ok.replicate N, fun j _ => ?_, by rw [val_replicate]; simp [valF]⟩
  rw [List.getD_eq_getElem?_getD, List.getElem?_replicate]
  split <;> rfl
theorem MulTo.step {p q t t' : List Nat} {N i c f : Nat} (h : MulTo p q N i t) (hN : i + q.length < N) (hf : f = p.getD i 0) (ha : AddMul t i q.length (val q * f) t' c) : MulTo p q N (i + 1) (t'.set (i + q.length) c) := by
  have hl := ha.part.len
  refine ⟨by rw [List.length_set, hl, h.len], ha.part.ok.set _ _ ha.lt, fun j hj => ?_, ?_⟩
  · rw [getD_set_ne _ _ _ _ (by omega), ha.part.out j (by omega)]
    exact h.zero j (by omega)
  · have hz : ∀ j, i + q.length + 1 ≤ j → (t'.set (i + q.length) c).getD j 0 = 0 := fun j hj => by
      rw [getD_set_ne _ _ _ _ (by omega), ha.part.out j (by omega)]
      exact h.zero j (by omega)
    rw [val_of_zeros hz]
    have h0 := val_of_zeros h.zero
    rw [valF_seg] at h0
    have e1 : valF (fun k => (t'.set (i + q.length) c).getD k 0) (i + q.length + 1) = valF (fun k => t'.getD k 0) (i + q.length) + 4294967296 ^ (i + q.length) * c := by
      simp only [valF]
      rw [getD_set_eq _ _ _ (by rw [hl, h.len]; exact hN)]
      congr 1
      exact valF_congr _ _ _ (fun k hk => getD_set_ne _ _ _ _ (by omega))
    have e2 : valF (fun k => t'.getD k 0) i = valF (fun k => t.getD k 0) i := valF_congr _ _ _ (fun k hk => ha.part.out k (by omega))
    rw [e1, valF_seg, e2, Nat.pow_add, Nat.mul_assoc]
    have h3 := congrArg (4294967296 ^ i * ·) ha.sum
    simp only [Nat.mul_add] at h3
    have h4 := h.sum
    simp only [valF]
    rw [Nat.add_mul, ← hf]
    have e5 : 4294967296 ^ i * f * val q = 4294967296 ^ i * (val q * f) := by rw [Nat.mul_assoc, Nat.mul_comm f]
    rw [e5]
    omega
theorem MulTo.total {p q t : List Nat} {N : Nat} (h : MulTo p q N p.length t) : val t = val p * val q := by
  rw [h.sum, ← val_valF p p.length (Nat.le_refl _)]

/-- What 'takeFrom' has done behind k limbs: y was taken; the borrow is c. -/
structure TakeFrom (s : List Nat) (o k y : Nat) (t : List Nat) (c : Nat) : Prop where
  part : Part s t o k
  le : c ≤ 1
  sum : seg t o k + y = seg s o k + 4294967296 ^ k * c
theorem TakeFrom.start {s : List Nat} (h : Ok s) (o : Nat) : TakeFrom s o 0 0 s 0 := ⟨Part.refl h o, by omega, by simp⟩
theorem TakeFrom.step {s t : List Nat} {o k y c : Nat} (h : TakeFrom s o k y t c) (ho : o + k < s.length) (b x d : Nat) (hx : x < 4294967296) (hd : d ≤ 1) (e : s.getD (o + k) 0 + 4294967296 * d = x + b + c) :
    TakeFrom s o (k + 1) (y + 4294967296 ^ k * b) (t.set (o + k) x) d := by
  refine ⟨h.part.set x hx, hd, ?_⟩
  rw [seg_set _ _ _ _ (by rw [h.part.len]; exact ho), seg_succ, Nat.pow_succ, Nat.mul_assoc]
  have h1 := h.sum
  have h2 := congrArg (4294967296 ^ k * ·) e
  simp only [Nat.mul_add] at h2
  omega

/-- What 'divideInPlace' has done behind the k highest limbs: those are the quotient's; r is left. -/
structure DivBy (s : List Nat) (b k : Nat) (t : List Nat) (r : Nat) : Prop where
  len : t.length = s.length
  ok : Ok t
  low : ∀ i, i < s.length - k → t.getD i 0 = s.getD i 0
  lt : r < b
  sum : val (s.drop (s.length - k)) = b * val (t.drop (s.length - k)) + r
theorem DivBy.start {s : List Nat} (h : Ok s) (b : Nat) (hb : 0 < b) : DivBy s b 0 s 0 :=
  ⟨rfl, h, fun _ _ => rfl, hb, by rw [Nat.sub_zero, List.drop_length]; simp [val_nil]⟩
theorem DivBy.step {s t : List Nat} {b k r : Nat} (h : DivBy s b k t r) (hk : k < s.length) (q r' : Nat) (hq : q < 4294967296) (hr : r' < b) (e : r * 4294967296 + s.getD (s.length - 1 - k) 0 = b * q + r') :
    DivBy s b (k + 1) (t.set (s.length - 1 - k) q) r' := by
  have hi : s.length - 1 - k = s.length - (k + 1) := by omega
  have hi' : s.length - (k + 1) + 1 = s.length - k := by omega
  rw [hi] at e ⊢
  refine ⟨by rw [List.length_set]; exact h.len, h.ok.set _ _ hq, fun i hi2 => ?_, hr, ?_⟩
  · rw [getD_set_ne _ _ _ _ (by omega)]; exact h.low i (by omega)
  · rw [val_drop s _ (by omega), val_drop (t.set _ q) _ (by rw [List.length_set, h.len]; omega), getD_set_eq _ _ _ (by rw [h.len]; omega), hi', List.drop_set_of_lt (by omega), h.sum]
    have := h.len
    generalize val (t.drop (s.length - k)) = Q
    have e2 : b * (q + 4294967296 * Q) = b * q + 4294967296 * (b * Q) := by rw [Nat.mul_add]; congr 1; rw [Nat.mul_left_comm]
    rw [e2]
    omega
theorem DivBy.total {s t : List Nat} {b r : Nat} (h : DivBy s b s.length t r) : val t = val s / b ∧ r = val s % b := by
  have h1 := h.sum
  rw [Nat.sub_self, List.drop_zero, List.drop_zero] at h1
  have hb : 0 < b := Nat.lt_of_le_of_lt (Nat.zero_le _) h.lt
  rw [h1]
  constructor
  · rw [Nat.mul_add_div hb, Nat.div_eq_of_lt h.lt, Nat.add_zero]
  · rw [Nat.mul_add_mod, Nat.mod_eq_of_lt h.lt]

theorem val_eq_of_drop {a b : List Nat} (he : a.drop 0 = b.drop 0) : val a = val b := by simp at he; rw [he]

end Go.Proofs.YtfjanomjmlcgaaaDoor
