/- Plain mathematics of lists of limbs of 32 bits: the number that a list represents, the plain list of a number. No program in it. Slices of limbs in memory: what a slice reads as ('Sees'); a block of the call's own, whose first cells are limbs ('Row'). No function of the program in it. Decimal digits: plain mathematics; a row of bytes in memory. nat.trim, slices.Clone, nat.Plain by their contracts. nat.divideInPlace, nat.fromWord, nat.limbAt, nat.wordAt by their contracts. nat.writeGroup, nat.Text by their contracts. nat.Cmp, nat.Bits by their contracts. nat.DivMod by a divisor of one limb; by nought. The document's Same, Plain, Cmp, Bits by their contracts. -/
import Derived.WalkKit
import Derived.Deep.LoopGhost
import Derived.Deep.OwnRows
import Derived.Deep.Draws
import Derived.Laws.CopyOwn
import Derived.Test.YtjnbonellgpjnaaGreatChecked
import Derived.Lib.SliceRun
import Derived.Test.YtjnbonellgpjnaaGreatShelf
import Derived.Deep.QuietTactic
import Derived.BigQuiet
import Derived.Laws.AppendOwnNone
set_option linter.unusedVariables false
set_option linter.unusedSimpArgs false
namespace Go.Proofs.YtjnbonellgpjnaaGreat

/-- The number that a list of limbs represents, the lowest first. -/
def val : List Nat → Nat
  | [] => 0
  | x :: l => x + 4294967296 * val l

def limbsF : Nat → Nat → List Nat
  | 0, _ => []
  | f + 1, n => if n = 0 then [] else n % 4294967296 :: limbsF f (n / 4294967296)

/-- The plain list of a number. -/
def limbs (n : Nat) : List Nat := limbsF n n

/-- Each is a limb. -/
def Ok (l : List Nat) : Prop := ∀ x ∈ l, x < 4294967296

theorem limbsF_eq (f n : Nat) (h : n ≤ f) : limbsF f n = limbs n := by
  suffices H : ∀ f g n, n ≤ f → n ≤ g → limbsF f n = limbsF g n from H f n n h (Nat.le_refl _)
  intro f
  induction f with
  | zero => intro g n h1 _; have : n = 0 := by omega
            subst this; cases g <;> simp [limbsF]
  | succ f ih =>
    intro g n h1 h2
    cases g with
    | zero => have : n = 0 := by omega
              subst this; simp [limbsF]
    | succ g =>
      by_cases e : n = 0
      · simp [limbsF, e]
      · simp only [limbsF, e, if_false]
        rw [ih g (n / 4294967296) (by omega) (by omega)]

theorem limbs_zero : limbs 0 = [] := rfl

theorem limbs_pos {n : Nat} (h : 0 < n) : limbs n = n % 4294967296 :: limbs (n / 4294967296) := by
  obtain ⟨m, rfl⟩ : ∃ m, n = m + 1 := ⟨n - 1, by omega⟩
  show limbsF (m + 1) (m + 1) = _
  simp only [limbsF]
  rw [if_neg (by omega), limbsF_eq m _ (by omega)]

theorem val_nil : val [] = 0 := rfl
theorem val_cons (x : Nat) (l : List Nat) : val (x :: l) = x + 4294967296 * val l := rfl

theorem val_limbs (n : Nat) : val (limbs n) = n := by
  induction n using Nat.strongRecOn with
  | _ n ih =>
    by_cases h : n = 0
    · subst h; rfl
    · rw [limbs_pos (by omega), val_cons, ih _ (by omega)]; omega

theorem Ok.nil : Ok [] := by intro x h; cases h
theorem Ok.cons {x : Nat} {l : List Nat} (hx : x < 4294967296) (h : Ok l) : Ok (x :: l) := by
  intro y hy
  cases hy with
  | head => exact hx
  | tail _ hy => exact h y hy
theorem Ok.head {x : Nat} {l : List Nat} (h : Ok (x :: l)) : x < 4294967296 := h x (List.mem_cons_self ..)
theorem Ok.tail {x : Nat} {l : List Nat} (h : Ok (x :: l)) : Ok l := fun y hy => h y (List.mem_cons_of_mem _ hy)
theorem Ok.take {l : List Nat} (h : Ok l) (n : Nat) : Ok (l.take n) := fun y hy => h y (List.mem_of_mem_take hy)
theorem Ok.drop {l : List Nat} (h : Ok l) (n : Nat) : Ok (l.drop n) := fun y hy => h y (List.mem_of_mem_drop hy)
theorem Ok.append {l m : List Nat} (h : Ok l) (k : Ok m) : Ok (l ++ m) := by
  intro y hy
  rcases List.mem_append.1 hy with hy | hy
  · exact h y hy
  · exact k y hy
theorem Ok.replicate (n : Nat) : Ok (List.replicate n 0) := by
  intro y hy
  rw [List.eq_of_mem_replicate hy]; decide
theorem Ok.set {l : List Nat} (h : Ok l) (i x : Nat) (hx : x < 4294967296) : Ok (l.set i x) := by
  intro y hy
  rcases List.mem_or_eq_of_mem_set hy with hy | rfl
  · exact h y hy
  · exact hx
theorem Ok.getD {l : List Nat} (h : Ok l) (i : Nat) : l.getD i 0 < 4294967296 := by
  rw [List.getD_eq_getElem?_getD]
  cases e : l[i]? with
  | none => decide
  | some x => exact h x (List.mem_of_getElem? e)

theorem limbs_ok (n : Nat) : Ok (limbs n) := by
  induction n using Nat.strongRecOn with
  | _ n ih =>
    by_cases h : n = 0
    · subst h; exact Ok.nil
    · rw [limbs_pos (by omega)]; exact Ok.cons (by omega) (ih _ (by omega))

theorem val_append (l m : List Nat) : val (l ++ m) = val l + 4294967296 ^ l.length * val m := by
  induction l with
  | nil => simp [val_nil]
  | cons x l ih => simp only [List.cons_append, val_cons, List.length_cons, ih, Nat.pow_succ]; grind

theorem val_lt {l : List Nat} (h : Ok l) : val l < 4294967296 ^ l.length := by
  induction l with
  | nil => simp [val_nil]
  | cons x l ih =>
    have h1 := h.head
    have h2 := ih h.tail
    simp only [val_cons, List.length_cons, Nat.pow_succ]
    omega

theorem val_take_succ (l : List Nat) (k : Nat) (h : k < l.length) : val (l.take (k + 1)) = val (l.take k) + 4294967296 ^ k * l.getD k 0 := by
  rw [List.take_succ_eq_append_getElem h, val_append, val_cons, val_nil, List.length_take, Nat.min_eq_left (by omega)]
  simp [h]

theorem val_split (l : List Nat) (n : Nat) (h : n ≤ l.length) : val l = val (l.take n) + 4294967296 ^ n * val (l.drop n) := by
  have := val_append (l.take n) (l.drop n)
  rwa [List.take_append_drop, List.length_take, Nat.min_eq_left h] at this

theorem val_drop (l : List Nat) (n : Nat) (h : n < l.length) : val (l.drop n) = l.getD n 0 + 4294967296 * val (l.drop (n + 1)) := by
  rw [List.drop_eq_getElem_cons h, val_cons]
  simp [h]

theorem val_zeros (l : List Nat) (h : ∀ i, i < l.length → l.getD i 0 = 0) : val l = 0 := by
  induction l with
  | nil => rfl
  | cons x l ih =>
    have h0 := h 0 (by simp)
    simp at h0
    rw [val_cons, h0, ih (fun i hi => by have := h (i + 1) (by simpa using hi); simpa using this)]

theorem val_replicate (n : Nat) : val (List.replicate n 0) = 0 := by
  induction n with
  | zero => rfl
  | succ n ih => rw [List.replicate_succ, val_cons, ih]

/-- A list without leading zero limbs is the plain list of its number. -/
theorem limbs_val_of_last {l : List Nat} (hl : Ok l) (h : 0 < l.length → l.getD (l.length - 1) 0 ≠ 0) : limbs (val l) = l := by
  induction l with
  | nil => rfl
  | cons x l ih =>
    have hx := hl.head
    have hpos : 0 < val (x :: l) := by
      cases l with
      | nil => have := h (by simp); simp [val_cons, val_nil] at *; omega
      | cons y t =>
        rw [val_cons]
        have := ih hl.tail (fun _ => by have := h (by simp); simpa using this)
        by_cases e : val (y :: t) = 0
        · rw [e] at this; cases this
        · omega
    rw [limbs_pos hpos, val_cons]
    have e1 : (x + 4294967296 * val l) % 4294967296 = x := by omega
    have e2 : (x + 4294967296 * val l) / 4294967296 = val l := by omega
    rw [e1, e2, ih hl.tail]
    intro hlen
    have := h (by simp)
    cases l with
    | nil => simp at hlen
    | cons y t => simpa using this

/-- What 'trim' finds. -/
theorem limbs_val_take {l : List Nat} (hl : Ok l) (n : Nat) (hn : n ≤ l.length) (hz : ∀ i, n ≤ i → i < l.length → l.getD i 0 = 0) (h : 0 < n → l.getD (n - 1) 0 ≠ 0) : limbs (val l) = l.take n := by
  have hv : val l = val (l.take n) := by
    rw [val_split l n hn, val_zeros (l.drop n) (fun i hi => by
      have := hz (n + i) (by omega) (by simp at hi; omega)
      simpa [List.getD_eq_getElem?_getD, List.getElem?_drop] using this)]
    simp
  rw [hv]
  refine limbs_val_of_last (hl.take n) fun hp => ?_
  rw [List.length_take, Nat.min_eq_left hn] at hp ⊢
  have := h hp
  rw [List.getD_eq_getElem?_getD] at this ⊢
  rwa [List.getElem?_take_of_lt (by omega)]

theorem exists_trim (l : List Nat) : ∃ n, n ≤ l.length ∧ (∀ i, n ≤ i → i < l.length → l.getD i 0 = 0) ∧ (0 < n → l.getD (n - 1) 0 ≠ 0) := by
  suffices H : ∀ m, m ≤ l.length → (∀ i, m ≤ i → i < l.length → l.getD i 0 = 0) → ∃ n, n ≤ l.length ∧ (∀ i, n ≤ i → i < l.length → l.getD i 0 = 0) ∧ (0 < n → l.getD (n - 1) 0 ≠ 0) from H l.length (Nat.le_refl _) (fun i h1 h2 => absurd h1 (by omega))
  intro m
  induction m with
  | zero => intro h1 h2; exact ⟨0, by omega, h2, fun h => absurd h (by omega)⟩
  | succ m ih =>
    intro h1 h2
    by_cases e : l.getD m 0 = 0
    · refine ih (by omega) fun i hi hi' => ?_
      by_cases e' : i = m
      · rw [e']; exact e
      · exact h2 i (by omega) hi'
    · exact ⟨m + 1, h1, h2, fun _ => by simpa using e⟩

/-- The plain list is the list without what is 0 at its end. -/
theorem limbs_prefix {l : List Nat} (h : Ok l) : limbs (val l) = l.take (limbs (val l)).length ∧ (limbs (val l)).length ≤ l.length := by
  obtain ⟨n, h1, h2, h3⟩ := exists_trim l
  have e := limbs_val_take h n h1 h2 h3
  have hl : (limbs (val l)).length = n := by rw [e]; simp; omega
  rw [hl]
  exact ⟨e, h1⟩

theorem limbs_length_le {n k : Nat} (h : n < 4294967296 ^ k) : (limbs n).length ≤ k := by
  induction k generalizing n with
  | zero => have : n = 0 := by simpa using h
            subst this; simp [limbs_zero]
  | succ k ih =>
    by_cases e : n = 0
    · subst e; simp [limbs_zero]
    · rw [limbs_pos (by omega), List.length_cons]
      have : n / 4294967296 < 4294967296 ^ k := by
        rw [Nat.pow_succ] at h
        exact Nat.div_lt_of_lt_mul (by omega)
      have := ih this
      omega

theorem lt_pow_length (n : Nat) : n < 4294967296 ^ (limbs n).length := by
  have := val_lt (limbs_ok n)
  rwa [val_limbs] at this

/-- The highest limb of a plain list is not 0. -/
theorem limbs_last {n : Nat} (h : 0 < n) : 0 < (limbs n).length ∧ (limbs n).getD ((limbs n).length - 1) 0 ≠ 0 := by
  induction n using Nat.strongRecOn with
  | _ n ih =>
    rw [limbs_pos h]
    refine ⟨by simp, ?_⟩
    by_cases e : n / 4294967296 = 0
    · rw [e, limbs_zero]; simp; omega
    · have := ih (n / 4294967296) (by omega) (by omega)
      obtain ⟨h1, h2⟩ := this
      simp only [List.length_cons, Nat.add_sub_cancel]
      obtain ⟨m, hm⟩ : ∃ m, (limbs (n / 4294967296)).length = m + 1 := ⟨(limbs (n / 4294967296)).length - 1, by omega⟩
      rw [hm] at h2 ⊢
      simpa using h2

theorem pow_le_of_length {n k : Nat} (h : (limbs n).length = k + 1) : 4294967296 ^ k ≤ n := by
  rcases Nat.lt_or_ge n (4294967296 ^ k) with h1 | h1
  · have := limbs_length_le h1; omega
  · exact h1

theorem limbs_length_lt {m n : Nat} (h : (limbs m).length < (limbs n).length) : m < n := by
  obtain ⟨k, hk⟩ : ∃ k, (limbs n).length = k + 1 := ⟨(limbs n).length - 1, by omega⟩
  have h1 := pow_le_of_length hk
  have h2 := lt_pow_length m
  have h3 : 4294967296 ^ (limbs m).length ≤ 4294967296 ^ k := Nat.pow_le_pow_right (by decide) (by omega)
  omega

theorem limbs_inj {m n : Nat} (h : limbs m = limbs n) : m = n := by
  have := congrArg val h
  rwa [val_limbs, val_limbs] at this

theorem limbs_nil_iff {n : Nat} : limbs n = [] ↔ n = 0 := by
  constructor
  · intro h; exact limbs_inj (h.trans limbs_zero.symm)
  · rintro rfl; rfl

/-- Comparing from the top. -/
theorem val_lt_of_top {a b : List Nat} (ha : Ok a) (hb : Ok b) (n : Nat) (hl : a.length = b.length) (hn : n < a.length) (he : a.drop (n + 1) = b.drop (n + 1)) (h : a.getD n 0 < b.getD n 0) : val a < val b := by
  rw [val_split a n (by omega), val_split b n (by omega), val_drop a n hn, val_drop b n (by omega), he]
  have h1 := val_lt (ha.take n)
  have h2 := val_lt (hb.take n)
  rw [List.length_take, Nat.min_eq_left (by omega)] at h1 h2
  generalize val (a.take n) = x at *
  generalize val (b.take n) = y at *
  generalize val (List.drop (n + 1) b) = z at *
  generalize a.getD n 0 = u at *
  generalize b.getD n 0 = v at *
  generalize 4294967296 ^ n = p at *
  have : p * (u + 1) ≤ p * v := Nat.mul_le_mul_left p (by omega)
  have e1 : p * (u + 4294967296 * z) = p * u + p * (4294967296 * z) := Nat.mul_add ..
  have e2 : p * (v + 4294967296 * z) = p * v + p * (4294967296 * z) := Nat.mul_add ..
  have e3 : p * (u + 1) = p * u + p := Nat.mul_succ ..
  omega

/-- The number of so many limbs, told by their index. -/
def valF (f : Nat → Nat) : Nat → Nat
  | 0 => 0
  | n + 1 => valF f n + 4294967296 ^ n * f n

theorem val_take_valF (l : List Nat) (n : Nat) : val (l.take n) = valF (fun i => l.getD i 0) n := by
  induction n with
  | zero => simp [val_nil, valF]
  | succ n ih =>
    by_cases h : n < l.length
    · rw [val_take_succ l n h, ih]; rfl
    · rw [List.take_of_length_le (by omega)]
      rw [List.take_of_length_le (by omega)] at ih
      rw [ih]
      have : l.getD n 0 = 0 := by rw [List.getD_eq_getElem?_getD, List.getElem?_eq_none (by omega)]; rfl
      simp only [valF, this, Nat.mul_zero, Nat.add_zero]

theorem val_valF (l : List Nat) (n : Nat) (h : l.length ≤ n) : val l = valF (fun i => l.getD i 0) n := by
  rw [← val_take_valF, List.take_of_length_le h]

theorem valF_lt (f : Nat → Nat) (n : Nat) (h : ∀ i, i < n → f i < 4294967296) : valF f n < 4294967296 ^ n := by
  induction n with
  | zero => simp [valF]
  | succ n ih =>
    have h1 := ih (fun i hi => h i (by omega))
    have h2 : 4294967296 ^ n * (f n + 1) ≤ 4294967296 ^ n * 4294967296 := Nat.mul_le_mul_left _ (h n (by omega))
    rw [Nat.mul_add] at h2
    simp only [valF, Nat.pow_succ]
    omega

theorem valF_congr (f g : Nat → Nat) (n : Nat) (h : ∀ i, i < n → f i = g i) : valF f n = valF g n := by
  induction n with
  | zero => rfl
  | succ n ih => simp only [valF]; rw [ih (fun i hi => h i (by omega)), h n (by omega)]

theorem valF_cmp (f g : Nat → Nat) (n k : Nat) (hk : k < n) (hf : ∀ i, i < n → f i < 4294967296) (he : ∀ i, k < i → i < n → f i = g i) (h : f k < g k) : valF f n < valF g n := by
  induction n with
  | zero => omega
  | succ n ih =>
    simp only [valF]
    by_cases e : k = n
    · subst e
      have h1 := valF_lt f k (fun i hi => hf i (by omega))
      have h2 : 4294967296 ^ k * (f k + 1) ≤ 4294967296 ^ k * g k := Nat.mul_le_mul_left _ h
      rw [Nat.mul_add] at h2
      omega
    · have := ih (by omega) (fun i hi => hf i (by omega)) (fun i h1 h2 => he i h1 (by omega))
      rw [he n (by omega) (by omega)]
      omega

/-! ### A part of a list that is written in place -/
/-- The number of n limbs from place o on. -/
def seg (s : List Nat) (o n : Nat) : Nat := valF (fun i => s.getD (o + i) 0) n
theorem seg_zero (s : List Nat) (o : Nat) : seg s o 0 = 0 := rfl
theorem seg_succ (s : List Nat) (o n : Nat) : seg s o (n + 1) = seg s o n + 4294967296 ^ n * s.getD (o + n) 0 := rfl
theorem seg_congr {s t : List Nat} {o n : Nat} (h : ∀ i, i < n → s.getD (o + i) 0 = t.getD (o + i) 0) : seg s o n = seg t o n := valF_congr _ _ _ h
theorem seg_all (s : List Nat) (n : Nat) (h : s.length ≤ n) : seg s 0 n = val s := by
  rw [val_valF s n h]; exact valF_congr _ _ _ (fun i _ => by rw [Nat.zero_add])
theorem seg_lt {s : List Nat} (h : Ok s) (o n : Nat) : seg s o n < 4294967296 ^ n := valF_lt _ _ (fun i _ => h.getD _)
theorem getD_set_ne (s : List Nat) (i j x : Nat) (h : i ≠ j) : (s.set i x).getD j 0 = s.getD j 0 := by
  rw [List.getD_eq_getElem?_getD, List.getD_eq_getElem?_getD, List.getElem?_set_ne h]
theorem getD_set_eq (s : List Nat) (i x : Nat) (h : i < s.length) : (s.set i x).getD i 0 = x := by
  rw [List.getD_eq_getElem?_getD, List.getElem?_set_self h]; rfl
theorem seg_set (s : List Nat) (o k x : Nat) (h : o + k < s.length) : seg (s.set (o + k) x) o (k + 1) = seg s o k + 4294967296 ^ k * x := by
  rw [seg_succ, getD_set_eq _ _ _ h, seg_congr (t := s) (fun i hi => getD_set_ne _ _ _ _ (by omega))]

/-- t is s, but for n limbs from o on. -/
structure Part (s t : List Nat) (o n : Nat) : Prop where
  len : t.length = s.length
  ok : Ok t
  out : ∀ i, (i < o ∨ o + n ≤ i) → t.getD i 0 = s.getD i 0
theorem Part.refl {s : List Nat} (h : Ok s) (o : Nat) : Part s s o 0 := ⟨rfl, h, fun _ _ => rfl⟩
theorem Part.set {s t : List Nat} {o k : Nat} (h : Part s t o k) (x : Nat) (hx : x < 4294967296) : Part s (t.set (o + k) x) o (k + 1) :=
  ⟨by rw [List.length_set]; exact h.len, h.ok.set _ _ hx, fun i hi => by rw [getD_set_ne _ _ _ _ (by omega)]; exact h.out i (by omega)⟩

/-- What 'addTo' has done behind k limbs: y was added; the carry is c. -/
structure AddTo (s : List Nat) (o k y : Nat) (t : List Nat) (c : Nat) : Prop where
  part : Part s t o k
  le : c ≤ 1
  sum : seg t o k + 4294967296 ^ k * c = seg s o k + y
theorem AddTo.start {s : List Nat} (h : Ok s) (o : Nat) : AddTo s o 0 0 s 0 := ⟨Part.refl h o, by omega, by simp⟩
theorem AddTo.step {s t : List Nat} {o k y c : Nat} (h : AddTo s o k y t c) (ho : o + k < s.length) (b x d : Nat) (hx : x < 4294967296) (hd : d ≤ 1) (e : s.getD (o + k) 0 + b + c = x + 4294967296 * d) :
    AddTo s o (k + 1) (y + 4294967296 ^ k * b) (t.set (o + k) x) d := by
  refine ⟨h.part.set x hx, hd, ?_⟩
  rw [seg_set _ _ _ _ (by rw [h.part.len]; exact ho), seg_succ, Nat.pow_succ, Nat.mul_assoc]
  have h1 := h.sum
  have h2 := congrArg (4294967296 ^ k * ·) e
  simp only [Nat.mul_add] at h2
  omega

/-- What 'addTimes' has done behind k limbs: y was added; the carry is c. -/
structure AddMul (s : List Nat) (o k y : Nat) (t : List Nat) (c : Nat) : Prop where
  part : Part s t o k
  lt : c < 4294967296
  sum : seg t o k + 4294967296 ^ k * c = seg s o k + y
theorem AddMul.start {s : List Nat} (h : Ok s) (o : Nat) : AddMul s o 0 0 s 0 := ⟨Part.refl h o, by omega, by simp⟩
theorem AddMul.step {s t : List Nat} {o k y c : Nat} (h : AddMul s o k y t c) (ho : o + k < s.length) (b x d : Nat) (hx : x < 4294967296) (hd : d < 4294967296) (e : s.getD (o + k) 0 + b + c = x + 4294967296 * d) :
    AddMul s o (k + 1) (y + 4294967296 ^ k * b) (t.set (o + k) x) d := by
  refine ⟨h.part.set x hx, hd, ?_⟩
  rw [seg_set _ _ _ _ (by rw [h.part.len]; exact ho), seg_succ, Nat.pow_succ, Nat.mul_assoc]
  have h1 := h.sum
  have h2 := congrArg (4294967296 ^ k * ·) e
  simp only [Nat.mul_add] at h2
  omega

theorem valF_seg (t : List Nat) (o n : Nat) : valF (fun i => t.getD i 0) (o + n) = valF (fun i => t.getD i 0) o + 4294967296 ^ o * seg t o n := by
  induction n with
  | zero => simp [seg_zero]
  | succ n ih => rw [← Nat.add_assoc, seg_succ]; simp only [valF]; rw [ih, Nat.mul_add, Nat.pow_add, Nat.mul_assoc]; omega
theorem val_of_zeros {l : List Nat} {n : Nat} (h : ∀ j, n ≤ j → l.getD j 0 = 0) : val l = valF (fun i => l.getD i 0) n := by
  rcases Nat.lt_or_ge l.length n with h1 | h1
  · exact val_valF l n (by omega)
  · rw [val_split l n h1, val_zeros (l.drop n) (fun i hi => by
      have := h (n + i) (by omega)
      simpa [List.getD_eq_getElem?_getD, List.getElem?_drop] using this), val_take_valF]
    simp

/-- What Mul has told behind i limbs of the one number. -/
structure MulTo (p q : List Nat) (N i : Nat) (t : List Nat) : Prop where
  len : t.length = N
  ok : Ok t
  zero : ∀ j, i + q.length ≤ j → t.getD j 0 = 0
  sum : val t = valF (fun i => p.getD i 0) i * val q
theorem MulTo.start (p q : List Nat) (N : Nat) : MulTo p q N 0 (List.replicate N 0) := by
  refine ⟨by simp, Ok.replicate N, fun j _ => ?_, by rw [val_replicate]; simp [valF]⟩
  rw [List.getD_eq_getElem?_getD, List.getElem?_replicate]
  split <;> rfl
theorem MulTo.step {p q t t' : List Nat} {N i c f : Nat} (h : MulTo p q N i t) (hN : i + q.length < N) (hf : f = p.getD i 0) (ha : AddMul t i q.length (val q * f) t' c) : MulTo p q N (i + 1) (t'.set (i + q.length) c) := by
  have hl := ha.part.len
  refine ⟨by rw [List.length_set, hl, h.len], ha.part.ok.set _ _ ha.lt, fun j hj => ?_, ?_⟩
  · rw [getD_set_ne _ _ _ _ (by omega), ha.part.out j (by omega)]
    exact h.zero j (by omega)
  · have hz : ∀ j, i + q.length + 1 ≤ j → (t'.set (i + q.length) c).getD j 0 = 0 := fun j hj => by
      rw [getD_set_ne _ _ _ _ (by omega), ha.part.out j (by omega)]
      exact h.zero j (by omega)
    rw [val_of_zeros hz]
    have h0 := val_of_zeros h.zero
    rw [valF_seg] at h0
    have e1 : valF (fun k => (t'.set (i + q.length) c).getD k 0) (i + q.length + 1) = valF (fun k => t'.getD k 0) (i + q.length) + 4294967296 ^ (i + q.length) * c := by
      simp only [valF]
      rw [getD_set_eq _ _ _ (by rw [hl, h.len]; exact hN)]
      congr 1
      exact valF_congr _ _ _ (fun k hk => getD_set_ne _ _ _ _ (by omega))
    have e2 : valF (fun k => t'.getD k 0) i = valF (fun k => t.getD k 0) i := valF_congr _ _ _ (fun k hk => ha.part.out k (by omega))
    rw [e1, valF_seg, e2, Nat.pow_add, Nat.mul_assoc]
    have h3 := congrArg (4294967296 ^ i * ·) ha.sum
    simp only [Nat.mul_add] at h3
    have h4 := h.sum
    simp only [valF]
    rw [Nat.add_mul, ← hf]
    have e5 : 4294967296 ^ i * f * val q = 4294967296 ^ i * (val q * f) := by rw [Nat.mul_assoc, Nat.mul_comm f]
    rw [e5]
    omega
theorem MulTo.total {p q t : List Nat} {N : Nat} (h : MulTo p q N p.length t) : val t = val p * val q := by
  rw [h.sum, ← val_valF p p.length (Nat.le_refl _)]

/-- What 'takeFrom' has done behind k limbs: y was taken; the borrow is c. -/
structure TakeFrom (s : List Nat) (o k y : Nat) (t : List Nat) (c : Nat) : Prop where
  part : Part s t o k
  le : c ≤ 1
  sum : seg t o k + y = seg s o k + 4294967296 ^ k * c
theorem TakeFrom.start {s : List Nat} (h : Ok s) (o : Nat) : TakeFrom s o 0 0 s 0 := ⟨Part.refl h o, by omega, by simp⟩
theorem TakeFrom.step {s t : List Nat} {o k y c : Nat} (h : TakeFrom s o k y t c) (ho : o + k < s.length) (b x d : Nat) (hx : x < 4294967296) (hd : d ≤ 1) (e : s.getD (o + k) 0 + 4294967296 * d = x + b + c) :
    TakeFrom s o (k + 1) (y + 4294967296 ^ k * b) (t.set (o + k) x) d := by
  refine ⟨h.part.set x hx, hd, ?_⟩
  rw [seg_set _ _ _ _ (by rw [h.part.len]; exact ho), seg_succ, Nat.pow_succ, Nat.mul_assoc]
  have h1 := h.sum
  have h2 := congrArg (4294967296 ^ k * ·) e
  simp only [Nat.mul_add] at h2
  omega

/-- What 'divideInPlace' has done behind the k highest limbs: those are the quotient's; r is left. -/
structure DivBy (s : List Nat) (b k : Nat) (t : List Nat) (r : Nat) : Prop where
  len : t.length = s.length
  ok : Ok t
  low : ∀ i, i < s.length - k → t.getD i 0 = s.getD i 0
  lt : r < b
  sum : val (s.drop (s.length - k)) = b * val (t.drop (s.length - k)) + r
theorem DivBy.start {s : List Nat} (h : Ok s) (b : Nat) (hb : 0 < b) : DivBy s b 0 s 0 :=
  ⟨rfl, h, fun _ _ => rfl, hb, by rw [Nat.sub_zero, List.drop_length]; simp [val_nil]⟩
theorem DivBy.step {s t : List Nat} {b k r : Nat} (h : DivBy s b k t r) (hk : k < s.length) (q r' : Nat) (hq : q < 4294967296) (hr : r' < b) (e : r * 4294967296 + s.getD (s.length - 1 - k) 0 = b * q + r') :
    DivBy s b (k + 1) (t.set (s.length - 1 - k) q) r' := by
  have hi : s.length - 1 - k = s.length - (k + 1) := by omega
  have hi' : s.length - (k + 1) + 1 = s.length - k := by omega
  rw [hi] at e ⊢
  refine ⟨by rw [List.length_set]; exact h.len, h.ok.set _ _ hq, fun i hi2 => ?_, hr, ?_⟩
  · rw [getD_set_ne _ _ _ _ (by omega)]; exact h.low i (by omega)
  · rw [val_drop s _ (by omega), val_drop (t.set _ q) _ (by rw [List.length_set, h.len]; omega), getD_set_eq _ _ _ (by rw [h.len]; omega), hi', List.drop_set_of_lt (by omega), h.sum]
    have := h.len
    generalize val (t.drop (s.length - k)) = Q
    have e2 : b * (q + 4294967296 * Q) = b * q + 4294967296 * (b * Q) := by rw [Nat.mul_add]; congr 1; rw [Nat.mul_left_comm]
    rw [e2]
    omega
theorem DivBy.total {s t : List Nat} {b r : Nat} (h : DivBy s b s.length t r) : val t = val s / b ∧ r = val s % b := by
  have h1 := h.sum
  rw [Nat.sub_self, List.drop_zero, List.drop_zero] at h1
  have hb : 0 < b := Nat.lt_of_le_of_lt (Nat.zero_le _) h.lt
  rw [h1]
  constructor
  · rw [Nat.mul_add_div hb, Nat.div_eq_of_lt h.lt, Nat.add_zero]
  · rw [Nat.mul_add_mod, Nat.mod_eq_of_lt h.lt]

theorem val_eq_of_drop {a b : List Nat} (he : a.drop 0 = b.drop 0) : val a = val b := by simp at he; rw [he]

end Go.Proofs.YtjnbonellgpjnaaGreat

set_option linter.unusedVariables false
set_option linter.unusedSimpArgs false
namespace Go.Proofs.YtjnbonellgpjnaaGreat
open Go.RowKit

theorem hid {p : Prop} (h : p) : Hid p := h

/-- The limbs as values. -/
def enc (l : List Nat) : List Value := l.map fun x => Value.int .u32 (x : Nat)
theorem enc_length (l : List Nat) : (enc l).length = l.length := by simp [enc]
theorem enc_one (l : List Nat) : ∀ u ∈ enc l, u.oneCell' = true := by intro u hu; obtain ⟨x, _, rfl⟩ := List.mem_map.1 hu; rfl
theorem enc_get (l : List Nat) (i : Nat) (h : i < l.length) : (enc l)[i]? = some (.int .u32 (l.getD i 0 : Nat)) := by
  unfold enc
  rw [List.getElem?_map, List.getD_eq_getElem?_getD, List.getElem?_eq_getElem h]; rfl
theorem enc_append (l m : List Nat) : enc l ++ enc m = enc (l ++ m) := by simp [enc]

/-- v reads as the list l of limbs. -/
def Sees (w : World) (v : Value) (l : List Nat) : Prop :=
  ∃ ao cap, v = .slice ao l.length cap ∧ l.length ≤ cap ∧ l.length ≤ 70368744177664 ∧ Ok l ∧ (ao = none → cap = 0) ∧ (0 < l.length → ∃ b o, ao = some ⟨b, o, none⟩ ∧ ∀ i, i < l.length → w.cell? ⟨b, o + i, none⟩ = some (.int .u32 (l.getD i 0 : Nat)))

theorem Sees.nil (w : World) : Sees w (.slice none 0 0) [] := ⟨none, 0, rfl, Nat.le_refl _, by decide, Ok.nil, fun _ => rfl, fun h => absurd h (by simp)⟩

theorem Sees.ok {w : World} {v : Value} {l : List Nat} (h : Sees w v l) : Ok l := by obtain ⟨_, _, _, _, _, h, _, _⟩ := h; exact h
theorem Sees.len {w : World} {v : Value} {l : List Nat} (h : Sees w v l) : l.length ≤ 70368744177664 := by obtain ⟨_, _, _, h1, h2, _, _, _⟩ := h; omega

/-- Where it lies, if it has a limb. -/
theorem Sees.at {w : World} {ao : Option Addr} {len cap : Nat} {l : List Nat} (h : Sees w (.slice ao len cap) l) (hp : 0 < l.length) : ∃ b o, ao = some ⟨b, o, none⟩ ∧ ∀ i, i < l.length → w.cell? ⟨b, o + i, none⟩ = some (.int .u32 (l.getD i 0 : Nat)) := by
  obtain ⟨ao', cap', h1, h2, h3, h4, hn0, h5⟩ := h
  simp only [Value.slice.injEq] at h1
  obtain ⟨rfl, rfl, rfl⟩ := h1
  exact h5 hp
theorem Sees.len_eq {w : World} {ao : Option Addr} {len cap : Nat} {l : List Nat} (h : Sees w (.slice ao len cap) l) : len = l.length ∧ l.length ≤ cap := by
  obtain ⟨ao', cap', h1, h2, h3, h4, hn0, h5⟩ := h
  simp only [Value.slice.injEq] at h1
  obtain ⟨rfl, rfl, rfl⟩ := h1
  exact ⟨rfl, h2⟩

/-- What a law on append asks of the slice that is appended. -/
theorem Sees.news {w : World} {a : Addr} {len cap : Nat} {l : List Nat} (h : Sees w (.slice (some a) len cap) l) : ∀ j u, (enc l)[j]? = some u → w.cell? (a.add j) = some u := by
  intro j u hj
  by_cases hjl : j < l.length
  · obtain ⟨b, o, he, hcell⟩ := h.at (by omega)
    obtain rfl := Option.some.inj he
    rw [enc_get l j hjl] at hj
    have hadd : (⟨b, o, none⟩ : Addr).add j = ⟨b, o + j, none⟩ := by simp [Addr.add]
    rw [hadd, hcell j hjl]
    exact hj
  · rw [List.getElem?_eq_none (by rw [enc_length]; omega)] at hj
    cases hj

theorem Sees.news' {w : World} {b o len cap : Nat} {l : List Nat} (h : Sees w (.slice (some ⟨b, o, none⟩) len cap) l) : ∀ j u, (enc l)[j]? = some u → w.cell? ⟨b, o + j, none⟩ = some u := by
  intro j u hj
  have := h.news j u hj
  have hadd : (⟨b, o, none⟩ : Addr).add j = ⟨b, o + j, none⟩ := by simp [Addr.add]
  rwa [hadd] at this

/-- It is there in every later world. -/
theorem Sees.mono {w w' : World} {v : Value} {l : List Nat} (h : Sees w v l) (hc : ∀ p x, w.cell? p = some x → w'.cell? p = some x) : Sees w' v l := by
  obtain ⟨ao, cap, h1, h2, h3, h4, hn0, h5⟩ := h
  exact ⟨ao, cap, h1, h2, h3, h4, hn0, fun hp => let ⟨b, o, ha, hcell⟩ := h5 hp; ⟨b, o, ha, fun i hi => hc _ _ (hcell i hi)⟩⟩

theorem Sees.below {w w' : World} {v : Value} {l : List Nat} (h : Sees w v l) (hb : Below w.heap.size w w') : Sees w' v l :=
  h.mono fun p x hx => (hb.cell (World.block_lt_of_cell? w p hx)).trans hx

/-- .. the slice cut at its end: 'a[:n:n]'. -/
theorem Sees.take {w : World} {ao : Option Addr} {len cap : Nat} {l : List Nat} (h : Sees w (.slice ao len cap) l) (n : Nat) (hn : n ≤ l.length) : Sees w (.slice ao n n) (l.take n) := by
  obtain ⟨ao', cap', h1, h2, h3, h4, hn0, h5⟩ := h
  simp only [Value.slice.injEq] at h1
  obtain ⟨rfl, rfl, rfl⟩ := h1
  have hl : (l.take n).length = n := by simp; omega
  refine ⟨ao, n, by rw [hl], by omega, by omega, h4.take n, fun e => by have := hn0 e; omega, fun hp => ?_⟩
  obtain ⟨b, o, ha, hcell⟩ := h5 (by omega)
  refine ⟨b, o, ha, fun i hi => ?_⟩
  rw [hl] at hi
  rw [hcell i (by omega), List.getD_eq_getElem?_getD, List.getD_eq_getElem?_getD, List.getElem?_take_of_lt hi]

/-- What 'trim' hands back. -/
def cut (ao : Option Addr) (n : Nat) : Value := if n = 0 then .slice none 0 0 else .slice ao n n

theorem Sees.cut {w : World} {ao : Option Addr} {len cap : Nat} {l : List Nat} (h : Sees w (.slice ao len cap) l) (n : Nat) (hn : n ≤ l.length) : Sees w (cut ao n) (l.take n) := by
  unfold YtjnbonellgpjnaaGreat.cut
  split
  · subst n; simpa using Sees.nil w
  · exact h.take n hn

/-- Block b is one of cells of limbs (none frozen); its first cells hold l. -/
def Row (w : World) (b : Nat) (l : List Nat) : Prop :=
  ∃ cur : Array Value, w.heap[b]? = some (.cells cur 98 (0, 0)) ∧ l.length ≤ cur.size ∧ ∀ i, i < l.length → cur[i]? = some (.int .u32 (l.getD i 0 : Nat))

namespace Row
variable {w w' : World} {b : Nat} {l : List Nat}

theorem cell (h : Row w b l) {i : Nat} (hi : i < l.length) : w.cell? ⟨b, i, none⟩ = some (.int .u32 (l.getD i 0 : Nat)) := by
  obtain ⟨c, hb, _, hc⟩ := h
  simp only [World.cell?, hb]
  simpa using hc i hi

theorem frozen (h : Row w b l) (i : Nat) : w.frozen? ⟨b, i, none⟩ = false := by
  obtain ⟨c, hb, _, _⟩ := h
  simp [World.frozen?, hb]

theorem lt (h : Row w b l) : b < w.heap.size := by
  obtain ⟨c, hb, _, _⟩ := h
  obtain ⟨hlt, _⟩ := Array.getElem?_eq_some_iff.1 hb
  exact hlt

theorem of_block (h : Row w b l) (e : w'.heap[b]? = w.heap[b]?) : Row w' b l := by
  obtain ⟨c, hb, hn, hc⟩ := h
  exact ⟨c, e.trans hb, hn, hc⟩

theorem set (h : Row w b l) (i x : Nat) : Row (w.setCell ⟨b, i, none⟩ (.int .u32 (x : Nat))) b (l.set i x) := by
  obtain ⟨c, hb, hn, hc⟩ := h
  refine ⟨c.setIfInBounds i (.int .u32 (x : Nat)), ?_, by simpa using hn, fun j hj => ?_⟩
  · simp [World.setCell, Array.getElem?_modify, hb]
  · rw [List.length_set] at hj
    rw [Array.getElem?_setIfInBounds, List.getD_eq_getElem?_getD, List.getElem?_set]
    by_cases e : i = j
    · subst e
      rw [if_pos rfl, if_pos (by omega), if_pos rfl, if_pos hj]; rfl
    · rw [if_neg e, if_neg e, hc j hj, List.getD_eq_getElem?_getD]

theorem setOther (h : Row w b l) {a : Addr} (ha : b ≠ a.block) (v : Value) : Row (w.setCell a v) b l := h.of_block (Deep.blk_setCell_other _ _ _ _ ha)
theorem alloc (h : Row w b l) (o : Obj) : Row (w.alloc o) b l := h.of_block (Deep.blk_alloc_lt _ _ _ h.lt)
theorem drew (h : Row w b l) : Row w.drew b l := h
theorem drewN (h : Row w b l) (n : Nat) : Row (w.drewN n) b l := h
theorem below (h : Row w b l) {B : Nat} (hb : Below B w w') (hB : b < B) : Row w' b l := h.of_block (hb.block b hB)
theorem grown (h : Row w b l) {r : Option Nat} (hg : w.grownBy w' r) (hr : some b ≠ r) : Row w' b l := h.of_block (hg.block b h.lt hr)
theorem take (h : Row w b l) (n : Nat) : Row w b (l.take n) := by
  obtain ⟨c, hb, hn, hc⟩ := h
  refine ⟨c, hb, by simp; omega, fun i hi => ?_⟩
  have : i < n ∧ i < l.length := by simpa [List.length_take, Nat.lt_min] using hi
  rw [hc i this.2, List.getD_eq_getElem?_getD, List.getD_eq_getElem?_getD, List.getElem?_take_of_lt this.1]

/-- A slice over it reads as its part of the list. -/
theorem sees (h : Row w b l) (hok : Ok l) (o n cap : Nat) (hn : o + n ≤ l.length) (hc : n ≤ cap) (hcap : n ≤ 70368744177664) : Sees w (.slice (some ⟨b, o, none⟩) n cap) ((l.drop o).take n) := by
  have hl : ((l.drop o).take n).length = n := by simp; omega
  refine ⟨_, cap, by rw [hl], by omega, by omega, (hok.drop o).take n, (fun e => by cases e), fun _ => ⟨b, o, rfl, fun i hi => ?_⟩⟩
  rw [hl] at hi
  rw [h.cell (by omega), List.getD_eq_getElem?_getD, List.getD_eq_getElem?_getD, List.getElem?_take_of_lt hi, List.getElem?_drop]

theorem made (w : World) (n : Nat) : Row (w.alloc (.cells (madeCells #[.int .u32 0] n) 98)) w.heap.size (List.replicate n 0) := by
  refine ⟨_, Deep.blk_alloc_new _ _, by simp [size_madeCells], fun i hi => ?_⟩
  simp at hi
  rw [List.getD_eq_getElem?_getD, List.getElem?_replicate, if_pos hi]
  simp [madeCells, hi, Nat.mod_one]

/-- Out of what a law on append leaves. -/
theorem of_owns {base n g cap : Nat} {l : List Nat} (h : w.ownsRow base 98 1 (.slice (some ⟨g, 0, none⟩) n cap) n (enc l)) : Row w g l ∧ base ≤ g ∧ n = l.length ∧ n ≤ cap ∧ cap ≤ maxLen := by
  obtain ⟨h1, h2⟩ := h
  rw [enc_length, Nat.mul_one] at h1
  rcases h2 with ⟨h2, _⟩ | ⟨g', cap', cur, hv, hg, hh, hnc, hm, hs, ht⟩
  · cases h2
  · simp only [Value.slice.injEq, Option.some.injEq, Addr.mk.injEq] at hv
    obtain ⟨⟨rfl, _, _⟩, _, rfl⟩ := hv
    refine ⟨⟨cur, hh, by simp at hs; omega, fun i hi => ?_⟩, hg, h1.symm, hnc, hm⟩
    have : (cur.toList.take (n * 1))[i]? = some (Value.int .u32 (l.getD i 0 : Nat)) := by
      rw [ht, enc_get l i hi]
    rw [List.getElem?_take_of_lt (by omega)] at this
    simpa using this
end Row

theorem owns_some {w : World} {base n : Nat} {v : Value} {l : List Nat} (h : w.ownsRow base 98 1 v n (enc l)) (hv : v ≠ .slice none 0 0) : ∃ g cap, v = .slice (some ⟨g, 0, none⟩) l.length cap ∧ Row w g l ∧ base ≤ g ∧ l.length ≤ cap ∧ cap ≤ maxLen := by
  have h' := h
  obtain ⟨h1, h2⟩ := h'
  rcases h2 with ⟨h2, _⟩ | ⟨g, cap, cur, rfl, _⟩
  · exact absurd h2 hv
  · obtain ⟨a, b, rfl, c, d⟩ := Row.of_owns h
    exact ⟨g, cap, rfl, a, b, c, d⟩

/-! ### The world but one block -/
theorem grownBy_trans {a b c : World} {r : Option Nat} (h : a.grownBy b r) (k : b.grownBy c r) : a.grownBy c r :=
  ⟨k.os.trans h.os, k.tape.trans h.tape, k.output.trans h.output, Nat.le_trans h.size k.size, fun i hi hr => (k.block i (Nat.lt_of_lt_of_le hi h.size) hr).trans (h.block i hi hr)⟩
theorem grownBy_set {a b : World} {g : Nat} (h : a.grownBy b (some g)) (i : Nat) (v : Value) : a.grownBy (b.setCell ⟨g, i, none⟩ v) (some g) :=
  grownBy_trans h ⟨rfl, rfl, rfl, by rw [Deep.nblk_setCell]; exact Nat.le_refl _, fun k _ hr => Deep.blk_setCell_other _ _ _ _ (fun e => hr (by rw [e]))⟩
theorem grownBy_drew {a b : World} {r : Option Nat} (h : a.grownBy b r) : a.grownBy b.drew r := ⟨h.os, h.tape, h.output, h.size, h.block⟩
theorem grownBy_drewN {a b : World} {r : Option Nat} (h : a.grownBy b r) (n : Nat) : a.grownBy (b.drewN n) r := ⟨h.os, h.tape, h.output, h.size, h.block⟩
theorem grownBy_alloc' {a b : World} {r : Option Nat} (h : a.grownBy b r) (o : Obj) : a.grownBy (b.alloc o) r := grownBy_trans h (World.grownBy_alloc b o r)
theorem grownBy_below {a b : World} {g : Nat} (h : a.grownBy b (some g)) (hg : g < a.heap.size) : Below g a b := ⟨h.os, h.tape, h.output, h.size, fun k hk => h.block k (by omega) (by simp; omega)⟩

/-- A slice that does not lie in the block that is written. -/
theorem Sees.grown {w w' : World} {ao : Option Addr} {len cap : Nat} {l : List Nat} (h : Sees w (.slice ao len cap) l) {g : Nat} (hg : w.grownBy w' (some g)) (hne : ∀ a, ao = some a → a.block ≠ g) : Sees w' (.slice ao len cap) l := by
  obtain ⟨ao', cap', h1, h2, h3, h4, hn0, h5⟩ := h
  simp only [Value.slice.injEq] at h1
  obtain ⟨rfl, rfl, rfl⟩ := h1
  refine ⟨ao, cap, rfl, h2, h3, h4, hn0, fun hp => ?_⟩
  obtain ⟨b, o, rfl, hcell⟩ := h5 hp
  exact ⟨b, o, rfl, fun i hi => hg.cell (hcell i hi) (by simpa using hne _ rfl)⟩

/-- A slice that is written out, in a new block. -/
theorem sees_lit (w : World) (l : List Nat) (hok : Ok l) (hl : l.length ≤ 70368744177664) : Sees (w.alloc (.cells (enc l).toArray 98)) (.slice (some ⟨w.heap.size, 0, none⟩) l.length l.length) l := by
  refine ⟨_, _, rfl, Nat.le_refl _, hl, hok, (fun e => by cases e), fun hp => ⟨w.heap.size, 0, rfl, fun i hi => ?_⟩⟩
  rw [World.cell?_alloc_at _ _ _ _ rfl, Nat.zero_add, List.getElem?_toArray, enc_get l i hi]

/-- Where it lies is a block of the world. -/
theorem Sees.lt {w : World} {a : Addr} {len cap : Nat} {l : List Nat} (h : Sees w (.slice (some a) len cap) l) (hp : 0 < l.length) : a.block < w.heap.size := by
  obtain ⟨b, o, he, hcell⟩ := h.at hp
  obtain rfl := Option.some.inj he
  exact World.block_lt_of_cell? w _ (hcell 0 hp)

/-- The answer is the plain list of x, in new memory or shared; what was there is as it was. -/
def IsNum (w : World) (x : Nat) (e : Ending) (w' : World) : Prop := ∃ v, e = .returned v ∧ Sees w' v (limbs x) ∧ Below w.heap.size w w'

/-- A new row into which a list was copied. -/
theorem Row.of_splice {w : World} {g N : Nat} {l : List Nat} (h : w.heap[g]? = some (.cells (splice (List.replicate N (Value.int .u32 0)) 0 (enc l)).toArray 98 (0, 0))) (hN : l.length ≤ N) : Row w g (l ++ List.replicate (N - l.length) 0) := by
  refine ⟨_, h, by simp [splice, enc_length], fun i hi => ?_⟩
  simp only [List.length_append, List.length_replicate] at hi
  rw [List.getElem?_toArray]
  simp only [splice, List.take_zero, List.nil_append, Nat.zero_add]
  by_cases hil : i < l.length
  · rw [List.getElem?_append_left (by rw [enc_length]; exact hil), enc_get l i hil, List.getD_eq_getElem?_getD, List.getD_eq_getElem?_getD, List.getElem?_append_left hil]
  · rw [List.getElem?_append_right (by rw [enc_length]; omega), List.getD_eq_getElem?_getD, List.getElem?_append_right (by omega), enc_length]
    rw [List.drop_replicate, List.getElem?_replicate, List.getElem?_replicate, if_pos (by omega), if_pos (by omega)]; rfl

end Go.Proofs.YtjnbonellgpjnaaGreat

set_option linter.unusedVariables false
set_option linter.unusedSimpArgs false
namespace Go.Proofs.YtjnbonellgpjnaaGreat
open Go.RowKit

/-- The lowest decimal digit, as a letter. -/
def digB (x : Nat) : UInt8 := UInt8.ofNat (48 + x % 10)
theorem digB_toNat (x : Nat) : (digB x).toNat = 48 + x % 10 := by
  unfold digB
  rw [UInt8.toNat_ofNat']
  omega
theorem digB_zero : digB 0 = 48 := rfl
theorem digB_ne {x : Nat} (h : x % 10 ≠ 0) : digB x ≠ 48 := by
  intro e
  have := congrArg UInt8.toNat e
  rw [digB_toNat] at this
  have h48 : (48 : UInt8).toNat = 48 := rfl
  omega

def decRF : Nat → Nat → List UInt8
  | 0, _ => []
  | f + 1, n => if n = 0 then [] else digB n :: decRF f (n / 10)
/-- The decimal digits, the lowest first. -/
def decR (n : Nat) : List UInt8 := decRF n n
/-- The decimal digits as a text says them. -/
def dec (n : Nat) : List UInt8 := if n = 0 then [48] else (decR n).reverse

theorem decRF_eq (f n : Nat) (h : n ≤ f) : decRF f n = decR n := by
  suffices H : ∀ f g n, n ≤ f → n ≤ g → decRF f n = decRF g n from H f n n h (Nat.le_refl _)
  intro f
  induction f with
  | zero => intro g n h1 _; have : n = 0 := by omega
            subst this; cases g <;> simp [decRF]
  | succ f ih =>
    intro g n h1 h2
    cases g with
    | zero => have : n = 0 := by omega
              subst this; simp [decRF]
    | succ g =>
      by_cases e : n = 0
      · simp [decRF, e]
      · simp only [decRF, e, if_false]
        rw [ih g (n / 10) (by omega) (by omega)]
theorem decR_zero : decR 0 = [] := rfl
theorem decR_pos {n : Nat} (h : 0 < n) : decR n = digB n :: decR (n / 10) := by
  obtain ⟨m, rfl⟩ : ∃ m, n = m + 1 := ⟨n - 1, by omega⟩
  show decRF (m + 1) (m + 1) = _
  simp only [decRF]
  rw [if_neg (by omega), decRF_eq m _ (by omega)]

theorem decR_last {n : Nat} (h : 0 < n) : ∃ l c, decR n = l ++ [c] ∧ c ≠ 48 := by
  induction n using Nat.strongRecOn with
  | _ n ih =>
    rw [decR_pos h]
    by_cases e : n / 10 = 0
    · exact ⟨[], digB n, by rw [e, decR_zero]; rfl, digB_ne (by omega)⟩
    · obtain ⟨l, c, h1, h2⟩ := ih (n / 10) (by omega) (by omega)
      exact ⟨digB n :: l, c, by rw [h1]; rfl, h2⟩

/-- So many digits, the lowest first. -/
def pad (n x : Nat) : List UInt8 := (List.range n).map fun j => digB (x / 10 ^ j)
theorem pad_length (n x : Nat) : (pad n x).length = n := by simp [pad]
theorem pad_succ (n x : Nat) : pad (n + 1) x = digB x :: pad n (x / 10) := by
  unfold pad
  rw [List.range_succ_eq_map, List.map_cons, List.map_map]
  congr 1
  · simp
  · apply List.map_congr_left
    intro j _
    simp only [Function.comp_apply]
    rw [Nat.pow_succ, Nat.mul_comm (10 ^ j) 10, Nat.div_div_eq_div_mul]
theorem pad_zero (n : Nat) : pad n 0 = List.replicate n 48 := by
  induction n with
  | zero => rfl
  | succ n ih => rw [pad_succ, Nat.zero_div, ih, digB_zero]; rfl
theorem pad_eq (n x : Nat) (h : x < 10 ^ n) : ∃ k, pad n x = decR x ++ List.replicate k 48 := by
  induction n generalizing x with
  | zero => have : x = 0 := by simpa using h
            subst this; exact ⟨0, rfl⟩
  | succ n ih =>
    by_cases e : x = 0
    · subst e; exact ⟨n + 1, by rw [pad_zero, decR_zero]; rfl⟩
    · obtain ⟨k, hk⟩ := ih (x / 10) (by rw [Nat.pow_succ] at h; omega)
      exact ⟨k, by rw [pad_succ, hk, decR_pos (Nat.pos_of_ne_zero e)]; rfl⟩

theorem dropWhile_replicate (k : Nat) (l : List UInt8) : (List.replicate k 48 ++ l).dropWhile (· == 48) = l.dropWhile (· == 48) := by
  induction k with
  | zero => rfl
  | succ k ih => rw [List.replicate_succ, List.cons_append, List.dropWhile_cons, if_pos (by decide), ih]

/-- What is left of so many digits when the noughts ahead are struck. -/
theorem trim_pad (n x : Nat) (h : x < 10 ^ n) (hx : 0 < x) : (pad n x).reverse.dropWhile (· == 48) = dec x := by
  obtain ⟨k, hk⟩ := pad_eq n x h
  obtain ⟨l, c, hl, hc⟩ := decR_last hx
  unfold dec
  rw [if_neg (by omega), hk, List.reverse_append, List.reverse_replicate, dropWhile_replicate, hl, List.reverse_append]
  simp [hc]

/-- Block b is one of bytes (none frozen); it begins with t. -/
def Row8 (w : World) (b : Nat) (l : List UInt8) : Prop :=
  ∃ cur : Array Value, w.heap[b]? = some (.cells cur 5 (0, 0)) ∧ l.length ≤ cur.size ∧ ∀ i, i < l.length → cur[i]? = some (.int .u8 ((l.getD i 0).toNat : Nat))
namespace Row8
variable {w w' : World} {b : Nat} {l : List UInt8}
theorem cell (h : Row8 w b l) {i : Nat} (hi : i < l.length) : w.cell? ⟨b, i, none⟩ = some (.int .u8 ((l.getD i 0).toNat : Nat)) := by
  obtain ⟨c, hb, _, hc⟩ := h
  simp only [World.cell?, hb]
  simpa using hc i hi
theorem frozen (h : Row8 w b l) (i : Nat) : w.frozen? ⟨b, i, none⟩ = false := by
  obtain ⟨c, hb, _, _⟩ := h
  simp [World.frozen?, hb]
theorem lt (h : Row8 w b l) : b < w.heap.size := by
  obtain ⟨c, hb, _, _⟩ := h
  obtain ⟨hlt, _⟩ := Array.getElem?_eq_some_iff.1 hb
  exact hlt
theorem of_block (h : Row8 w b l) (e : w'.heap[b]? = w.heap[b]?) : Row8 w' b l := by
  obtain ⟨c, hb, hn, hc⟩ := h
  exact ⟨c, e.trans hb, hn, hc⟩
theorem set (h : Row8 w b l) (i : Nat) (x : UInt8) : Row8 (w.setCell ⟨b, i, none⟩ (.int .u8 (x.toNat : Nat))) b (l.set i x) := by
  obtain ⟨c, hb, hn, hc⟩ := h
  refine ⟨c.setIfInBounds i (.int .u8 (x.toNat : Nat)), ?_, by simpa using hn, fun j hj => ?_⟩
  · simp [World.setCell, Array.getElem?_modify, hb]
  · rw [List.length_set] at hj
    rw [Array.getElem?_setIfInBounds, List.getD_eq_getElem?_getD, List.getElem?_set]
    by_cases e : i = j
    · subst e
      rw [if_pos rfl, if_pos (by omega), if_pos rfl, if_pos hj]; rfl
    · rw [if_neg e, if_neg e, hc j hj, List.getD_eq_getElem?_getD]
theorem grown (h : Row8 w b l) {r : Option Nat} (hg : w.grownBy w' r) (hr : some b ≠ r) : Row8 w' b l := h.of_block (hg.block b h.lt hr)
theorem made (w : World) (n : Nat) : Row8 (w.alloc (.cells (madeCells #[.int .u8 0] n) 5)) w.heap.size (List.replicate n 0) := by
  refine ⟨_, Deep.blk_alloc_new _ _, by simp [size_madeCells], fun i hi => ?_⟩
  simp at hi
  rw [List.getD_eq_getElem?_getD, List.getElem?_replicate, if_pos hi]
  simp [madeCells, hi, Nat.mod_one]
end Row8

theorem getD8_set_ne (s : List UInt8) (i j : Nat) (x : UInt8) (h : i ≠ j) : (s.set i x).getD j 0 = s.getD j 0 := by
  rw [List.getD_eq_getElem?_getD, List.getD_eq_getElem?_getD, List.getElem?_set_ne h]
theorem getD8_set_eq (s : List UInt8) (i : Nat) (x : UInt8) (h : i < s.length) : (s.set i x).getD i 0 = x := by
  rw [List.getD_eq_getElem?_getD, List.getElem?_set_self h]; rfl

/-- What 'writeGroup' has done: the k lowest digits of x stand at the end of the n letters from o on. -/
structure Wrote (s : List UInt8) (o n x k : Nat) (t : List UInt8) : Prop where
  len : t.length = s.length
  out : ∀ j, j < o + n - k ∨ o + n ≤ j → t.getD j 0 = s.getD j 0
  dig : ∀ i, i < k → t.getD (o + n - 1 - i) 0 = digB (x / 10 ^ i)
theorem Wrote.start (s : List UInt8) (o n x : Nat) : Wrote s o n x 0 s := ⟨rfl, fun _ _ => rfl, fun i hi => absurd hi (by omega)⟩
theorem Wrote.step {s t : List UInt8} {o n x k : Nat} (h : Wrote s o n x k t) (hk : k < n) (hn : o + n ≤ s.length) : Wrote s o n x (k + 1) (t.set (o + (n - 1 - k)) (digB (x / 10 ^ k))) := by
  have e : o + (n - 1 - k) = o + n - 1 - k := by omega
  rw [e]
  refine ⟨by rw [List.length_set]; exact h.len, fun j hj => ?_, fun i hi => ?_⟩
  · rw [getD8_set_ne _ _ _ _ (by omega)]; exact h.out j (by omega)
  · by_cases e : i = k
    · subst e; rw [getD8_set_eq _ _ _ (by rw [h.len]; omega)]
    · rw [getD8_set_ne _ _ _ _ (by omega)]; exact h.dig i (by omega)

end Go.Proofs.YtjnbonellgpjnaaGreat

set_option linter.unusedVariables false
set_option linter.unusedSimpArgs false
namespace Go.Proofs.YtjnbonellgpjnaaGreat
open Go.RowKit

theorem ret_eq {a b : Value} (h : a = b) : Ending.returned a = .returned b := by rw [h]

theorem trim_any (ao : Option Addr) (len cap : Nat) (l : List Nat) (w : World) (h : Sees w (.slice ao len cap) l) :
    Calls Tryz.prog 97 #[.slice ao len cap] w fun e w' => e = .returned (cut ao (limbs (val l)).length) ∧ w = w' := by
  have hok := h.ok
  obtain ⟨ao', cap', h1, h2, h3, h4, hn0, h5⟩ := h
  simp only [Value.slice.injEq] at h1
  obtain ⟨rfl, rfl, rfl⟩ := h1
  have H5 := hid h5
  clear h5
  go_enter Tryz.func97, Tryz.ntmps97
  go_wp2
  go_loop [7] (fun v => ∃ k : Nat, k ≤ l.length ∧ v = .int .i64 k ∧ Hid (∀ i, l.length - k ≤ i → i < l.length → l.getD i 0 = 0)) (fun v => l.length - (intOf v).toNat)
  case atStart => exact ⟨0, Nat.zero_le _, rfl, fun i hi hi' => absurd hi' (by omega)⟩
  case round =>
    obtain ⟨k, hk, rfl, hz⟩ := hrel
    by_cases hlt : k < l.length
    · obtain ⟨b, o, rfl, hcell⟩ := H5.out (by omega)
      have hc := hcell (l.length - k - 1) (by omega)
      clear hcell
      go_wp2
      · have ht : ((l[l.length - k - 1]?.getD 0 : Nat) != (0 : Int)) = true := by assumption
        have e := limbs_val_take hok (l.length - k) (by omega) hz.out (fun _ => by
          intro h0; rw [List.getD_eq_getElem?_getD] at h0; rw [h0] at ht; simp at ht)
        have hl : (limbs (val l)).length = l.length - k := by rw [e]; simp
        go_ret
        refine ⟨ret_eq ?_, rfl⟩
        rw [hl]; unfold cut; rw [if_neg (by omega)]; rfl
      · have ht : ((l[l.length - k - 1]?.getD 0 : Nat) != (0 : Int)) = false := by assumption
        have hz' : ∀ i, l.length - (k + 1) ≤ i → i < l.length → l.getD i 0 = 0 := by
          intro i hi hi'
          by_cases e : i = l.length - k - 1
          · subst e; rw [List.getD_eq_getElem?_getD]; simpa using ht
          · exact hz.out i (by omega) hi'
        have HZ := hid hz'
        clear hz' hz
        go_round
        case rel => exact ⟨k + 1, by omega, by go_num, HZ⟩
        case measure => simp [intOf]; omega
    · have e := limbs_val_take hok 0 (by omega) (fun i _ hi => hz.out i (by omega) hi) (fun h => absurd h (by omega))
      have hl : (limbs (val l)).length = 0 := by rw [e]; simp
      have HL := hid hl
      clear hl e hz
      go_wp2
      go_ret
      refine ⟨ret_eq ?_, rfl⟩
      rw [HL.out]; rfl

theorem info_u32 : (Tryz.prog.info? 98).map (fun i => (i.zero, i.size, i.bytes)) = some (some (.int .u32 0), 1, 4) := by kernel_rfl

/-- slices.Clone, of a slice that is not nil. -/
theorem clone_some (a : Addr) (len cap : Nat) (l : List Nat) (w : World) (hS : Sees w (.slice (some a) len cap) l) (hl : l.length ≤ 35184372088832) :
    Calls Tryz.prog 119 #[.slice (some a) len cap] w fun e w' => ∃ g c, e = .returned (.slice (some ⟨g, 0, none⟩) l.length c) ∧ w.heap.size ≤ g ∧ Row w' g l ∧ l.length ≤ c ∧ c ≤ maxLen ∧ Below w.heap.size w w' := by
  have h := hS
  obtain ⟨ao', cap', h1, h2, h3, h4, hn0, h5⟩ := h
  simp only [Value.slice.injEq] at h1
  obtain ⟨rfl, rfl, rfl⟩ := h1
  obtain ⟨i0, hi, hz0, hz1, hz2⟩ := info_parts info_u32
  have q22 : ∀ (w : World) (a : Option Addr) (n c n' c' : Nat), (binOp .eql 22 (.slice a n c) (.slice none n' c')).run Tryz.prog w = .ok (.bool a.isNone) w := fun w a n c n' c' => Lib.run_eql_slice_nil w _ _ a n c n' c' Tryz.underlying22
  have H5 := hid hS
  clear h5 hS
  go_enter Tryz.func119, Tryz.ntmps119
  go_wp2_with (at_builtin; refine wpList_append_own _ rfl _ _ 22 rfl w.heap.size 98 i0 (.int .u32 0) 1 4 Tryz.underlying22 hi hz0 hz1 hz2 rfl (by decide) _ _ _ rfl (World.ownsRow_made w #[] 0 (Nat.le_refl _) (Nat.zero_le _) (by simp)) a l.length cap (enc l) rfl ?qc1 ?qc2 ?qc3 ?qc4 ?qc5 ?qc6 ?_)
  case qc1 => rw [enc_length, Nat.mul_one]
  case qc2 => exact (Sees.below H5.out ((Below.refl _ w).alloc (Nat.le_refl _) _)).news
  case qc3 => exact enc_one l
  case qc4 => unfold maxLen; omega
  case qc5 => omega
  case qc6 => simp
  intro v' w1 hown hgrow hnil
  obtain ⟨g, c, rfl, hrow, hg, hlc, hc⟩ := owns_some hown hnil
  have HR := hid hrow
  clear hown hnil hrow
  go_wp2
  go_ret
  exact ⟨g, c, rfl, hg, HR, hlc, hc, ((Below.refl _ w).alloc (Nat.le_refl _) _).grown hgrow (by simp) (by intro k hk; simp [Value.ownBlock] at hk; omega)⟩

/-- .. of nil. -/
theorem clone_nil (n c : Nat) (w : World) :
    Calls Tryz.prog 119 #[.slice none n c] w fun e w' => e = .returned (.slice none 0 0) ∧ w = w' := by
  have q22 : ∀ (w : World) (a : Option Addr) (n c n' c' : Nat), (binOp .eql 22 (.slice a n c) (.slice none n' c')).run Tryz.prog w = .ok (.bool a.isNone) w := fun w a n c n' c' => Lib.run_eql_slice_nil w _ _ a n c n' c' Tryz.underlying22
  go_enter Tryz.func119, Tryz.ntmps119
  go_wp2
  go_ret
  exact ⟨rfl, rfl⟩


/-- nat.Plain: nil, or a new row that begins with the plain list. -/
def IsPlain (w : World) (l : List Nat) (e : Ending) (w' : World) : Prop :=
  ∃ v, e = .returned v ∧ Below w.heap.size w w' ∧ ((limbs (val l) = [] ∧ v = .slice none 0 0) ∨ (∃ g c, v = .slice (some ⟨g, 0, none⟩) (limbs (val l)).length c ∧ (limbs (val l)).length ≤ c ∧ 0 < (limbs (val l)).length ∧ w.heap.size ≤ g ∧ Row w' g (limbs (val l))))

theorem IsPlain.sees {w w' : World} {l : List Nat} {e : Ending} (h : IsPlain w l e w') (hl : (limbs (val l)).length ≤ 70368744177664) : ∃ v, e = .returned v ∧ Sees w' v (limbs (val l)) ∧ Below w.heap.size w w' := by
  obtain ⟨v, rfl, hb, ⟨h0, rfl⟩ | ⟨g, c, rfl, hc, hp, hg, hrow⟩⟩ := h
  · exact ⟨_, rfl, by rw [h0]; exact Sees.nil _, hb⟩
  · refine ⟨_, rfl, ?_, hb⟩
    have := hrow.sees (limbs_ok _) 0 (limbs (val l)).length c (by omega) hc hl
    simpa using this

/-- .. and nothing of it lies in memory that was there. -/
def Fresh (w : World) (v : Value) : Prop := ∀ a n c, v = .slice (some a) n c → w.heap.size ≤ a.block
theorem IsPlain.fresh {w w' : World} {l : List Nat} {e : Ending} (h : IsPlain w l e w') (hl : (limbs (val l)).length ≤ 70368744177664) : ∃ v, e = .returned v ∧ Sees w' v (limbs (val l)) ∧ Below w.heap.size w w' ∧ Fresh w v := by
  obtain ⟨v, he, hs, hb⟩ := h.sees hl
  refine ⟨v, he, hs, hb, ?_⟩
  obtain ⟨v', he', _, ⟨_, hv⟩ | ⟨g, c, hv, _, _, hg, _⟩⟩ := h
  · rw [he] at he'; obtain rfl := Ending.returned.inj he'
    intro a n c e; rw [hv] at e; cases e
  · rw [he] at he'; obtain rfl := Ending.returned.inj he'
    intro a n c' e; rw [hv] at e; simp only [Value.slice.injEq, Option.some.injEq] at e; obtain ⟨rfl, _, _⟩ := e; exact hg
theorem Fresh.mono {a w : World} {v : Value} (h : Fresh w v) (hs : a.heap.size ≤ w.heap.size) : Fresh a v := fun p n c e => Nat.le_trans hs (h p n c e)

theorem Sees.grown' {w w' : World} {v : Value} {l : List Nat} (h : Sees w v l) {r : Option Nat} (hg : w.grownBy w' r) (hne : ∀ a n c, v = .slice (some a) n c → some a.block ≠ r) : Sees w' v l := by
  obtain ⟨ao, cap, rfl, h2, h3, h4, hn0, h5⟩ := h
  refine ⟨ao, cap, rfl, h2, h3, h4, hn0, fun hp => ?_⟩
  obtain ⟨b, o, rfl, hcell⟩ := h5 hp
  exact ⟨b, o, rfl, fun i hi => hg.cell (hcell i hi) (show some b ≠ r from hne ⟨b, o, none⟩ _ _ rfl)⟩

theorem plain_any (v : Value) (l : List Nat) (w : World) (h : Sees w v l) (hl : l.length ≤ 35184372088832) :
    Calls Tryz.prog 112 #[v] w fun e w' => IsPlain w l e w' := by
  have hS := h
  obtain ⟨ao, cap, rfl, h2, h3, h4, hn0, h5⟩ := h
  have H5 := hid h5
  clear h5
  match ao, hS with
  | none, hS =>
    have hl0 : l = [] := by
      cases l with
      | nil => rfl
      | cons x t => obtain ⟨_, _, h, _⟩ := H5.out (by simp); cases h
    subst hl0
    go_enter Tryz.func112, Tryz.ntmps112
    go_wp2_with fail
    refine (clone_nil _ _ _).mono ?_
    rintro e w' ⟨rfl, rfl⟩
    go_wp2_with fail
    refine (trim_any none 0 0 [] _ (Sees.nil _)).mono ?_
    rintro e w' ⟨rfl, rfl⟩
    go_wp2
    go_ret
    exact ⟨_, rfl, Below.refl _ _, .inl ⟨rfl, rfl⟩⟩
  | some a, hS =>
    go_enter Tryz.func112, Tryz.ntmps112
    go_wp2_with fail
    refine (clone_some a _ _ _ _ hS hl).mono ?_
    rintro e w1 ⟨g, c, rfl, hg, hrow, hlc, hc, hb⟩
    have hs : Sees w1 (.slice (some ⟨g, 0, none⟩) l.length c) l := by
      have := hrow.sees h4 0 l.length c (by omega) hlc h3
      simpa using this
    have HR := hid hrow
    clear hrow
    go_wp2_with fail
    refine (trim_any _ _ _ l _ hs).mono ?_
    rintro e w' ⟨rfl, rfl⟩
    go_wp2
    go_ret
    refine ⟨_, rfl, hb, ?_⟩
    obtain ⟨e, hle⟩ := limbs_prefix h4
    by_cases h0 : (limbs (val l)).length = 0
    · exact .inl ⟨List.eq_nil_of_length_eq_zero h0, by unfold cut; rw [if_pos h0]; rfl⟩
    · refine .inr ⟨g, _, by unfold cut; rw [if_neg h0]; rfl, Nat.le_refl _, by omega, hg, ?_⟩
      have := HR.out.take (limbs (val l)).length
      rwa [← e] at this

/-- What trim hands back reads as the plain list. -/
theorem sees_trim {w : World} {ao : Option Addr} {len cap : Nat} {l : List Nat} (h : Sees w (.slice ao len cap) l) : Sees w (cut ao (limbs (val l)).length) (limbs (val l)) := by
  obtain ⟨e, hl⟩ := limbs_prefix h.ok
  have := h.cut _ hl
  rwa [← e] at this

/-- What trim hands back, as callers take it: the address stays open. -/
def Trimmed (w : World) (ao : Option Addr) (x : Nat) (e : Ending) : Prop :=
  ∃ A, e = .returned (.slice A (limbs x).length (limbs x).length) ∧ Sees w (.slice A (limbs x).length (limbs x).length) (limbs x) ∧ (0 < (limbs x).length → A = ao)

theorem trim_sees (ao : Option Addr) (len cap : Nat) (l : List Nat) (w : World) (h : Sees w (.slice ao len cap) l) :
    Calls Tryz.prog 97 #[.slice ao len cap] w fun e w' => Trimmed w ao (val l) e ∧ w = w' := by
  refine (trim_any ao len cap l w h).mono ?_
  rintro e w' ⟨rfl, rfl⟩
  have hs := sees_trim h
  unfold cut at hs ⊢
  by_cases h0 : (limbs (val l)).length = 0
  · rw [if_pos h0] at hs ⊢
    refine ⟨⟨none, by rw [h0], ?_, fun h => absurd h (by omega)⟩, rfl⟩
    rwa [h0]
  · rw [if_neg h0] at hs ⊢
    exact ⟨⟨ao, rfl, hs, fun _ => rfl⟩, rfl⟩

end Go.Proofs.YtjnbonellgpjnaaGreat

set_option linter.unusedVariables false
set_option linter.unusedSimpArgs false
namespace Go.Proofs.YtjnbonellgpjnaaGreat
open Go.RowKit

theorem ret_int' {k : IntKind} {a b : Int} (h : a = b) : Ending.returned (.int k a) = .returned (.int k b) := by rw [h]

/-- One step of a division by a limb, as the walk spells it. -/
theorem div_step (u r b : Nat) (hu : u < 4294967296) (hr : r < b) (hb : b < 4294967296) : ∃ x q r' : Nat, q < 4294967296 ∧ r' < b ∧ Hid (r * 4294967296 + u = b * q + r') ∧
    bits BinOp.or IntKind.u64 ((r : Int) * 4294967296) (u : Int) = (x : Int) ∧ (x : Int) / (b : Int) = (q : Int) ∧ (x : Int) % (b : Int) = (r' : Int) := by
  have hx : r * 4294967296 + u < b * 4294967296 := by
    have : (r + 1) * 4294967296 ≤ b * 4294967296 := Nat.mul_le_mul_right _ hr
    omega
  have hor : bits BinOp.or IntKind.u64 ((r : Int) * 4294967296) (u : Int) = ((r * 4294967296 + u : Nat) : Int) := by
    have h1 : ((r : Int) * 4294967296) = ((r * 4294967296 : Nat) : Int) := by rw [Int.natCast_mul]; rfl
    have h2 : r * 4294967296 < 18446744073709551616 := Nat.lt_of_le_of_lt (Nat.mul_le_mul_right 4294967296 (show r ≤ 4294967295 by omega)) (by decide)
    have h3 : u < 18446744073709551616 := Nat.lt_trans hu (by decide)
    have e32 : (2 : Nat) ^ 32 = 4294967296 := by decide
    have h4 : r * 4294967296 % 2 ^ 32 = 0 := by rw [e32]; exact Nat.mul_mod_left r 4294967296
    have h5 : u < 2 ^ 32 := by rw [e32]; exact hu
    rw [h1, u64_or_nat _ _ h2 h3, nat_join 32 _ _ h4 h5]
  refine ⟨r * 4294967296 + u, (r * 4294967296 + u) / b, (r * 4294967296 + u) % b, Nat.div_lt_of_lt_mul hx, Nat.mod_lt _ (by omega), (Nat.div_add_mod _ b).symm, hor, ?_, ?_⟩
  · exact (Int.natCast_ediv _ _).symm
  · exact (Int.natCast_emod _ _).symm

/-- What divideInPlace leaves. -/
def Divided (w : World) (g b : Nat) (s : List Nat) (e : Ending) (w' : World) : Prop :=
  ∃ (t : List Nat) (r : Nat), e = .returned (.int .u32 r) ∧ r = val s % b ∧ r < b ∧ t.length = s.length ∧ Ok t ∧ val t = val s / b ∧ Row w' g t ∧ w.grownBy w' (some g)

theorem nat_divideInPlace (g cap b : Nat) (s : List Nat) (w : World) (hr : Row w g s) (hs : Ok s) (hb : 0 < b) (hb' : b < 4294967296) (hsl : s.length ≤ 70368744177664) :
    Calls Tryz.prog 120 #[.slice (some ⟨g, 0, none⟩) s.length cap, .int .u32 b] w fun e w' => Divided w g b s e w' := by
  have HR := hid hr; have HS := hid hs
  clear hr hs
  go_enter Tryz.func120, Tryz.ntmps120
  go_wp2
  go_loopw [5, 10] (fun v5 v wr => ∃ (k r : Nat) (t : List Nat), k ≤ s.length ∧ v = .int .i64 k ∧ v5 = .int .u64 r ∧ r < b ∧ Hid (DivBy s b k t r) ∧ Hid (Row wr g t) ∧ Hid (w.grownBy wr (some g))) (fun _ v _ => s.length - (intOf v).toNat)
  case atStart => exact ⟨0, 0, s, Nat.zero_le _, rfl, rfl, hb, DivBy.start HS.out b hb, HR, World.grownBy.refl _ _⟩
  case round =>
    obtain ⟨k, r, t, hk, rfl, rfl, hrb, ha, hrow, hg⟩ := hrel
    by_cases hlt : k < s.length
    · have htl := ha.out.len
      have hca := hrow.out.cell (i := s.length - 1 - k) (by omega)
      have hfr := hrow.out.frozen (s.length - 1 - k)
      have hox := ha.out.ok.getD (s.length - 1 - k)
      have hsame := ha.out.low (s.length - 1 - k) (by omega)
      obtain ⟨x, q, r', hq, hr', hx, hor, hdq, hdr⟩ := div_step (t.getD (s.length - 1 - k) 0) r b hox hrb hb'
      have hstep := ha.out.step hlt q r' hq hr' (by rw [← hsame]; exact hx.out)
      have HStep := hid hstep
      have HRow := hid (hrow.out.set (s.length - 1 - k) q)
      have HG := hid (grownBy_set (i := s.length - 1 - k) (v := .int .u32 (q : Nat)) hg.out)
      clear hsame hstep hx
      generalize t.getD (s.length - 1 - k) 0 = u at *
      go_wp2
      go_roundw
      case rel => exact ⟨k + 1, r', t.set (s.length - 1 - k) q, by omega, by go_num, by rw [hdr], hr', HStep, HRow, HG⟩
      case measure => simp [intOf]; omega
    · obtain rfl : k = s.length := by omega
      have hv := ha.out.total
      have hlen := ha.out.len
      have hok := ha.out.ok
      obtain ⟨hv1, hv2⟩ := hv
      have HV := hid hv2
      have HF : Hid (t.length = s.length ∧ Ok t ∧ val t = val s / b) := ⟨hlen, hok, hv1⟩
      clear hv1 hv2 hlen hok ha
      go_wp2
      go_ret
      obtain ⟨f1, f2, f3⟩ := HF.out
      exact ⟨t, r, rfl, HV.out, hrb, f1, f2, f3, hrow.out, hg.out⟩
theorem nat_fromWord (x : Nat) (hx : x < 18446744073709551616) (w : World) :
    Calls Tryz.prog 86 #[.int .u64 x] w fun e w' => IsNum w x e w' := by
  have hok : Ok [x % 4294967296, x / 4294967296] := Ok.cons (by omega) (Ok.cons (by omega) Ok.nil)
  have hs := sees_lit w [x % 4294967296, x / 4294967296] hok (by simp)
  have hv : val [x % 4294967296, x / 4294967296] = x := by simp only [val_cons, val_nil]; omega
  have HV := hid hv
  have HS : Hid (Sees (w.alloc (.cells #[.int .u32 ((x : Int) % 4294967296), .int .u32 ((x : Int) / 4294967296)] 98)) (.slice (some ⟨w.heap.size, 0, none⟩) 2 2) [x % 4294967296, x / 4294967296]) := hs
  have HB := hid ((Below.refl w.heap.size w).alloc (Nat.le_refl _) (.cells #[.int .u32 ((x : Int) % 4294967296), .int .u32 ((x : Int) / 4294967296)] 98))
  clear hs hv hok
  go_enter Tryz.func86, Tryz.ntmps86
  go_wp2_with fail
  refine (trim_sees _ _ _ _ _ HS.out).mono ?_
  rintro e w' ⟨⟨R, rfl, hR, -⟩, rfl⟩
  have HR := hid hR; clear hR
  go_wp2
  go_ret
  exact ⟨_, rfl, by rw [HV.out] at HR ⊢; exact HR.out, HB.out⟩

/-- A quotient, a rest, true. -/
def IsDiv (w : World) (x y : Nat) (e : Ending) (w' : World) : Prop := ∃ q r, e = .returned (.tuple #[q, r, .bool true]) ∧ Sees w' q (limbs (x / y)) ∧ Sees w' r (limbs (x % y)) ∧ Below w.heap.size w w'

end Go.Proofs.YtjnbonellgpjnaaGreat

set_option linter.unusedVariables false
set_option linter.unusedSimpArgs false
namespace Go.Proofs.YtjnbonellgpjnaaGreat
open Go.RowKit

/-- What writeGroup leaves. -/
def GroupWritten (w : World) (g o n x : Nat) (s : List UInt8) (e : Ending) (w' : World) : Prop :=
  ∃ t, e = .returned (.tuple #[]) ∧ Wrote s o n x n t ∧ Row8 w' g t ∧ w.grownBy w' (some g)

theorem info_u8 : (Tryz.prog.info? 5).map (fun i => (i.zero, i.size, i.bytes)) = some (some (.int .u8 0), 1, 1) := by kernel_rfl

/-- The groups of nine digits, the lowest first. -/
def Groups (x : Nat) (gs : List Nat) : Prop := ∀ j, j < gs.length → gs.getD j 0 = x / 1000000000 ^ j % 1000000000
theorem Groups.push {x : Nat} {gs : List Nat} (h : Groups x gs) (r : Nat) (hr : r = x / 1000000000 ^ gs.length % 1000000000) : Groups x (gs ++ [r]) := by
  intro j hj
  rw [List.length_append] at hj
  simp only [List.length_singleton] at hj
  rw [List.getD_eq_getElem?_getD]
  by_cases e : j < gs.length
  · rw [List.getElem?_append_left e, ← List.getD_eq_getElem?_getD]; exact h j e
  · have : j = gs.length := by omega
    subst this
    rw [List.getElem?_append_right (Nat.le_refl _)]
    simpa using hr

theorem pow_nine (i : Nat) : 1000000000 ^ i = 10 ^ (9 * i) := by rw [Nat.pow_mul]

theorem pow_limbs' (k : Nat) : 4294967296 ^ k = 2 ^ (32 * k) := by rw [Nat.pow_mul]

/-- So many rounds at most. -/
theorem rounds_le {x i L : Nat} (h : 0 < x / 1000000000 ^ i) (hx : x < 4294967296 ^ L) : i < 32 * L := by
  have h1 : 1000000000 ^ i ≤ x := by
    rcases Nat.lt_or_ge x (1000000000 ^ i) with h2 | h2
    · rw [Nat.div_eq_of_lt h2] at h; omega
    · exact h2
  have h2 : 2 ^ i ≤ 1000000000 ^ i := Nat.pow_le_pow_left (by decide) i
  rw [pow_limbs'] at hx
  have h3 : 2 ^ i < 2 ^ (32 * L) := by omega
  exact (Nat.pow_lt_pow_iff_right (by decide)).1 h3

theorem digB_congr {a b : Nat} (h : a % 10 = b % 10) : digB a = digB b := by unfold digB; rw [h]
theorem group_digit (x i r : Nat) (hr : r < 9) : digB (x / 1000000000 ^ i % 1000000000 / 10 ^ r) = digB (x / 10 ^ (9 * i + r)) := by
  apply digB_congr
  have e : 1000000000 = 10 ^ r * 10 ^ (9 - r) := by rw [← Nat.pow_add]; rw [show r + (9 - r) = 9 from by omega]
  have h1 : x / 1000000000 ^ i % 1000000000 / 10 ^ r = x / 1000000000 ^ i / 10 ^ r % 10 ^ (9 - r) := by
    conv => lhs; rw [show (x / 1000000000 ^ i % 1000000000) = x / 1000000000 ^ i % (10 ^ r * 10 ^ (9 - r)) from by rw [← e]]
    exact Nat.mod_mul_right_div_self _ _ _
  rw [h1, Nat.mod_mod_of_dvd _ (by
    obtain ⟨d, hd⟩ : ∃ d, 9 - r = d + 1 := ⟨8 - r, by omega⟩
    rw [hd, Nat.pow_succ]; exact Nat.dvd_mul_left _ _), pow_nine, Nat.div_div_eq_div_mul, ← Nat.pow_add]

/-- What has been written behind i groups. -/
def Digits (x K i : Nat) (t : List UInt8) : Prop := t.length = 9 * K ∧ ∀ j, j < 9 * i → t.getD (9 * K - 1 - j) 0 = digB (x / 10 ^ j)
theorem Digits.step {x K i : Nat} {t t' : List UInt8} (h : Digits x K i t) (hi : i < K) (hw : Wrote t (9 * K - 9 * i - 9) 9 (x / 1000000000 ^ i % 1000000000) 9 t') : Digits x K (i + 1) t' := by
  obtain ⟨h1, h2⟩ := h
  refine ⟨by rw [hw.len]; exact h1, fun j hj => ?_⟩
  by_cases e : j < 9 * i
  · rw [hw.out _ (.inr (by omega))]; exact h2 j e
  · have hd := hw.dig (j - 9 * i) (by omega)
    have e1 : 9 * K - 9 * i - 9 + 9 - 1 - (j - 9 * i) = 9 * K - 1 - j := by omega
    have e2 : 9 * i + (j - 9 * i) = j := by omega
    rw [e1, group_digit _ _ _ (by omega), e2] at hd
    exact hd
theorem Digits.done {x K : Nat} {t : List UInt8} (h : Digits x K K t) : t = (pad (9 * K) x).reverse := by
  obtain ⟨h1, h2⟩ := h
  apply List.ext_getElem?
  intro j
  by_cases hj : j < 9 * K
  · have := h2 (9 * K - 1 - j) (by omega)
    rw [show 9 * K - 1 - (9 * K - 1 - j) = j from by omega, List.getD_eq_getElem?_getD, List.getElem?_eq_getElem (by omega)] at this
    rw [List.getElem?_eq_getElem (by omega), List.getElem?_reverse (by rw [pad_length]; exact hj), pad_length]
    unfold pad
    rw [List.getElem?_map, List.getElem?_range (by omega)]
    simpa using this
  · rw [List.getElem?_eq_none (by omega), List.getElem?_eq_none (by rw [List.length_reverse, pad_length]; omega)]

end Go.Proofs.YtjnbonellgpjnaaGreat

set_option linter.unusedVariables false
set_option linter.unusedSimpArgs false
namespace Go.Proofs.YtjnbonellgpjnaaGreat
open Go.RowKit

theorem quiet_add_left {P : Program} {f : FuncId} {args : Array Value} {w : World} {a n : Nat} {v : Value}
    (h : Calls P f args (w.drewN (a + n)) fun e w' => e = .returned v ∧ w.drewN (a + n) = w') :
    Calls P f args (w.drewN (a + n)) fun e w'' => e = .returned v ∧ ∃ m, w'' = w.drewN (a + m) :=
  h.mono fun _ _ ⟨he, hm⟩ => ⟨he, n, hm.symm⟩
theorem quiet_left {P : Program} {f : FuncId} {args : Array Value} {w : World} {n : Nat} {v : Value}
    (h : Calls P f args (w.drewN n) fun e w' => e = .returned v ∧ w.drewN n = w') : Calls P f args (w.drewN n) fun e w'' => e = .returned v ∧ ∃ m, w'' = w.drewN m :=
  h.mono fun _ _ ⟨he, hm⟩ => ⟨he, n, hm.symm⟩

theorem order_any (b : Bool) (w : World) :
    Calls Tryz.prog 99 #[.bool b] w fun e w' => e = .returned (.int .i64 (if b then -1 else 1)) ∧ w = w' := by
  cases b <;> (go_enter Tryz.func99, Tryz.ntmps99; go_wp2; go_ret; exact ⟨rfl, rfl⟩)

/-- -1, 0 or 1. -/
def cmpI (x y : Nat) : Int := if x < y then -1 else if y < x then 1 else 0
theorem cmpI_lt {x y : Nat} (h : x < y) : cmpI x y = -1 := by unfold cmpI; rw [if_pos h]
theorem cmpI_gt {x y : Nat} (h : y < x) : cmpI x y = 1 := by unfold cmpI; rw [if_neg (by omega), if_pos h]
theorem cmpI_eq {x y : Nat} (h : x = y) : cmpI x y = 0 := by unfold cmpI; rw [if_neg (by omega), if_neg (by omega)]

/-- What the walk of Cmp needs of two plain lists. -/
theorem cmp_diff {x y : Nat} {p q : List Nat} (hp : limbs x = p) (hq : limbs y = q) (n : Nat) (hl : p.length = q.length) (hn : n < p.length) (he : ∀ i, n < i → i < p.length → p.getD i 0 = q.getD i 0) :
    (p.getD n 0 < q.getD n 0 → x < y) ∧ (q.getD n 0 < p.getD n 0 → y < x) := by
  have hd : p.drop (n + 1) = q.drop (n + 1) := by
    apply List.ext_getElem? 
    intro i
    rw [List.getElem?_drop, List.getElem?_drop]
    by_cases h : n + 1 + i < p.length
    · have := he (n + 1 + i) (by omega) h
      rw [List.getD_eq_getElem?_getD, List.getD_eq_getElem?_getD, List.getElem?_eq_getElem h, List.getElem?_eq_getElem (by omega)] at this
      rw [List.getElem?_eq_getElem h, List.getElem?_eq_getElem (by omega)]
      simpa using this
    · rw [List.getElem?_eq_none (by omega), List.getElem?_eq_none (by omega)]
  have op : Ok p := hp ▸ limbs_ok x
  have oq : Ok q := hq ▸ limbs_ok y
  have vx : val p = x := by rw [← hp, val_limbs]
  have vy : val q = y := by rw [← hq, val_limbs]
  constructor
  · intro h; have := val_lt_of_top op oq n hl hn hd h; omega
  · intro h; have := val_lt_of_top oq op n hl.symm (by omega) hd.symm h; omega

theorem cmp_same {x y : Nat} {p q : List Nat} (hp : limbs x = p) (hq : limbs y = q) (hl : p.length = q.length) (he : ∀ i, i < p.length → p.getD i 0 = q.getD i 0) : x = y := by
  have : p = q := by
    apply List.ext_getElem?
    intro i
    by_cases h : i < p.length
    · have := he i h
      rw [List.getD_eq_getElem?_getD, List.getD_eq_getElem?_getD, List.getElem?_eq_getElem h, List.getElem?_eq_getElem (by omega)] at this
      rw [List.getElem?_eq_getElem h, List.getElem?_eq_getElem (by omega)]
      simpa using this
    · rw [List.getElem?_eq_none (by omega), List.getElem?_eq_none (by omega)]
  exact limbs_inj (by rw [hp, hq, this])

theorem ret_int {k : IntKind} {a b : Int} (h : a = b) : Ending.returned (.int k a) = .returned (.int k b) := by rw [h]
theorem below_drewN {B : Nat} {a w : World} (h : Below B a w) (n : Nat) : Below B a (w.drewN n) := ⟨h.os, h.tape, h.output, h.size, h.block⟩

theorem nat_cmp (a b : Option Addr) (la ca lb cb : Nat) (l m : List Nat) (w : World) (ha : Sees w (.slice a la ca) l) (hb : Sees w (.slice b lb cb) m) :
    Calls Tryz.prog 65 #[.slice a la ca, .slice b lb cb] w fun e w' => e = .returned (.int .i64 (cmpI (val l) (val m))) ∧ Below w.heap.size w w' := by
  go_enter Tryz.func65, Tryz.ntmps65
  go_wp2_with fail
  refine (trim_sees _ _ _ _ _ ha).mono ?_
  rintro e w' ⟨⟨A, rfl, hA, -⟩, rfl⟩
  have HA := hid hA; clear hA
  go_wp2_with fail
  refine (trim_sees _ _ _ _ _ hb).mono ?_
  rintro e w' ⟨⟨B, rfl, hB, -⟩, rfl⟩
  have HB := hid hB; clear hB
  clear ha hb
  obtain ⟨p, hp⟩ : ∃ p, limbs (val l) = p := ⟨_, rfl⟩
  obtain ⟨q, hq⟩ : ∃ q, limbs (val m) = q := ⟨_, rfl⟩
  rw [hp] at HA
  rw [hq] at HB
  simp only [hp, hq]
  have hpl := HA.out.len
  have hql := HB.out.len
  have HP := hid hp; clear hp
  have HQ := hid hq; clear hq
  rcases Nat.lt_trichotomy p.length q.length with h | h | h
  · have hxy : val l < val m := limbs_length_lt (by rw [HP.out, HQ.out]; exact h)
    have HC := hid (cmpI_lt hxy); clear hxy
    go_wp2_with (refine (order_any _ _).mono ?_; rintro e w' ⟨rfl, rfl⟩)
    go_ret
    exact ⟨ret_int (by rw [HC.out]), Below.refl _ _⟩
  · have H := hid h
    have h1 : p.length ≤ q.length := by omega
    have h2 : q.length ≤ p.length := by omega
    clear h
    go_wp2
    go_loopw [24] (fun v wr => ∃ k m : Nat, k ≤ p.length ∧ v = .int .i64 k ∧ wr = w.drewN m ∧ Hid (∀ i, p.length - k ≤ i → i < p.length → p.getD i 0 = q.getD i 0)) (fun v _ => p.length - (intOf v).toNat)
    case atStart => exact ⟨0, 0, Nat.zero_le _, rfl, rfl, fun i hi hi' => absurd hi' (by omega)⟩
    case round =>
      obtain ⟨k, m, hk, rfl, rfl, hz⟩ := hrel
      by_cases hlt : k < p.length
      · obtain ⟨b1, o1, rfl, hc1'⟩ := HA.out.at (by omega)
        obtain ⟨b2, o2, rfl, hc2'⟩ := HB.out.at (by omega)
        have hc1 := hc1' (p.length - 1 - k) (by omega)
        have hc2 := hc2' (p.length - 1 - k) (by omega)
        clear hc1' hc2'
        by_cases he : p.getD (p.length - 1 - k) 0 = q.getD (p.length - 1 - k) 0
        · have ht : ((p[p.length - 1 - k]?.getD 0 : Nat) != ((q[p.length - 1 - k]?.getD 0 : Nat) : Int)) = false := by
            rw [List.getD_eq_getElem?_getD, List.getD_eq_getElem?_getD] at he; simp [he]
          have HE := hid he; clear he
          have hz' : ∀ i, p.length - (k + 1) ≤ i → i < p.length → p.getD i 0 = q.getD i 0 := by
            intro i hi hi'
            by_cases e : i = p.length - 1 - k
            · rw [e]; exact HE.out
            · exact hz.out i (by omega) hi'
          have HZ := hid hz'; clear hz' hz
          go_wp2
          go_quiet (fail)
          go_wp2
          go_roundw
          case rel => exact ⟨k + 1, m + nq, by omega, by go_num, rfl, HZ⟩
          case measure => simp [intOf]; omega
        · have ht : ((p[p.length - 1 - k]?.getD 0 : Nat) != ((q[p.length - 1 - k]?.getD 0 : Nat) : Int)) = true := by
            rw [List.getD_eq_getElem?_getD, List.getD_eq_getElem?_getD] at he
            rw [bne_iff_ne]; omega
          obtain ⟨d1, d2⟩ := cmp_diff HP.out HQ.out (p.length - 1 - k) H.out (by omega) (fun i hi hi' => hz.out i (by omega) hi')
          rw [List.getD_eq_getElem?_getD, List.getD_eq_getElem?_getD] at d1 d2
          rw [List.getD_eq_getElem?_getD, List.getD_eq_getElem?_getD] at he
          have D1 := hid d1; have D2 := hid d2; have HE := hid he
          clear d1 d2 hz he
          by_cases hg : p[p.length - 1 - k]?.getD 0 < q[p.length - 1 - k]?.getD 0
          · have HC := hid (cmpI_lt (D1.out hg))
            go_wp2
            go_quiet (fail)
            go_wp2
            rw [World.drewN_drewN]
            go_quiet ((go_at_call 99; exact quiet_add_left (order_any _ _)))
            go_wp2
            go_ret
            first | exact ⟨ret_int (by rw [HC.out]), below_drewN (below_drewN (Below.refl _ _) _) _⟩ | exact ⟨ret_int (by rw [HC.out]), below_drewN (Below.refl _ _) _⟩
          · have HC := hid (cmpI_gt (D2.out (by have := HE.out; omega)))
            go_wp2
            go_quiet (fail)
            go_wp2
            rw [World.drewN_drewN]
            go_quiet ((go_at_call 99; exact quiet_add_left (order_any _ _)))
            go_wp2
            go_ret
            first | exact ⟨ret_int (by rw [HC.out]), below_drewN (below_drewN (Below.refl _ _) _) _⟩ | exact ⟨ret_int (by rw [HC.out]), below_drewN (Below.refl _ _) _⟩
      · have HC := hid (cmpI_eq (cmp_same HP.out HQ.out H.out (fun i hi => hz.out i (by omega) hi)))
        clear hz
        go_wp2
        go_ret
        exact ⟨ret_int (by rw [HC.out]), below_drewN (Below.refl _ _) _⟩
  · have hxy : val m < val l := limbs_length_lt (by rw [HP.out, HQ.out]; exact h)
    have HC := hid (cmpI_gt hxy); clear hxy
    go_wp2_with (refine (order_any _ _).mono ?_; rintro e w' ⟨rfl, rfl⟩)
    go_ret
    exact ⟨ret_int (by rw [HC.out]), Below.refl _ _⟩
/-- How many binary digits a number has. -/
def bitsN (x : Nat) : Nat := if x = 0 then 0 else Nat.log2 x + 1

theorem bitLenAux_eq (f x : Nat) (h : x < 2 ^ f) : Lib.bitLenAux f x = bitsN x := by
  induction f generalizing x with
  | zero => have : x = 0 := by simpa using h
            subst this; rfl
  | succ f ih =>
    by_cases e : x = 0
    · subst e; rfl
    · simp only [Lib.bitLenAux, e, if_false]
      rw [ih (x / 2) (by rw [Nat.pow_succ] at h; omega)]
      unfold bitsN
      rw [if_neg e]
      by_cases e2 : x / 2 = 0
      · rw [if_pos e2]
        have : x = 1 := by omega
        subst this; rfl
      · rw [if_neg e2]
        have : Nat.log2 x = Nat.log2 (x / 2) + 1 := by
          rw [Nat.log2_def]; rw [if_pos (by omega)]
        omega
theorem bitLen_eq (x : Nat) (h : x < 4294967296) : Lib.bitLen x = bitsN x :=
  bitLenAux_eq 64 x (Nat.lt_of_lt_of_le h (by decide))

theorem bitsN_mul (k x y : Nat) (hy : 0 < y) (hx : x < 2 ^ k) : bitsN (x + 2 ^ k * y) = k + bitsN y := by
  have hp : 0 < 2 ^ k := Nat.two_pow_pos k
  have hpos : 2 ^ k * 1 ≤ 2 ^ k * y := Nat.mul_le_mul_left _ hy
  unfold bitsN
  rw [if_neg (by omega), if_neg (by omega)]
  have h1 := Nat.log2_self_le (n := y) (by omega)
  have h2 := Nat.lt_log2_self (n := y)
  have : Nat.log2 (x + 2 ^ k * y) = k + Nat.log2 y := by
    rw [Nat.log2_eq_iff (by omega)]
    constructor
    · rw [Nat.pow_add]
      have := Nat.mul_le_mul_left (2 ^ k) h1
      omega
    · rw [Nat.add_assoc, Nat.pow_add]
      have : 2 ^ k * (y + 1) ≤ 2 ^ k * 2 ^ (Nat.log2 y + 1) := Nat.mul_le_mul_left _ h2
      rw [Nat.mul_add] at this
      omega
  omega

theorem pow_limbs (k : Nat) : 4294967296 ^ k = 2 ^ (32 * k) := by rw [Nat.pow_mul]

/-- The binary digits of a plain list. -/
theorem bitsN_limbs {x : Nat} (h : 0 < x) : bitsN x = 32 * ((limbs x).length - 1) + bitsN ((limbs x).getD ((limbs x).length - 1) 0) := by
  obtain ⟨h1, h2⟩ := limbs_last h
  have e := val_split (limbs x) ((limbs x).length - 1) (by omega)
  rw [val_limbs, val_drop _ _ (by omega)] at e
  have hd : (limbs x).drop ((limbs x).length - 1 + 1) = [] := List.drop_eq_nil_iff.2 (by omega)
  rw [hd, val_nil, Nat.mul_zero, Nat.add_zero, pow_limbs] at e
  have hlt := val_lt ((limbs_ok x).take ((limbs x).length - 1))
  rw [List.length_take, Nat.min_eq_left (by omega), pow_limbs] at hlt
  have := bitsN_mul _ _ _ (Nat.pos_of_ne_zero h2) hlt
  rw [← e] at this
  exact this

theorem bitsN_le {x : Nat} (h : x < 4294967296) : bitsN x ≤ 32 := by
  unfold bitsN
  by_cases e : x = 0
  · rw [if_pos e]; omega
  · rw [if_neg e]
    have := (Nat.log2_lt e (k := 32)).2 (by simpa using h)
    omega

theorem nat_bits (ao : Option Addr) (len cap : Nat) (l : List Nat) (w : World) (h : Sees w (.slice ao len cap) l) :
    Calls Tryz.prog 63 #[.slice ao len cap] w fun e w' => e = .returned (.int .i64 (bitsN (val l) : Nat)) ∧ w = w' := by
  go_enter Tryz.func63, Tryz.ntmps63
  go_wp2_with fail
  refine (trim_sees _ _ _ _ _ h).mono ?_
  rintro e w' ⟨⟨A, rfl, hA, -⟩, rfl⟩
  clear h
  have hlen := hA.len
  by_cases h0 : val l = 0
  · have HC : Hid (bitsN (val l) = 0) := by rw [h0]; rfl
    have HL : Hid ((limbs (val l)).length = 0) := by rw [h0]; rfl
    have hl0 : (limbs (val l)).length < 1 := by have := HL.out; omega
    clear h0 hA
    go_wp2
    go_ret
    exact ⟨ret_int (by rw [HC.out]; rfl), rfl⟩
  · have h1 : 1 ≤ (limbs (val l)).length := (limbs_last (Nat.pos_of_ne_zero h0)).1
    obtain ⟨b, o, rfl, hcell⟩ := hA.at (by omega)
    have hc := hcell ((limbs (val l)).length - 1) (by omega)
    have hok := hA.ok.getD ((limbs (val l)).length - 1)
    have HC := hid (bitsN_limbs (Nat.pos_of_ne_zero h0))
    clear hcell hA h0
    generalize hp : limbs (val l) = p at *
    have HP := hid hp; clear hp
    have hbl := bitsN_le hok
    rw [List.getD_eq_getElem?_getD] at hok
    have he := bitLen_eq _ hok
    have hb32 : Lib.bitLen (p[p.length - 1]?.getD 0) ≤ 32 := by rw [he]; rw [List.getD_eq_getElem?_getD] at hbl; exact hbl
    have HE := hid he; clear he
    go_wp2_with (refine (Tryz.bits_Len32 _ _ (by omega) (by omega)).mono ?_; rintro e w' ⟨rfl, rfl⟩)
    go_ret
    refine ⟨ret_int ?_, rfl⟩
    rw [HC.out, HE.out, List.getD_eq_getElem?_getD]
    omega
end Go.Proofs.YtjnbonellgpjnaaGreat

set_option linter.unusedVariables false
set_option linter.unusedSimpArgs false
namespace Go.Proofs.YtjnbonellgpjnaaGreat
open Go.RowKit

theorem nat_div_zero (a b : Option Addr) (la ca lb cb : Nat) (l m : List Nat) (w : World) (ha : Sees w (.slice a la ca) l) (hb : Sees w (.slice b lb cb) m) (h0 : val m = 0) :
    Calls Tryz.prog 100 #[.slice a la ca, .slice b lb cb] w fun e w' => e = .returned (.tuple #[.slice none 0 0, .slice none 0 0, .bool false]) ∧ w = w' := by
  go_enter Tryz.func100, Tryz.ntmps100
  go_wp2_with fail
  refine (trim_sees _ _ _ _ _ ha).mono ?_
  rintro e w' ⟨⟨A, rfl, hA, -⟩, rfl⟩
  have HA := hid hA; clear hA
  go_wp2_with fail
  refine (trim_sees _ _ _ _ _ hb).mono ?_
  rw [h0]
  rintro e w' ⟨⟨B, rfl, hB, -⟩, rfl⟩
  simp only [limbs_zero, List.length_nil]
  clear hB ha hb h0
  go_wp2
  go_ret3
  exact ⟨rfl, rfl⟩

set_option maxHeartbeats 1000000 in
theorem nat_div_limb (a b : Option Addr) (la ca lb cb : Nat) (l m : List Nat) (w : World) (ha : Sees w (.slice a la ca) l) (hb : Sees w (.slice b lb cb) m) (hl : l.length ≤ 35184372088832)
    (h1 : (limbs (val m)).length = 1) (h3 : 2 < (limbs (val l)).length) :
    Calls Tryz.prog 100 #[.slice a la ca, .slice b lb cb] w fun e w' => IsDiv w (val l) (val m) e w' := by
  have hlen1 := (limbs_prefix ha.ok).2
  have hle : val m ≤ val l := Nat.le_of_lt (limbs_length_lt (by omega))
  go_enter Tryz.func100, Tryz.ntmps100
  go_wp2_with fail
  refine (trim_sees _ _ _ _ _ ha).mono ?_
  rintro e w' ⟨⟨A, rfl, hA, -⟩, rfl⟩
  have HA := hid hA; clear hA
  go_wp2_with fail
  refine (trim_sees _ _ _ _ _ hb).mono ?_
  rintro e w' ⟨⟨B, rfl, hB, -⟩, rfl⟩
  have HB := hid hB; clear hB ha hb
  have hz : 0 ≤ cmpI (val l) (val m) := by unfold cmpI; rw [if_neg (by omega)]; split <;> decide
  obtain ⟨p, hp⟩ : ∃ p, limbs (val l) = p := ⟨_, rfl⟩
  obtain ⟨y, hq⟩ : ∃ y, limbs (val m) = [y] := by
    match limbs (val m), h1 with
    | [y], _ => exact ⟨y, rfl⟩
  have hy : val m = y := by rw [← val_limbs (val m), hq]; simp [val_cons, val_nil]
  have hy1 : 0 < y := by
    rcases Nat.eq_zero_or_pos y with h0 | h0
    · rw [h0] at hy; rw [hy] at hq; cases hq
    · exact h0
  rw [hp] at HA hlen1 h3
  rw [hq] at HB
  simp only [hp, hq]
  have hyb := HB.out.ok.head
  have hvp : val p = val l := by rw [← hp, val_limbs]
  have HP := hid hvp; have HY := hid hy; clear hp hq h1 hle
  have hp1 : p.length ≤ 35184372088832 := by omega
  have hcv : val [y] = val m := by rw [hy]; simp [val_cons, val_nil]
  rw [← hvp, ← hcv] at hz
  clear hlen1 hl hvp hy hcv
  go_wp2_with fail
  refine (nat_cmp _ _ _ _ _ _ _ _ _ HA.out HB.out).mono ?_
  generalize cmpI (val p) (val [y]) = z at hz ⊢
  rintro e w1 ⟨rfl, hb1⟩
  have HA1 : Hid (Sees w1 (.slice A p.length p.length) p) := HA.out.below hb1
  have HB1 : Hid (Sees w1 (.slice B 1 1) [y]) := HB.out.below hb1
  have HBEL := hid hb1
  clear hb1 HA HB
  obtain ⟨ba, oa, rfl, -⟩ := HA1.out.at (by omega)
  obtain ⟨bb, ob, rfl, hcb⟩ := HB1.out.at (by simp)
  have hcb0 := hcb 0 (by simp)
  simp only [Nat.add_zero, List.getD_cons_zero] at hcb0
  have hlt := HB1.out.lt (by simp)
  clear hcb
  go_wp2_with fail
  refine (clone_some _ _ _ _ _ HA1.out hp1).mono ?_
  rintro e w2 ⟨g, c, rfl, hg, hrow, hlc, hc, hb2⟩
  have hcb2 := (hb2.cell hlt).trans hcb0
  have HR := hid hrow; have HB2 := hid hb2
  clear hrow hb2 hcb0 hc
  go_wp2_with fail
  refine (nat_divideInPlace g c y p w2 HR.out HA1.out.ok hy1 hyb (by omega)).mono ?_
  rintro e w3 ⟨t, rm, rfl, hrm, hm, htl, htok, htv, hrow3, hgb⟩
  have hs3 : Sees w3 (.slice (some ⟨g, 0, none⟩) p.length c) t := by
    have := hrow3.sees htok 0 p.length c (by omega) hlc (by omega)
    rwa [List.drop_zero, List.take_of_length_le (by omega)] at this
  have HB3 : Hid (Below w1.heap.size w1 w3) := HB2.out.grown hgb HB2.out.size (fun k e => by simp at e; omega)
  have HS := hid hs3; have HT := hid htv; have HRM := hid hrm
  clear hrow3 hgb hs3 htl htok htv hcb2 hrm
  go_wp2_with fail
  refine (trim_sees _ _ _ _ _ HS.out).mono ?_
  rintro e w4 ⟨⟨Q, rfl, hQ, -⟩, rfl⟩
  have HQ := hid hQ; clear hQ
  go_wp2_with fail
  refine (nat_fromWord rm (Nat.lt_trans (Nat.lt_trans hm hyb) (by decide)) _).mono ?_
  rintro e w5 ⟨R, rfl, hR, hb5⟩
  have HRR := hid hR; have HB5 := hid hb5
  clear hR hb5
  go_wp2
  go_ret3
  refine ⟨_, _, rfl, ?_, ?_, ?_⟩
  · have := HQ.out.below HB5.out
    rw [HT.out, HP.out, ← HY.out] at this
    rw [HT.out, HP.out, ← HY.out]
    exact this
  · have := HRR.out
    rw [HRM.out, HP.out, ← HY.out] at this
    exact this
  · exact HBEL.out.trans ((HB3.out.trans (HB5.out.mono HB3.out.size)).mono HBEL.out.size)
end Go.Proofs.YtjnbonellgpjnaaGreat

set_option linter.unusedVariables false
set_option linter.unusedSimpArgs false
namespace Go.Proofs.YtjnbonellgpjnaaGreat
open Go.RowKit

theorem ref_same (a b : Value) (l : List Nat) (w : World) (ha : Sees w a l) (hb : Sees w b l) :
    Calls Tryz.prog 55 #[a, b] w fun e w' => e = .returned (.bool true) ∧ Below w.heap.size w w' := by
  have hlen := ha.len
  have hA := ha
  have hB := hb
  obtain ⟨A, ca, rfl, _, _, _, _, _⟩ := ha
  obtain ⟨B, cb, rfl, _, _, _, _, _⟩ := hb
  have HA := hid hA; have HB := hid hB
  clear hA hB
  go_enter Tryz.func55, Tryz.ntmps55
  go_wp2
  go_loopw [5] (fun v wr => ∃ k m : Nat, k ≤ l.length ∧ v = .int .i64 k ∧ wr = w.drewN m) (fun v _ => l.length - (intOf v).toNat)
  case atStart => exact ⟨0, 0, Nat.zero_le _, rfl, rfl⟩
  case round =>
    obtain ⟨k, m, hk, rfl, rfl⟩ := hrel
    by_cases hlt : k < l.length
    · obtain ⟨b1, o1, rfl, hc1'⟩ := HA.out.at (by omega)
      obtain ⟨b2, o2, rfl, hc2'⟩ := HB.out.at (by omega)
      have hc1 := hc1' k hlt
      have hc2 := hc2' k hlt
      clear hc1' hc2'
      go_wp2
      go_quiet (fail)
      go_wp2
      go_roundw
      case rel => exact ⟨k + 1, m + nq, by omega, by go_num, rfl⟩
      case measure => simp [intOf]; omega
    · go_wp2
      go_ret
      exact ⟨rfl, below_drewN (Below.refl _ _) _⟩

theorem ref_plain (v : Value) (l : List Nat) (w : World) (h : Sees w v l) (hl : l.length ≤ 35184372088832) :
    Calls Tryz.prog 89 #[v] w fun e w' => IsPlain w l e w' := by
  have hS := h
  have hok := h.ok
  obtain ⟨ao, cap, rfl, h2, h3, h4, hn0, h5⟩ := h
  have HS := hid hS
  clear hS h5
  obtain ⟨i0, hi, hz0, hz1, hz2⟩ := info_parts info_u32
  go_enter Tryz.func89, Tryz.ntmps89
  go_wp2
  go_loop [3] (fun v => ∃ n : Nat, n ≤ l.length ∧ v = .int .i64 n ∧ Hid (∀ i, n ≤ i → i < l.length → l.getD i 0 = 0)) (fun v => (intOf v).toNat)
  case atStart => exact ⟨l.length, Nat.le_refl _, rfl, fun i hi hi' => absurd hi' (by omega)⟩
  case round =>
    obtain ⟨n, hn, rfl, hz⟩ := hrel
    by_cases h0 : 0 < n
    · obtain ⟨b, o, rfl, hcell⟩ := HS.out.at (by omega)
      have hc := hcell (n - 1) (by omega)
      by_cases hd : l.getD (n - 1) 0 = 0
      · have hz' : ∀ i, n - 1 ≤ i → i < l.length → l.getD i 0 = 0 := by
          intro i hi hi'
          by_cases e : i = n - 1
          · rw [e]; exact hd
          · exact hz.out i (by omega) hi'
        have HZ := hid hz'
        rw [hd] at hc
        clear hcell hz' hz hd
        go_wp2
        go_round
        case rel => exact ⟨n - 1, by omega, by go_num, HZ⟩
        case measure => simp [intOf]; omega
      · have e := limbs_val_take hok n hn hz.out (fun _ => hd)
        have ht : ((l[n - 1]?.getD 0 : Nat) == (0 : Int)) = false := by rw [List.getD_eq_getElem?_getD] at hd; simpa using hd
        have hst := HS.out.take n hn
        have hlt : (l.take n).length = n := by simp; omega
        have E := hid e
        have HT := hid hst
        obtain ⟨t, htt⟩ : ∃ t, t = l.take n := ⟨_, rfl⟩
        rw [← htt] at E HT hlt
        have HLT := hid hlt
        clear hcell hz hd e hst hlt htt
        go_wp2_with (at_builtin; refine wpList_append_own _ rfl _ _ 22 rfl w.heap.size 98 i0 (.int .u32 0) 1 4 Tryz.underlying22 hi hz0 hz1 hz2 rfl (by decide) _ _ _ rfl (World.ownsRow_nil w _ _ _) ⟨b, o, none⟩ n cap (enc t) rfl ?qc1 ?qc2 ?qc3 ?qc4 ?qc5 ?qc6 ?_)
        case qc1 => rw [enc_length]; exact HLT.out
        case qc2 => exact HT.out.news'
        case qc3 => exact enc_one t
        case qc4 => unfold maxLen; omega
        case qc5 => omega
        intro v' w1 hown hgrow hnil
        have hnil' : v' ≠ .slice none 0 0 := fun h => by
          rcases hown.2 with ⟨_, h2⟩ | ⟨g, cap, cur, h2, _⟩
          · omega
          · rw [h2] at h; cases h
        have hown' : w1.ownsRow w.heap.size 98 1 v' n (enc t) := by simpa using hown
        obtain ⟨g, c, rfl, hrow, hg, hlc, hc⟩ := owns_some hown' hnil'
        have HR := hid hrow
        have HG := hid hgrow
        clear hown hown' hnil hnil' hrow hgrow
        go_wp2
        go_ret
        have hlen : (limbs (val l)).length = t.length := by rw [E.out]
        refine ⟨_, rfl, (Below.refl _ w).grown HG.out (Nat.le_refl _) (by intro k hk; simp [Value.ownBlock] at hk), .inr ⟨g, c, ?_, by rw [hlen]; exact hlc, by rw [hlen, HLT.out]; exact h0, hg, ?_⟩⟩
        · rw [hlen]; rfl
        · rw [E.out]; exact HR.out
    · obtain rfl : n = 0 := by omega
      have e := limbs_val_take hok 0 (by omega) hz.out (fun h => absurd h (by omega))
      have E := hid e
      clear e hz h0
      match ao, HS, hn0 with
      | none, HS, hn0 =>
        obtain rfl := hn0 rfl
        go_wp2_with (at_builtin; refine wpList_append_own_none rfl _ _ 22 rfl w.heap.size 98 i0 1 Tryz.underlying22 hi _ _ _ rfl (World.ownsRow_nil w _ _ _) rfl ?_)
        go_ret
        exact ⟨_, rfl, Below.refl _ _, .inl ⟨by rw [E.out]; rfl, rfl⟩⟩
      | some a, HS, hn0 =>
        go_wp2_with (at_builtin; refine wpList_append_own _ rfl _ _ 22 rfl w.heap.size 98 i0 (.int .u32 0) 1 4 Tryz.underlying22 hi hz0 hz1 hz2 rfl (by decide) _ _ _ rfl (World.ownsRow_nil w _ _ _) a 0 cap [] rfl ?rc1 ?rc2 ?rc3 ?rc4 ?rc5 ?rc6 ?_)
        all_goals (try (simp; done))
        intro v' w1 hown hgrow hnil
        have HG := hid hgrow
        clear hown hgrow
        obtain rfl := hnil
        go_wp2
        go_ret
        exact ⟨_, rfl, (Below.refl _ w).grown HG.out (Nat.le_refl _) (by intro k hk; simp [Value.ownBlock] at hk), .inl ⟨by rw [E.out]; rfl, rfl⟩⟩

theorem ref_cmp (a b : Option Addr) (ca cb : Nat) (l m : List Nat) (w : World) (ha : Sees w (.slice a l.length ca) l) (hb : Sees w (.slice b m.length cb) m) :
    Calls Tryz.prog 70 #[.slice a l.length ca, .slice b m.length cb] w fun e w' => e = .returned (.int .i64 (cmpI (val l) (val m))) ∧ w = w' := by
  have hl1 := ha.len
  have hl2 := hb.len
  have HA := hid ha
  have HB := hid hb
  have hf1 : ∀ i, i < max l.length m.length → l.getD i 0 < 4294967296 := fun i _ => ha.ok.getD i
  have hf2 : ∀ i, i < max l.length m.length → m.getD i 0 < 4294967296 := fun i _ => hb.ok.getD i
  have HV1 := hid (val_valF l (max l.length m.length) (by omega))
  have HV2 := hid (val_valF m (max l.length m.length) (by omega))
  have F1 := hid hf1
  have F2 := hid hf2
  clear ha hb hf1 hf2
  go_enter Tryz.func70, Tryz.ntmps70
  go_wp2
  go_loop [5] (fun v => ∃ k : Nat, k ≤ max l.length m.length ∧ v = .int .i64 ((k : Int) - 1) ∧ Hid (∀ i, k ≤ i → i < max l.length m.length → l.getD i 0 = m.getD i 0)) (fun v => (intOf v + 1).toNat)
  case atStart => exact ⟨max l.length m.length, Nat.le_refl _, by congr 1; omega, fun i hi hi' => absurd hi' (by omega)⟩
  case round =>
    obtain ⟨k, hk, rfl, hz⟩ := hrel
    by_cases h0 : k < 1
    · have HC : Hid (cmpI (val l) (val m) = 0) := cmpI_eq (by
        rw [HV1.out, HV2.out]
        exact valF_congr _ _ _ (fun i hi => hz.out i (by omega) hi))
      clear hz
      go_wp2
      go_ret
      exact ⟨ret_int (by rw [HC.out]), rfl⟩
    · have D1 : l.getD (k - 1) 0 < m.getD (k - 1) 0 → Hid (cmpI (val l) (val m) = -1) := fun h => cmpI_lt (by
        rw [HV1.out, HV2.out]
        exact valF_cmp _ _ _ (k - 1) (by omega) F1.out (fun i h1 h2 => hz.out i (by omega) h2) h)
      have D2 : m.getD (k - 1) 0 < l.getD (k - 1) 0 → Hid (cmpI (val l) (val m) = 1) := fun h => cmpI_gt (by
        rw [HV1.out, HV2.out]
        exact valF_cmp _ _ _ (k - 1) (by omega) F2.out (fun i h1 h2 => (hz.out i (by omega) h2).symm) h)
      have D3 : l.getD (k - 1) 0 = m.getD (k - 1) 0 → Hid (∀ i, k - 1 ≤ i → i < max l.length m.length → l.getD i 0 = m.getD i 0) := fun h => by
        intro i hi hi'
        by_cases e : i = k - 1
        · rw [e]; exact h
        · exact hz.out i (by omega) hi'
      clear hz
      have hc1 : k - 1 < l.length → ∃ b1 o1, a = some ⟨b1, o1, none⟩ ∧ w.cell? ⟨b1, o1 + (k - 1), none⟩ = some (.int .u32 (l.getD (k - 1) 0 : Nat)) := fun h => by
        obtain ⟨b1, o1, e, hc⟩ := HA.out.at (by omega)
        exact ⟨b1, o1, e, hc _ h⟩
      have hc2 : k - 1 < m.length → ∃ b1 o1, b = some ⟨b1, o1, none⟩ ∧ w.cell? ⟨b1, o1 + (k - 1), none⟩ = some (.int .u32 (m.getD (k - 1) 0 : Nat)) := fun h => by
        obtain ⟨b1, o1, e, hc⟩ := HB.out.at (by omega)
        exact ⟨b1, o1, e, hc _ h⟩
      have z1 : ¬ k - 1 < l.length → l.getD (k - 1) 0 = 0 := fun h => by rw [List.getD_eq_getElem?_getD, List.getElem?_eq_none (by omega)]; rfl
      have z2 : ¬ k - 1 < m.length → m.getD (k - 1) 0 = 0 := fun h => by rw [List.getD_eq_getElem?_getD, List.getElem?_eq_none (by omega)]; rfl
      generalize l.getD (k - 1) 0 = x at *
      generalize m.getD (k - 1) 0 = y at *
      have E1 := hid D1; have E2 := hid D2; have E3 := hid D3
      clear D1 D2 D3
      by_cases hl : k - 1 < l.length
      · obtain ⟨b1, o1, rfl, hx⟩ := hc1 hl
        by_cases hm : k - 1 < m.length
        · obtain ⟨b2, o2, rfl, hy⟩ := hc2 hm
          clear hc1 hc2 z1 z2
          rcases Nat.lt_trichotomy x y with h | h | h
          · have HC := E1.out h
            go_wp2
            go_ret
            exact ⟨ret_int (by rw [HC.out]), rfl⟩
          · have HZ := E3.out h
            have h1 : x ≤ y := by omega
            have h2 : y ≤ x := by omega
            clear h
            go_wp2
            go_round
            case rel => exact ⟨k - 1, by omega, by go_num, HZ⟩
            case measure => simp [intOf]; omega
          · have HC := E2.out h
            go_wp2
            go_ret
            exact ⟨ret_int (by rw [HC.out]), rfl⟩
        · obtain rfl := z2 hm
          clear hc1 hc2 z1 z2
          rcases Nat.lt_or_ge 0 x with h | h
          · have HC := E2.out (by omega)
            go_wp2
            go_ret
            exact ⟨ret_int (by rw [HC.out]), rfl⟩
          · have HZ := E3.out (by omega)
            go_wp2
            go_round
            case rel => exact ⟨k - 1, by omega, by go_num, HZ⟩
            case measure => simp [intOf]; omega
      · have hm : k - 1 < m.length := by omega
        obtain ⟨b2, o2, rfl, hy⟩ := hc2 hm
        obtain rfl := z1 hl
        clear hc1 hc2 z1 z2
        rcases Nat.lt_or_ge 0 y with h | h
        · have HC := E1.out (by omega)
          go_wp2
          go_ret
          exact ⟨ret_int (by rw [HC.out]), rfl⟩
        · have HZ := E3.out (by omega)
          go_wp2
          go_round
          case rel => exact ⟨k - 1, by omega, by go_num, HZ⟩
          case measure => simp [intOf]; omega

theorem bitsN_half {x : Nat} (h : 0 < x) : bitsN x = bitsN (x / 2) + 1 := by
  unfold bitsN
  rw [if_neg (by omega)]
  by_cases e : x / 2 = 0
  · rw [if_pos e]
    have : x = 1 := by omega
    subst this; rfl
  · rw [if_neg e, Nat.log2_def, if_pos (by omega)]

theorem ref_bits (v : Value) (l : List Nat) (w : World) (h : Sees w v l) (hl : l.length ≤ 35184372088832) :
    Calls Tryz.prog 47 #[v] w fun e w' => e = .returned (.int .i64 (bitsN (val l) : Nat)) ∧ Below w.heap.size w w' := by
  have hlen : (limbs (val l)).length ≤ 35184372088832 := by have := (limbs_prefix h.ok).2; omega
  go_enter Tryz.func47, Tryz.ntmps47
  go_wp2_with fail
  refine (ref_plain _ _ _ h hl).mono ?_
  intro e w' hp
  obtain ⟨v', rfl, hs, hb⟩ := hp.sees (by omega)
  clear hp h
  by_cases h0 : val l = 0
  · have HC : Hid (bitsN (val l) = 0) := by rw [h0]; rfl
    have hn : limbs (val l) = [] := by rw [h0]; rfl
    rw [hn] at hs
    obtain ⟨A, c, rfl, -, -, -, -, -⟩ := hs
    clear h0 hn
    go_wp2
    go_ret
    exact ⟨ret_int (by rw [HC.out]; rfl), hb⟩
  · have h1 : 1 ≤ (limbs (val l)).length := (limbs_last (Nat.pos_of_ne_zero h0)).1
    have hok := hs.ok.getD ((limbs (val l)).length - 1)
    have HC := hid (bitsN_limbs (Nat.pos_of_ne_zero h0))
    have hs' := hs
    obtain ⟨A, c, rfl, -, -, -, -, -⟩ := hs
    obtain ⟨b, o, rfl, hcell⟩ := hs'.at (by omega)
    have hc := hcell ((limbs (val l)).length - 1) (by omega)
    clear hcell hs' h0
    generalize hp : limbs (val l) = p at *
    have HP := hid hp; clear hp
    have hbl := bitsN_le hok
    generalize hu : p.getD (p.length - 1) 0 = u at *
    clear hu
    go_wp2
    go_loop [3, 4] (fun v3 v4 => ∃ n x : Nat, v3 = .int .i64 n ∧ v4 = .int .u32 x ∧ x < 4294967296 ∧ n ≤ 32 * (p.length - 1) + 32 ∧ Hid (n + bitsN x = bitsN (val l))) (fun _ v4 => (intOf v4).toNat)
    case atStart => exact ⟨32 * (p.length - 1), u, by go_num, rfl, hok, by omega, HC.out.symm⟩
    case round =>
      obtain ⟨n, x, rfl, rfl, hx, hn, he⟩ := hrel
      by_cases hx0 : 0 < x
      · have hnn : n + 1 ≤ 32 * (p.length - 1) + 32 ∧ Hid (n + 1 + bitsN (x / 2) = bitsN (val l)) := by
          have h1 := bitsN_half hx0
          have h2 := he.out
          have h3 : Hid (bitsN (val l) ≤ 32 * (p.length - 1) + 32) := by have := HC.out; show _ ≤ _; omega
          exact ⟨by have := h3.out; omega, by show _ = _; omega⟩
        obtain ⟨hn1, he1⟩ := hnn
        clear he
        go_wp2
        go_round
        case rel => exact ⟨n + 1, x / 2, by go_num, by go_num, by omega, hn1, he1⟩
        case measure => simp [intOf]; omega
      · obtain rfl : x = 0 := by omega
        go_wp2
        go_ret
        exact ⟨ret_int (by rw [← he.out]; rfl), hb⟩
end Go.Proofs.YtjnbonellgpjnaaGreat
