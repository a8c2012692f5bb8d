/- Long division of limbs: the numbers. No program in it. -/
import Derived.Test.YtfjanomjmlcgaaaDoorShiftN
set_option linter.unusedVariables false
set_option linter.unusedSimpArgs false
namespace Go.Proofs.YtfjanomjmlcgaaaDoor

/-- What takeTimes has done behind k limbs: y was taken, and c times the next limb's place is still to be. -/
structure TakeMul (s : List Nat) (o k y : Nat) (t : List Nat) (c d : Nat) : Prop where
  lt : c < 4294967296
  ex : ∃ z, TakeFrom s o k z t d ∧ z + 4294967296 ^ k * c = y
theorem TakeMul.start {s : List Nat} (h : Ok s) (o : Nat) : TakeMul s o 0 0 s 0 0 := ⟨by omega, 0, TakeFrom.start h o, by simp⟩
theorem TakeMul.step {s t : List Nat} {o k y c d : Nat} (h : TakeMul s o k y t c d) (ho : o + k < s.length) (m f lo c' x d' : Nat) (hc : c' < 4294967296) (hx : x < 4294967296) (hd : d' ≤ 1)
    (e1 : c + m * f = lo + 4294967296 * c') (e : s.getD (o + k) 0 + 4294967296 * d' = x + lo + d) :
    TakeMul s o (k + 1) (y + 4294967296 ^ k * (m * f)) (t.set (o + k) x) c' d' := by
  obtain ⟨_, z, hz, hy⟩ := h
  refine ⟨hc, z + 4294967296 ^ k * lo, hz.step ho lo x d' hx hd e, ?_⟩
  rw [Nat.pow_succ, Nat.mul_assoc, ← hy]
  have h2 := congrArg (4294967296 ^ k * ·) e1
  simp only [Nat.mul_add] at h2
  omega
theorem TakeMul.last {s t : List Nat} {o k y c d : Nat} (h : TakeMul s o k y t c d) (ho : o + k < s.length) (x d' : Nat) (hx : x < 4294967296) (hd : d' ≤ 1)
    (e : s.getD (o + k) 0 + 4294967296 * d' = x + c + d) : TakeFrom s o (k + 1) y (t.set (o + k) x) d' := by
  obtain ⟨_, z, hz, hy⟩ := h
  have := hz.step ho c x d' hx hd e
  rwa [hy] at this

/-- The quotient's limb, held against the highest limbs. -/
theorem top_le {p D0 W0 V X Q : Nat} (hp : 0 < p) (hW : W0 < p) (h : Q * (D0 + p * V) ≤ W0 + p * X) : Q * V ≤ X := by
  have h1 : p * (Q * V) ≤ Q * (D0 + p * V) := by
    rw [Nat.mul_add, Nat.mul_left_comm]; omega
  have h2 : p * (Q * V) < p * (X + 1) := by rw [Nat.mul_succ]; omega
  exact Nat.lt_succ_iff.1 (Nat.lt_of_mul_lt_mul_left h2)

theorem est_init {Q s f low high : Nat} (hf : 0 < f) (hl : low < 4294967296) (h : Q * (s + 4294967296 * f) ≤ low + 4294967296 * high) : Q ≤ high / f := by
  rw [Nat.le_div_iff_mul_le hf]
  have h1 : Q * (s + 4294967296 * f) = Q * s + 4294967296 * (Q * f) := by rw [Nat.mul_add, Nat.mul_left_comm]
  omega
theorem est_less {Q s f low high e r : Nat} (h : Q * (s + 4294967296 * f) ≤ low + 4294967296 * high) (he : e * f + r = high) (hlt : r * 4294967296 + low < e * s) : Q < e := by
  rcases Nat.lt_or_ge Q e with h1 | h1
  · exact h1
  · have h2 : e * (s + 4294967296 * f) ≤ Q * (s + 4294967296 * f) := Nat.mul_le_mul_right _ h1
    have h3 : e * (s + 4294967296 * f) = e * s + 4294967296 * (e * f) := by rw [Nat.mul_add, Nat.mul_left_comm]
    omega

/-- A list of two limbs or more, its two highest apart. -/
theorem val_top2 {l : List Nat} {n : Nat} (h : l.length = n + 2) : val l = val (l.take n) + 4294967296 ^ n * (l.getD n 0 + 4294967296 * l.getD (n + 1) 0) := by
  rw [val_split l n (by omega), val_drop l n (by omega), val_drop l (n + 1) (by omega), List.drop_eq_nil_iff.2 (by omega), val_nil]; rfl
theorem val_top3 {l : List Nat} {n : Nat} (h : l.length = n + 3) : val l = val (l.take n) + 4294967296 ^ n * (l.getD n 0 + 4294967296 * (l.getD (n + 1) 0 + 4294967296 * l.getD (n + 2) 0)) := by
  rw [val_split l n (by omega), val_drop l n (by omega), val_drop l (n + 1) (by omega), val_drop l (n + 2) (by omega), List.drop_eq_nil_iff.2 (by omega), val_nil]; rfl

/-- What estimateLimb needs of its lists. -/
theorem est_lists {u v : List Nat} {n Q : Nat} (hu : Ok u) (hv : Ok v) (lu : u.length = n + 3) (lv : v.length = n + 2) (h : Q * val v ≤ val u) :
    Q * (v.getD n 0 + 4294967296 * v.getD (n + 1) 0) ≤ u.getD n 0 + 4294967296 * (u.getD (n + 1) 0 + 4294967296 * u.getD (n + 2) 0) := by
  rw [val_top2 lv, val_top3 lu] at h
  refine top_le (Nat.pow_pos (by decide)) ?_ h
  have := val_lt (hu.take n)
  rwa [List.length_take, Nat.min_eq_left (by omega)] at this
theorem est_top {u v : List Nat} {n : Nat} (hu : Ok u) (hv : Ok v) (lu : u.length = n + 3) (lv : v.length = n + 2) (h : val u < val v * 4294967296) : u.getD (n + 2) 0 ≤ v.getD (n + 1) 0 := by
  rw [val_top2 lv, val_top3 lu] at h
  have h1 := val_lt (hv.take n)
  rw [List.length_take, Nat.min_eq_left (by omega)] at h1
  have h2 := hv.getD n
  generalize val (v.take n) = a at *
  generalize val (u.take n) = b at *
  generalize v.getD n 0 = v0 at *
  generalize v.getD (n + 1) 0 = v1 at *
  generalize u.getD n 0 = u0 at *
  generalize u.getD (n + 1) 0 = u1 at *
  generalize u.getD (n + 2) 0 = u2 at *
  generalize 4294967296 ^ n = p at *
  have h3 : p * (v0 + 4294967296 * v1 + 1) ≤ p * (4294967296 * (v1 + 1)) := Nat.mul_le_mul_left p (by omega)
  have h4 : p * (4294967296 * (4294967296 * u2)) ≤ p * (u0 + 4294967296 * (u1 + 4294967296 * u2)) := Nat.mul_le_mul_left p (by omega)
  have h5 : p * (v0 + 4294967296 * v1 + 1) = p * (v0 + 4294967296 * v1) + p := Nat.mul_succ ..
  have h6 : p * (4294967296 * (4294967296 * u2)) < p * (4294967296 * (v1 + 1)) * 4294967296 := by
    refine Nat.lt_of_le_of_lt h4 (Nat.lt_of_le_of_lt (Nat.le_add_left _ b) (Nat.lt_of_lt_of_le h (Nat.mul_le_mul_right _ (by omega))))
  have h7 : p * (4294967296 * (v1 + 1)) * 4294967296 = p * (4294967296 * (4294967296 * (v1 + 1))) := by
    rw [Nat.mul_assoc, Nat.mul_comm (4294967296 * (v1 + 1))]
  rw [h7] at h6
  have h8 := Nat.lt_of_mul_lt_mul_left h6
  omega

/-- Behind a step with estimate e: what is left, and what was borrowed. -/
structure Left (W D P e t c : Nat) : Prop where
  ge : W / D ≤ e
  le : c ≤ 1
  lt : t < P
  sum : t + D * e = W + P * c
theorem Left.done {W D P e t : Nat} (h : Left W D P e t 0) (hD : 0 < D) : e = W / D ∧ t = W % D := by
  have hs := h.sum
  rw [Nat.mul_zero, Nat.add_zero] at hs
  have h1 : e ≤ W / D := by
    rw [Nat.le_div_iff_mul_le hD, Nat.mul_comm]; omega
  have h2 : e = W / D := Nat.le_antisymm h1 h.ge
  refine ⟨h2, ?_⟩
  have := Nat.div_add_mod W D
  rw [← h2] at this
  omega
theorem Left.pos {W D P e t : Nat} (h : Left W D P e t 1) : 0 < e := by
  have hs := h.sum
  have hlt := h.lt
  rcases Nat.eq_zero_or_pos e with h0 | h0
  · subst h0; omega
  · exact h0
theorem Left.back {W D P e t : Nat} (h : Left W D P e t 1) (hD : 0 < D) (hDP : D ≤ P) (t' c' : Nat) (hc : c' ≤ 1) (ht : t' < P) (e1 : t' + P * c' = t + D) : 0 < e ∧ Left W D P (e - 1) t' (1 - c') := by
  have hs := h.sum
  have hlt := h.lt
  have h1 : W < D * e := by omega
  have h2 : W / D < e := by
    rw [Nat.div_lt_iff_lt_mul hD, Nat.mul_comm]; exact h1
  have h3 : 0 < e := Nat.lt_of_le_of_lt (Nat.zero_le _) h2
  refine ⟨h3, Nat.le_sub_one_of_lt h2, by omega, ht, ?_⟩
  obtain ⟨e', rfl⟩ : ∃ e', e = e' + 1 := ⟨e - 1, by omega⟩
  rw [Nat.add_sub_cancel]
  rw [Nat.mul_succ] at hs
  have : c' = 0 ∨ c' = 1 := by omega
  rcases this with rfl | rfl <;> simp at * <;> omega

theorem val_set_zero {t : List Nat} {i x : Nat} (hz : t.getD i 0 = 0) (hi : i < t.length) : val (t.set i x) = val t + 4294967296 ^ i * x := by
  induction t generalizing i with
  | nil => simp at hi
  | cons y l ih =>
    cases i with
    | zero => simp at hz; subst hz; simp [val_cons]; omega
    | succ i =>
      simp only [List.set_cons_succ, val_cons, List.getD_cons_succ, List.length_cons] at *
      rw [ih hz (by omega), Nat.pow_succ, Nat.mul_add]
      have : 4294967296 ^ i * 4294967296 * x = 4294967296 * (4294967296 ^ i * x) := by rw [Nat.mul_right_comm, Nat.mul_comm]
      omega

theorem Part.trans {a b c : List Nat} {o n : Nat} (h : Part a b o n) (k : Part b c o n) : Part a c o n :=
  ⟨k.len.trans h.len, k.ok, fun i hi => (k.out i hi).trans (h.out i hi)⟩

/-- What divideLong has done, down to place i of the quotient. -/
structure LongTo (A D i : Nat) (t q : List Nat) : Prop where
  okt : Ok t
  okq : Ok q
  zero : ∀ j, j < i → q.getD j 0 = 0
  sum : A = D * val q + val t
  lt : val t < D * 4294967296 ^ i

/-- The number below place k is all, if it is small. -/
theorem val_low {t : List Nat} {k : Nat} (hk : k ≤ t.length) (h : val t < 4294967296 ^ k) : val t = valF (fun i => t.getD i 0) k ∧ val (t.drop k) = 0 := by
  have h1 := val_split t k hk
  have h2 : val (t.drop k) = 0 := by
    rcases Nat.eq_zero_or_pos (val (t.drop k)) with h0 | h0
    · exact h0
    · have : 4294967296 ^ k * 1 ≤ 4294967296 ^ k * val (t.drop k) := Nat.mul_le_mul_left _ h0
      omega
  rw [h2, val_take_valF] at h1
  exact ⟨by simpa using h1, h2⟩

theorem LongTo.window {A D i n : Nat} {t q : List Nat} (h : LongTo A D (i + 1) t q) (hDn : D < 4294967296 ^ n) (hlen : i + (n + 1) ≤ t.length) :
    seg t i (n + 1) < D * 4294967296 ∧ val t = valF (fun j => t.getD j 0) i + 4294967296 ^ i * seg t i (n + 1) ∧ val (t.drop (i + (n + 1))) = 0 := by
  have h1 : val t < 4294967296 ^ (i + (n + 1)) := by
    refine Nat.lt_of_lt_of_le h.lt ?_
    have e : 4294967296 ^ (i + (n + 1)) = 4294967296 ^ n * 4294967296 ^ (i + 1) := by rw [← Nat.pow_add]; congr 1; omega
    rw [e]
    exact Nat.mul_le_mul_right _ (by omega)
  obtain ⟨h2, h3⟩ := val_low hlen h1
  rw [valF_seg] at h2
  refine ⟨?_, h2, h3⟩
  have h4 := h.lt
  rw [Nat.pow_succ, Nat.mul_left_comm] at h4
  rw [h2] at h4
  exact Nat.lt_of_mul_lt_mul_left (Nat.lt_of_le_of_lt (Nat.le_add_left _ _) h4)

theorem LongTo.step {A D i n e : Nat} {t q t' : List Nat} (h : LongTo A D (i + 1) t q) (hD : 0 < D) (hDn : D < 4294967296 ^ n) (hlen : i + (n + 1) ≤ t.length) (hq : i < q.length)
    (hp : Part t t' i (n + 1)) (he : e = seg t i (n + 1) / D) (ht : seg t' i (n + 1) = seg t i (n + 1) % D) : LongTo A D i t' (q.set i e) := by
  obtain ⟨h1, h2, h3⟩ := h.window hDn hlen
  have hd := Nat.div_add_mod (seg t i (n + 1)) D
  have hm := Nat.mod_lt (seg t i (n + 1)) hD
  have he4 : e < 4294967296 := by rw [he]; exact Nat.div_lt_of_lt_mul h1
  have hdrop : t'.drop (i + (n + 1)) = t.drop (i + (n + 1)) := by
    apply List.ext_getElem
    · rw [List.length_drop, List.length_drop, hp.len]
    · intro j h5 h6
      have := hp.out (i + (n + 1) + j) (.inr (by omega))
      rw [List.getElem_drop, List.getElem_drop]
      rw [List.length_drop] at h5 h6
      rw [List.getD_eq_getElem?_getD, List.getD_eq_getElem?_getD, List.getElem?_eq_getElem (by omega), List.getElem?_eq_getElem (by omega)] at this
      simpa using this
  have hv : val t' = valF (fun j => t.getD j 0) i + 4294967296 ^ i * (seg t i (n + 1) % D) := by
    rw [val_split t' (i + (n + 1)) (by rw [hp.len]; exact hlen), hdrop, h3, val_take_valF, valF_seg, ht, valF_congr (fun j => t'.getD j 0) (fun j => t.getD j 0) i (fun j hj => hp.out j (.inl hj))]
    simp
  have hlow : valF (fun j => t.getD j 0) i < 4294967296 ^ i := valF_lt _ _ (fun j _ => h.okt.getD j)
  refine ⟨hp.ok, h.okq.set _ _ he4, fun j hj => by rw [getD_set_ne _ _ _ _ (by omega)]; exact h.zero j (by omega), ?_, ?_⟩
  · rw [val_set_zero (h.zero i (by omega)) hq, hv, h.sum, h2, Nat.mul_add]
    have e1 := congrArg (4294967296 ^ i * ·) hd
    simp only [Nat.mul_add] at e1
    have e2 : 4294967296 ^ i * (D * (seg t i (n + 1) / D)) = D * (4294967296 ^ i * e) := by rw [he, Nat.mul_left_comm]
    omega
  · rw [hv]
    have : 4294967296 ^ i * (seg t i (n + 1) % D + 1) ≤ 4294967296 ^ i * D := Nat.mul_le_mul_left _ hm
    rw [Nat.mul_add] at this
    rw [Nat.mul_comm D]
    omega

theorem LongTo.start {A D N : Nat} {t : List Nat} (ht : Ok t) (hA : val t = A) (hlt : A < D * 4294967296 ^ N) : LongTo A D N t (List.replicate N 0) :=
  ⟨ht, Ok.replicate N, fun j hj => by rw [List.getD_eq_getElem?_getD, List.getElem?_replicate]; split <;> rfl, by rw [val_replicate]; omega, by rw [hA]; exact hlt⟩
theorem LongTo.total {A D : Nat} {t q : List Nat} (h : LongTo A D 0 t q) (hD : 0 < D) : val q = A / D ∧ val t = A % D := by
  have h1 := h.sum
  have h2 := h.lt
  rw [Nat.pow_zero, Nat.mul_one] at h2
  rw [h1]
  constructor
  · rw [Nat.mul_add_div hD, Nat.div_eq_of_lt h2, Nat.add_zero]
  · rw [Nat.mul_add_mod, Nat.mod_eq_of_lt h2]

/-- Shifted both, the quotient is the same. -/
theorem shifted_div (a b p : Nat) (hp : 0 < p) : a * p / (b * p) = a / b ∧ a * p % (b * p) / p = a % b := by
  constructor
  · exact Nat.mul_div_mul_right _ _ hp
  · rw [Nat.mul_mod_mul_right, Nat.mul_div_cancel _ hp]

/-- The divisor's highest bit is set behind the shift; the quotient has no more limbs than are laid for it. -/
theorem long_fits {a b la n p : Nat} (ha : a < 4294967296 ^ la) (hp : p ≤ 2147483648) (hb : 4294967296 ^ n ≤ 2 * (b * p)) (hn : n ≤ la) : a * p < b * p * 4294967296 ^ (la - n + 1) := by
  have h1 : a * p < 4294967296 ^ la * 2147483648 := by
    rcases Nat.eq_zero_or_pos p with h0 | h0
    · subst h0; have := Nat.pow_pos (n := la) (show 0 < 4294967296 by decide); omega
    · exact Nat.lt_of_lt_of_le (Nat.mul_lt_mul_of_pos_right ha h0) (Nat.mul_le_mul_left _ hp)
  have h2 : 4294967296 ^ n * 4294967296 ^ (la - n + 1) ≤ 2 * (b * p) * 4294967296 ^ (la - n + 1) := Nat.mul_le_mul_right _ hb
  rw [← Nat.pow_add, show n + (la - n + 1) = la + 1 by omega, Nat.pow_succ, Nat.mul_assoc 2] at h2
  omega

theorem seg_zeros (k o n : Nat) : seg (List.replicate k 0) o n = 0 := by
  induction n with
  | zero => rfl
  | succ n ih =>
    rw [seg_succ, ih, List.getD_eq_getElem?_getD, List.getElem?_replicate]
    split <;> simp
/-- What shiftUp has written into zeros. -/
theorem up_val {n y c : Nat} {t : List Nat} (h : AddMul (List.replicate (n + 1) 0) 0 n y t c) : val (t.set n c) = y ∧ Ok (t.set n c) ∧ (t.set n c).length = n + 1 := by
  have hl : t.length = n + 1 := by have := h.part.len; simpa using this
  have hz : t.getD n 0 = 0 := by
    rw [h.part.out n (.inr (by omega)), List.getD_eq_getElem?_getD, List.getElem?_replicate]; split <;> rfl
  refine ⟨?_, h.part.ok.set _ _ h.lt, by rw [List.length_set]; exact hl⟩
  have h1 := h.sum
  rw [seg_zeros, Nat.zero_add] at h1
  rw [val_set_zero hz (by omega), ← seg_all t (n + 1) (by omega), seg_succ, Nat.zero_add, hz, Nat.mul_zero, Nat.add_zero]
  exact h1
theorem dbl {P D : Nat} (h : P * 2147483648 ≤ D) : P * 4294967296 ≤ 2 * D := by
  have e0 : (4294967296 : Nat) = 2 * 2147483648 := by decide
  rw [e0, Nat.mul_left_comm]
  exact Nat.mul_le_mul_left 2 h
/-- The divisor, shifted till its highest bit is set. -/
theorem norm {Y z s k n : Nat} (hn : (limbs Y).length = n + 1) (hz : (limbs Y).getD n 0 = z) (hsk : s + k = 32) (hk : 0 < k) (h1 : 2 ^ (k - 1) ≤ z) (h2 : z < 2 ^ k) :
    (limbs (Y * 2 ^ s)).length = n + 1 ∧ 2147483648 ≤ (limbs (Y * 2 ^ s)).getD n 0 ∧ 4294967296 ^ (n + 1) ≤ 2 * (Y * 2 ^ s) := by
  have hY : Y = val ((limbs Y).take n) + 4294967296 ^ n * z := by
    have := val_take_succ (limbs Y) n (by omega)
    rw [List.take_of_length_le (by omega), val_limbs, hz] at this
    exact this
  have hlow : val ((limbs Y).take n) < 4294967296 ^ n := by
    have := val_lt ((limbs_ok Y).take n)
    rwa [List.length_take, Nat.min_eq_left (by omega)] at this
  generalize val ((limbs Y).take n) = y0 at *
  have p0 := Nat.two_pow_pos s
  have e31 : 2 ^ (k - 1) * 2 ^ s = 2147483648 := by rw [← Nat.pow_add, show k - 1 + s = 31 by omega]
  have e32 : 2 ^ k * 2 ^ s = 4294967296 := by rw [← Nat.pow_add, show k + s = 32 by omega]
  have hz1 : 2147483648 ≤ z * 2 ^ s := by
    have := Nat.mul_le_mul_right (2 ^ s) h1
    rwa [e31] at this
  have hz2 : z * 2 ^ s + 2 ^ s ≤ 4294967296 := by
    have h3 : (z + 1) * 2 ^ s ≤ 2 ^ k * 2 ^ s := Nat.mul_le_mul_right (2 ^ s) h2
    rw [e32, Nat.add_mul, Nat.one_mul] at h3
    exact h3
  have eD : Y * 2 ^ s = y0 * 2 ^ s + 4294967296 ^ n * (z * 2 ^ s) := by rw [hY, Nat.add_mul, Nat.mul_assoc]
  have hD1 : 4294967296 ^ n * 2147483648 ≤ Y * 2 ^ s := by
    rw [eD]
    have := Nat.mul_le_mul_left (4294967296 ^ n) hz1
    omega
  have hD2 : Y * 2 ^ s < 4294967296 ^ (n + 1) := by
    rw [eD, Nat.pow_succ]
    have h3 : y0 * 2 ^ s < 4294967296 ^ n * 2 ^ s := Nat.mul_lt_mul_of_pos_right hlow p0
    have h4 := Nat.mul_le_mul_left (4294967296 ^ n) hz2
    rw [Nat.mul_add] at h4
    omega
  generalize Y * 2 ^ s = D at *
  have hl1 := limbs_length_le hD2
  have hl2 : n < (limbs D).length := by
    rcases Nat.lt_or_ge n (limbs D).length with h | h
    · exact h
    · have h5 := lt_pow_length D
      have h6 : 4294967296 ^ (limbs D).length ≤ 4294967296 ^ n := Nat.pow_le_pow_right (by decide) h
      omega
  have hl : (limbs D).length = n + 1 := by omega
  have hP : 4294967296 ^ (n + 1) ≤ 2 * D := by
    have e : 4294967296 ^ (n + 1) = 4294967296 ^ n * 4294967296 := Nat.pow_succ ..
    rw [e]
    exact dbl hD1
  refine ⟨hl, ?_, hP⟩
  have hD : D = val ((limbs D).take n) + 4294967296 ^ n * (limbs D).getD n 0 := by
    have := val_take_succ (limbs D) n (by omega)
    rw [List.take_of_length_le (by omega), val_limbs] at this
    exact this
  have hlow' : val ((limbs D).take n) < 4294967296 ^ n := by
    have := val_lt ((limbs_ok D).take n)
    rwa [List.length_take, Nat.min_eq_left (by omega)] at this
  rcases Nat.lt_or_ge ((limbs D).getD n 0) 2147483648 with h | h
  · have h7 := Nat.mul_le_mul_left (4294967296 ^ n) (Nat.succ_le_of_lt h)
    rw [Nat.mul_succ] at h7
    omega
  · exact h

theorem seg_val (t : List Nat) (o n : Nat) : val ((t.drop o).take n) = seg t o n := by
  rw [val_take_valF]
  exact valF_congr _ _ _ (fun i _ => by rw [List.getD_eq_getElem?_getD, List.getD_eq_getElem?_getD, List.getElem?_drop])
end Go.Proofs.YtfjanomjmlcgaaaDoor
