/- Decimal digits: plain mathematics; a row of bytes in memory. -/
import Derived.Test.YtfjanomjmlcgaaaDoorMem
set_option linter.unusedVariables false
set_option linter.unusedSimpArgs false
namespace Go.Proofs.YtfjanomjmlcgaaaDoor
open Go.RowKit

/-- The lowest decimal digit, as a letter. -/
def digB (x : Nat) : UInt8 := UInt8.ofNat (48 + x % 10)
theorem digB_toNat (x : Nat) : (digB x).toNat = 48 + x % 10 := by
  unfold digB
  rw [UInt8.toNat_ofNat']
  omega
theorem digB_zero : digB 0 = 48 := rfl
theorem digB_ne {x : Nat} (h : x % 10 ≠ 0) : digB x ≠ 48 := by
  intro e
  have := congrArg UInt8.toNat e
  rw [digB_toNat] at this
  have h48 : (48 : UInt8).toNat = 48 := rfl
  omega

def decRF : Nat → Nat → List UInt8
  | 0, _ => []
  | f + 1, n => if n = 0 then [] else digB n :: decRF f (n / 10)
/-- The decimal digits, the lowest first. -/
def decR (n : Nat) : List UInt8 := decRF n n
/-- The decimal digits as a text says them. -/
def dec (n : Nat) : List UInt8 := if n = 0 then [48] else (decR n).reverse

theorem decRF_eq (f n : Nat) (h : n ≤ f) : decRF f n = decR n := by
  suffices H : ∀ f g n, n ≤ f → n ≤ g → decRF f n = decRF g n from H f n n h (Nat.le_refl _)
  intro f
  induction f with
  | zero => intro g n h1 _; have : n = 0 := by omega
            subst this; cases g <;> simp [decRF]
  | succ f ih =>
    intro g n h1 h2
    cases g with
    | zero => have : n = 0 := by omega
              subst this; simp [decRF]
    | succ g =>
      by_cases e : n = 0
      · simp [decRF, e]
      · simp only [decRF, e, if_false]
        rw [ih g (n / 10) (by omega) (by omega)]
theorem decR_zero : decR 0 = [] := rfl
theorem decR_pos {n : Nat} (h : 0 < n) : decR n = digB n :: decR (n / 10) := by
  obtain ⟨m, rfl⟩ : ∃ m, n = m + 1 := ⟨n - 1, by omega⟩
  show decRF (m + 1) (m + 1) = _
  simp only [decRF]
  rw [if_neg (by omega), decRF_eq m _ (by omega)]

theorem decR_last {n : Nat} (h : 0 < n) : ∃ l c, decR n = l ++ [c] ∧ c ≠ 48 := by
  induction n using Nat.strongRecOn with
  | _ n ih =>
    rw [decR_pos h]
    by_cases e : n / 10 = 0
    · exact ⟨[], digB n, by rw [e, decR_zero]; rfl, digB_ne (by omega)⟩
    · obtain ⟨l, c, h1, h2⟩ := ih (n / 10) (by omega) (by omega)
      exact ⟨digB n :: l, c, by rw [h1]; rfl, h2⟩

/-- So many digits, the lowest first. -/
def pad (n x : Nat) : List UInt8 := (List.range n).map fun j => digB (x / 10 ^ j)
theorem pad_length (n x : Nat) : (pad n x).length = n := by simp [pad]
theorem pad_succ (n x : Nat) : pad (n + 1) x = digB x :: pad n (x / 10) := by
  unfold pad
  rw [List.range_succ_eq_map, List.map_cons, List.map_map]
  congr 1
  · simp
  · apply List.map_congr_left
    intro j _
    simp only [Function.comp_apply]
    rw [Nat.pow_succ, Nat.mul_comm (10 ^ j) 10, Nat.div_div_eq_div_mul]
theorem pad_zero (n : Nat) : pad n 0 = List.replicate n 48 := by
  induction n with
  | zero => rfl
  | succ n ih => rw [pad_succ, Nat.zero_div, ih, digB_zero]; rfl
theorem pad_eq (n x : Nat) (h : x < 10 ^ n) : ∃ k, pad n x = decR x ++ List.replicate k 48 := by
  induction n generalizing x with
  | zero => have : x = 0 := by simpa using h
            subst this; exact ⟨0, rfl⟩
  | succ n ih =>
    by_cases e : x = 0
    · subst e; exact ⟨n + 1, by rw [pad_zero, decR_zero]; rfl⟩
    · obtain ⟨k, hk⟩ := ih (x / 10) (by rw [Nat.pow_succ] at h; omega)
      exact ⟨k, by rw [pad_succ, hk, decR_pos (Nat.pos_of_ne_zero e)]; rfl⟩

theorem dropWhile_replicate (k : Nat) (l : List UInt8) : (List.replicate k 48 ++ l).dropWhile (· == 48) = l.dropWhile (· == 48) := by
  induction k with
  | zero => rfl
  | succ k ih => rw [List.replicate_succ, List.cons_append, List.dropWhile_cons, if_pos (by decide), ih]

/-- What is left of so many digits when the noughts ahead are struck. -/
theorem trim_pad (n x : Nat) (h : x < 10 ^ n) (hx : 0 < x) : (pad n x).reverse.dropWhile (· == 48) = dec x := by
  obtain ⟨k, hk⟩ := pad_eq n x h
  obtain ⟨l, c, hl, hc⟩ := decR_last hx
  unfold dec
  rw [if_neg (by omega), hk, List.reverse_append, List.reverse_replicate, dropWhile_replicate, hl, List.reverse_append]
  simp [hc]

/-- Block b is one of bytes (none frozen); it begins with t. -/
def Row8 (w : World) (b : Nat) (l : List UInt8) : Prop :=
  ∃ cur : Array Value, w.heap[b]? = some (.cells cur 5 (0, 0)) ∧ l.length ≤ cur.size ∧ ∀ i, i < l.length → cur[i]? = some (.int .u8 ((l.getD i 0).toNat : Nat))
namespace Row8
variable {w w' : World} {b : Nat} {l : List UInt8}
theorem cell (h : Row8 w b l) {i : Nat} (hi : i < l.length) : w.cell? ⟨b, i, none⟩ = some (.int .u8 ((l.getD i 0).toNat : Nat)) := by
  obtain ⟨c, hb, _, hc⟩ := h
  simp only [World.cell?, hb]
  simpa using hc i hi
theorem frozen (h : Row8 w b l) (i : Nat) : w.frozen? ⟨b, i, none⟩ = false := by
  obtain ⟨c, hb, _, _⟩ := h
  simp [World.frozen?, hb]
theorem lt (h : Row8 w b l) : b < w.heap.size := by
  obtain ⟨c, hb, _, _⟩ := h
  obtain ⟨hlt, _⟩ := Array.getElem?_eq_some_iff.1 hb
  exact hlt
theorem of_block (h : Row8 w b l) (e : w'.heap[b]? = w.heap[b]?) : Row8 w' b l := by
  obtain ⟨c, hb, hn, hc⟩ := h
  exact ⟨c, e.trans hb, hn, hc⟩
theorem set (h : Row8 w b l) (i : Nat) (x : UInt8) : Row8 (w.setCell ⟨b, i, none⟩ (.int .u8 (x.toNat : Nat))) b (l.set i x) := by
  obtain ⟨c, hb, hn, hc⟩ := h
  refine ⟨c.setIfInBounds i (.int .u8 (x.toNat : Nat)), ?_, by simpa using hn, fun j hj => ?_⟩
  · simp [World.setCell, Array.getElem?_modify, hb]
  · rw [List.length_set] at hj
    rw [Array.getElem?_setIfInBounds, List.getD_eq_getElem?_getD, List.getElem?_set]
    by_cases e : i = j
    · subst e
      rw [if_pos rfl, if_pos (by omega), if_pos rfl, if_pos hj]; rfl
    · rw [if_neg e, if_neg e, hc j hj, List.getD_eq_getElem?_getD]
theorem grown (h : Row8 w b l) {r : Option Nat} (hg : w.grownBy w' r) (hr : some b ≠ r) : Row8 w' b l := h.of_block (hg.block b h.lt hr)
theorem made (w : World) (n : Nat) : Row8 (w.alloc (.cells (madeCells #[.int .u8 0] n) 5)) w.heap.size (List.replicate n 0) := by
  refine ⟨_, Deep.blk_alloc_new _ _, by simp [size_madeCells], fun i hi => ?_⟩
  simp at hi
  rw [List.getD_eq_getElem?_getD, List.getElem?_replicate, if_pos hi]
  simp [madeCells, hi, Nat.mod_one]
end Row8

theorem getD8_set_ne (s : List UInt8) (i j : Nat) (x : UInt8) (h : i ≠ j) : (s.set i x).getD j 0 = s.getD j 0 := by
  rw [List.getD_eq_getElem?_getD, List.getD_eq_getElem?_getD, List.getElem?_set_ne h]
theorem getD8_set_eq (s : List UInt8) (i : Nat) (x : UInt8) (h : i < s.length) : (s.set i x).getD i 0 = x := by
  rw [List.getD_eq_getElem?_getD, List.getElem?_set_self h]; rfl

/-- What 'writeGroup' has done: the k lowest digits of x stand at the end of the n letters from o on. -/
structure Wrote (s : List UInt8) (o n x k : Nat) (t : List UInt8) : Prop where
  len : t.length = s.length
  out : ∀ j, j < o + n - k ∨ o + n ≤ j → t.getD j 0 = s.getD j 0
  dig : ∀ i, i < k → t.getD (o + n - 1 - i) 0 = digB (x / 10 ^ i)
theorem Wrote.start (s : List UInt8) (o n x : Nat) : Wrote s o n x 0 s := ⟨rfl, fun _ _ => rfl, fun i hi => absurd hi (by omega)⟩
theorem Wrote.step {s t : List UInt8} {o n x k : Nat} (h : Wrote s o n x k t) (hk : k < n) (hn : o + n ≤ s.length) : Wrote s o n x (k + 1) (t.set (o + (n - 1 - k)) (digB (x / 10 ^ k))) := by
  have e : o + (n - 1 - k) = o + n - 1 - k := by omega
  rw [e]
  refine ⟨by rw [List.length_set]; exact h.len, fun j hj => ?_, fun i hi => ?_⟩
  · rw [getD8_set_ne _ _ _ _ (by omega)]; exact h.out j (by omega)
  · by_cases e : i = k
    · subst e; rw [getD8_set_eq _ _ _ (by rw [h.len]; omega)]
    · rw [getD8_set_ne _ _ _ _ (by omega)]; exact h.dig i (by omega)

end Go.Proofs.YtfjanomjmlcgaaaDoor
