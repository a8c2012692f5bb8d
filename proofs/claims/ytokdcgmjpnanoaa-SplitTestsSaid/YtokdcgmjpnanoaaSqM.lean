/- Lists of lists in memory. -/
import Derived.Test.YtokdcgmjpnanoaaJb2

set_option linter.unusedVariables false
set_option linter.unusedSimpArgs false
namespace Go.Proofs.Ytokdcgmjpnanoaa
open Go.RowKit

/-- nil. -/
def vNil : Value := .slice none 0 0
/-- v is a slice of the lists L. -/
def SeesL (w : World) (v : Value) (L : List (List Int)) : Prop :=
  ∃ vs : List Value, vs.length = L.length ∧ SeesF id vNil w v vs ∧ ∀ i, i < L.length → SeesI w (vs.getD i vNil) (L.getD i [])
theorem SeesL.nil (w : World) : SeesL w vNil [] := ⟨[], rfl, SeesF.nil w, fun i h => absurd h (by simp)⟩
theorem SeesL.below {w w' : World} {v : Value} {L : List (List Int)} (h : SeesL w v L) (hb : Below w.heap.size w w') : SeesL w' v L := by
  obtain ⟨vs, h1, h2, h3⟩ := h
  exact ⟨vs, h1, h2.below hb, fun i hi => SeesI.below (h3 i hi) hb⟩
theorem SeesL.form {w : World} {v : Value} {L : List (List Int)} (h : SeesL w v L) : ∃ ao cap, v = .slice ao L.length cap ∧ L.length ≤ cap := by
  obtain ⟨vs, h1, h2, -⟩ := h
  obtain ⟨ao, cap, e, hc⟩ := h2.form
  exact ⟨ao, cap, by rw [← h1]; exact e, by omega⟩
theorem SeesL.len {w : World} {v : Value} {L : List (List Int)} (h : SeesL w v L) : L.length ≤ 70368744177664 := by
  obtain ⟨vs, h1, h2, -⟩ := h
  have := h2.len; omega
theorem SeesL.at {w : World} {ao : Option Addr} {len cap : Nat} {L : List (List Int)} (h : SeesL w (.slice ao len cap) L) {i : Nat} (hi : i < L.length) : ∃ b o v, ao = some ⟨b, o, none⟩ ∧ w.cell? ⟨b, o + i, none⟩ = some v ∧ SeesI w v (L.getD i []) := by
  obtain ⟨vs, h1, h2, h3⟩ := h
  obtain ⟨b, o, ha, hc⟩ := h2.at' (by omega)
  exact ⟨b, o, _, ha, hc i (by omega), h3 i hi⟩
theorem cell?_setCell_ne {w : World} {p p' : Addr} {x y : Value} (h : w.cell? p' = some y) (hp : w.cell? p ≠ some y) : (w.setCell p x).cell? p' = some y := by
  rw [World.cell?_setCell_other]
  · exact h
  · rintro rfl; exact hp h
/-- A store over what is no int. -/
theorem SeesI.setCell {w : World} {v : Value} {l : List Int} (h : SeesI w v l) {p : Addr} {x : Value} (hp : ∀ z, w.cell? p ≠ some (.int .i64 z)) : SeesI (w.setCell p x) v l := by
  obtain ⟨ao, cap, h1, h2, h3, h4, h5⟩ := h
  refine ⟨ao, cap, h1, h2, h3, h4, fun hl => ?_⟩
  obtain ⟨b, o, ha, hc⟩ := h5 hl
  exact ⟨b, o, ha, fun i hi => cell?_setCell_ne (hc i hi) (hp _)⟩

/-- Block g is the values vs, of type t. -/
def RowV (t : TypeId) (w : World) (g : Nat) (vs : List Value) : Prop :=
  ∃ arr : Array Value, w.heap[g]? = some (.cells arr t (0, 0)) ∧ vs.length ≤ arr.size ∧ ∀ i, i < vs.length → arr[i]? = some (vs.getD i vNil)
namespace RowV
variable {t : TypeId} {w w' : World} {g : Nat} {vs : List Value}
theorem cell (h : RowV t w g vs) {i : Nat} (hi : i < vs.length) : w.cell? ⟨g, i, none⟩ = some (vs.getD i vNil) := by
  obtain ⟨arr, h1, h2, h3⟩ := h
  simp only [World.cell?, h1]
  exact h3 i hi
theorem frozen (h : RowV t w g vs) (i : Nat) : w.frozen? ⟨g, i, none⟩ = false := by
  obtain ⟨arr, h1, h2, h3⟩ := h
  simp [World.frozen?, h1]
theorem lt (h : RowV t w g vs) : g < w.heap.size := by obtain ⟨arr, h1, _⟩ := h; exact (Array.getElem?_eq_some_iff.1 h1).1
theorem of_block (h : RowV t w g vs) (e : w'.heap[g]? = w.heap[g]?) : RowV t w' g vs := by
  obtain ⟨arr, h1, h2⟩ := h; exact ⟨arr, e.trans h1, h2⟩
theorem below (h : RowV t w g vs) (hb : Below w.heap.size w w') : RowV t w' g vs := h.of_block (hb.block g h.lt)
theorem grown (h : RowV t w g vs) {r : Option Nat} (hb : w.grownBy w' r) (hr : some g ≠ r) : RowV t w' g vs := h.of_block (hb.block g h.lt hr)
theorem set (h : RowV t w g vs) {i : Nat} (hi : i < vs.length) (x : Value) : RowV t (w.setCell ⟨g, i, none⟩ x) g (vs.set i x) := by
  obtain ⟨arr, h1, h2, h3⟩ := h
  refine ⟨arr.setIfInBounds i x, ?_, by simpa using h2, ?_⟩
  · simp only [World.setCell, Array.getElem?_modify, h1, if_true, Option.map_some]; rfl
  · intro j hj
    rw [List.length_set] at hj
    rw [Array.getElem?_setIfInBounds, List.getD_eq_getElem?_getD, List.getElem?_set]
    by_cases e : i = j
    · subst e; rw [if_pos rfl, if_pos rfl, if_pos (by omega), if_pos hi]; rfl
    · rw [if_neg e, if_neg e, ← List.getD_eq_getElem?_getD]; exact h3 j hj
theorem made (w : World) (t : TypeId) (z : Value) (n : Nat) : RowV t (w.alloc (.cells (madeCells #[z] n) t)) w.heap.size (List.replicate n z) := by
  refine ⟨_, Deep.blk_alloc_new w _, by rw [size_madeCells, List.length_replicate]; exact Nat.le_refl _, fun i hi => ?_⟩
  rw [List.length_replicate] at hi
  rw [← Array.getElem?_toList, toList_madeCells_one, List.getElem?_replicate, if_pos hi, List.getD_eq_getElem?_getD, List.getElem?_replicate, if_pos hi]; rfl
/-- .. as a slice. -/
theorem sees (h : RowV t w g vs) {n cap : Nat} (hn : vs.length = n) (hc : n ≤ cap) (hl : n ≤ 70368744177664) : SeesF id vNil w (.slice (some ⟨g, 0, none⟩) n cap) vs := by
  subst hn
  exact ⟨_, cap, rfl, hc, hl, (fun e => by cases e), fun _ => ⟨g, 0, rfl, fun i hi => by rw [Nat.zero_add]; exact h.cell hi⟩⟩
end RowV

theorem info_list : (Try.prog.info? 22).map (fun i => (i.zero, i.size, i.bytes)) = some (some (.slice none 0 0), 1, 24) := by kernel_rfl
/-- v is a slice of the lists L, in a block of the call's own. -/
def OwnsL (base : Nat) (w : World) (v : Value) (L : List (List Int)) : Prop :=
  ∃ vs : List Value, vs.length = L.length ∧ w.ownsRow base 22 1 v L.length vs ∧ ∀ i, i < L.length → SeesI w (vs.getD i vNil) (L.getD i [])
theorem owns_seesV {w : World} {base n : Nat} {t : TypeId} {v : Value} {vs : List Value} (h : w.ownsRow base t 1 v n vs) (hl : vs.length ≤ 70368744177664) : SeesF id vNil w v vs := by
  obtain ⟨h1, h2⟩ := h
  rw [Nat.mul_one] at h1
  rcases h2 with ⟨h2, h3⟩ | ⟨g, cap, cur, hv, hg, hh, hnc, hm, hs, ht⟩
  · have : vs = [] := List.eq_nil_of_length_eq_zero (by omega)
    subst this
    rw [h2]
    exact SeesF.nil w
  · subst h1
    refine ⟨_, cap, hv, by omega, hl, (fun e => by cases e), fun _ => ⟨g, 0, rfl, fun i hi => ?_⟩⟩
    have : (cur.toList.take (vs.length * 1))[i]? = some (vs.getD i vNil) := by
      rw [ht, List.getD_eq_getElem?_getD, List.getElem?_eq_getElem hi]; rfl
    rw [List.getElem?_take_of_lt (by omega)] at this
    simp only [World.cell?, hh, Nat.zero_add]
    show _ = some (vs.getD i vNil)
    simpa using this
theorem OwnsL.sees {base : Nat} {w : World} {v : Value} {L : List (List Int)} (h : OwnsL base w v L) (hl : L.length ≤ 70368744177664) : SeesL w v L := by
  obtain ⟨vs, h1, h2, h3⟩ := h
  exact ⟨vs, h1, owns_seesV h2 (by omega), h3⟩
theorem OwnsL.nil (base : Nat) (w : World) : OwnsL base w vNil [] := ⟨[], rfl, World.ownsRow_nil _ _ _ _, fun i h => absurd h (by simp)⟩
theorem ownsV_kept {base : Nat} {t : TypeId} {wr w2 : World} {v : Value} {n : Nat} {xs : List Value} (hown : wr.ownsRow base t 1 v n xs) (hb : Below wr.heap.size wr w2) : w2.ownsRow base t 1 v n xs :=
  hown.kept (below_grownBy hb none) (by by_cases h : v.ownBlock = none; exact Or.inl h; exact Or.inr h)
theorem OwnsL.below {base : Nat} {w w' : World} {v : Value} {L : List (List Int)} (h : OwnsL base w v L) (hb : Below w.heap.size w w') : OwnsL base w' v L := by
  obtain ⟨vs, h1, h2, h3⟩ := h
  exact ⟨vs, h1, ownsV_kept h2 hb, fun i hi => SeesI.below (h3 i hi) hb⟩
end Go.Proofs.Ytokdcgmjpnanoaa
