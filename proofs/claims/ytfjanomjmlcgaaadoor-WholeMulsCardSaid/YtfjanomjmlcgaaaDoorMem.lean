/- Slices of limbs in memory: what a slice reads as ('Sees'); a block of the call's own, whose first cells are limbs ('Row'). No function of the program in it. -/
import Derived.WalkKit
import Derived.Deep.LoopGhost
import Derived.Deep.OwnRows
import Derived.Deep.Draws
import Derived.Laws.CopyOwn
import Derived.Test.YtfjanomjmlcgaaaDoorNums
set_option linter.unusedVariables false
set_option linter.unusedSimpArgs false
namespace Go.Proofs.YtfjanomjmlcgaaaDoor
open Go.RowKit

theorem hid {p : Prop} (h : p) : Hid p := h

/-- The limbs as values. -/
def enc (l : List Nat) : List Value := l.map fun x => Value.int .u32 (x : Nat)
theorem enc_length (l : List Nat) : (enc l).length = l.length := by simp [enc]
theorem enc_one (l : List Nat) : ∀ u ∈ enc l, u.oneCell' = true := by intro u hu; obtain ⟨x, _, rfl⟩ := List.mem_map.1 hu; rfl
theorem enc_get (l : List Nat) (i : Nat) (h : i < l.length) : (enc l)[i]? = some (.int .u32 (l.getD i 0 : Nat)) := by
  unfold enc
  rw [List.getElem?_map, List.getD_eq_getElem?_getD, List.getElem?_eq_getElem h]; rfl
theorem enc_append (l m : List Nat) : enc l ++ enc m = enc (l ++ m) := by simp [enc]

/-- v reads as the list l of limbs. -/
def Sees (w : World) (v : Value) (l : List Nat) : Prop :=
  ∃ ao cap, v = .slice ao l.length cap ∧ l.length ≤ cap ∧ l.length ≤ 70368744177664 ∧ Ok l ∧ (ao = none → cap = 0) ∧ (0 < l.length → ∃ b o, ao = some ⟨b, o, none⟩ ∧ ∀ i, i < l.length → w.cell? ⟨b, o + i, none⟩ = some (.int .u32 (l.getD i 0 : Nat)))

theorem Sees.nil (w : World) : Sees w (.slice none 0 0) [] := ⟨none, 0, rfl, Nat.le_refl _, by decide, Ok.nil, fun _ => rfl, fun h => absurd h (by simp)⟩

theorem Sees.ok {w : World} {v : Value} {l : List Nat} (h : Sees w v l) : Ok l := by obtain ⟨_, _, _, _, _, h, _, _⟩ := h; exact h
theorem Sees.len {w : World} {v : Value} {l : List Nat} (h : Sees w v l) : l.length ≤ 70368744177664 := by obtain ⟨_, _, _, h1, h2, _, _, _⟩ := h; omega

/-- Where it lies, if it has a limb. -/
theorem Sees.at {w : World} {ao : Option Addr} {len cap : Nat} {l : List Nat} (h : Sees w (.slice ao len cap) l) (hp : 0 < l.length) : ∃ b o, ao = some ⟨b, o, none⟩ ∧ ∀ i, i < l.length → w.cell? ⟨b, o + i, none⟩ = some (.int .u32 (l.getD i 0 : Nat)) := by
  obtain ⟨ao', cap', h1, h2, h3, h4, hn0, h5⟩ := h
  simp only [Value.slice.injEq] at h1
  obtain ⟨rfl, rfl, rfl⟩ := h1
  exact h5 hp
theorem Sees.len_eq {w : World} {ao : Option Addr} {len cap : Nat} {l : List Nat} (h : Sees w (.slice ao len cap) l) : len = l.length ∧ l.length ≤ cap := by
  obtain ⟨ao', cap', h1, h2, h3, h4, hn0, h5⟩ := h
  simp only [Value.slice.injEq] at h1
  obtain ⟨rfl, rfl, rfl⟩ := h1
  exact ⟨rfl, h2⟩

/-- What a law on append asks of the slice that is appended. -/
theorem Sees.news {w : World} {a : Addr} {len cap : Nat} {l : List Nat} (h : Sees w (.slice (some a) len cap) l) : ∀ j u, (enc l)[j]? = some u → w.cell? (a.add j) = some u := by
  intro j u hj
  by_cases hjl : j < l.length
  · obtain ⟨b, o, he, hcell⟩ := h.at (by omega)
    obtain rfl := Option.some.inj he
    rw [enc_get l j hjl] at hj
    have hadd : (⟨b, o, none⟩ : Addr).add j = ⟨b, o + j, none⟩ := by simp [Addr.add]
    rw [hadd, hcell j hjl]
    exact hj
  · rw [List.getElem?_eq_none (by rw [enc_length]; omega)] at hj
    cases hj

theorem Sees.news' {w : World} {b o len cap : Nat} {l : List Nat} (h : Sees w (.slice (some ⟨b, o, none⟩) len cap) l) : ∀ j u, (enc l)[j]? = some u → w.cell? ⟨b, o + j, none⟩ = some u := by
  intro j u hj
  have := h.news j u hj
  have hadd : (⟨b, o, none⟩ : Addr).add j = ⟨b, o + j, none⟩ := by simp [Addr.add]
  rwa [hadd] at this

/-- It is there in every later world. -/
theorem Sees.mono {w w' : World} {v : Value} {l : List Nat} (h : Sees w v l) (hc : ∀ p x, w.cell? p = some x → w'.cell? p = some x) : Sees w' v l := by
  obtain ⟨ao, cap, h1, h2, h3, h4, hn0, h5⟩ := h
  exact ⟨ao, cap, h1, h2, h3, h4, hn0, fun hp => let ⟨b, o, ha, hcell⟩ := h5 hp; ⟨b, o, ha, fun i hi => hc _ _ (hcell i hi)⟩⟩

theorem Sees.below {w w' : World} {v : Value} {l : List Nat} (h : Sees w v l) (hb : Below w.heap.size w w') : Sees w' v l :=
  h.mono fun p x hx => (hb.cell (World.block_lt_of_cell? w p hx)).trans hx

/-- .. the slice cut at its end: 'a[:n:n]'. -/
theorem Sees.take {w : World} {ao : Option Addr} {len cap : Nat} {l : List Nat} (h : Sees w (.slice ao len cap) l) (n : Nat) (hn : n ≤ l.length) : Sees w (.slice ao n n) (l.take n) := by
  obtain ⟨ao', cap', h1, h2, h3, h4, hn0, h5⟩ := h
  simp only [Value.slice.injEq] at h1
  obtain ⟨rfl, rfl, rfl⟩ := h1
  have hl : (l.take n).length = n := by simp; omega
  refine ⟨ao, n, by rw [hl], by omega, by omega, h4.take n, fun e => by have := hn0 e; omega, fun hp => ?_⟩
  obtain ⟨b, o, ha, hcell⟩ := h5 (by omega)
  refine ⟨b, o, ha, fun i hi => ?_⟩
  rw [hl] at hi
  rw [hcell i (by omega), List.getD_eq_getElem?_getD, List.getD_eq_getElem?_getD, List.getElem?_take_of_lt hi]

/-- What 'trim' hands back. -/
def cut (ao : Option Addr) (n : Nat) : Value := if n = 0 then .slice none 0 0 else .slice ao n n

theorem Sees.cut {w : World} {ao : Option Addr} {len cap : Nat} {l : List Nat} (h : Sees w (.slice ao len cap) l) (n : Nat) (hn : n ≤ l.length) : Sees w (cut ao n) (l.take n) := by
  unfold YtfjanomjmlcgaaaDoor.cut
  split
  · subst n; simpa using Sees.nil w
  · exact h.take n hn

/-- Block b is one of cells of limbs (none frozen); its first cells hold l. -/
def Row (w : World) (b : Nat) (l : List Nat) : Prop :=
  ∃ cur : Array Value, w.heap[b]? = some (.cells cur 57 (0, 0)) ∧ l.length ≤ cur.size ∧ ∀ i, i < l.length → cur[i]? = some (.int .u32 (l.getD i 0 : Nat))

namespace Row
variable {w w' : World} {b : Nat} {l : List Nat}

theorem cell (h : Row w b l) {i : Nat} (hi : i < l.length) : w.cell? ⟨b, i, none⟩ = some (.int .u32 (l.getD i 0 : Nat)) := by
  obtain ⟨c, hb, _, hc⟩ := h
  simp only [World.cell?, hb]
  simpa using hc i hi

theorem frozen (h : Row w b l) (i : Nat) : w.frozen? ⟨b, i, none⟩ = false := by
  obtain ⟨c, hb, _, _⟩ := h
  simp [World.frozen?, hb]

theorem lt (h : Row w b l) : b < w.heap.size := by
  obtain ⟨c, hb, _, _⟩ := h
  obtain ⟨hlt, _⟩ := Array.getElem?_eq_some_iff.1 hb
  exact hlt

theorem of_block (h : Row w b l) (e : w'.heap[b]? = w.heap[b]?) : Row w' b l := by
  obtain ⟨c, hb, hn, hc⟩ := h
  exact ⟨c, e.trans hb, hn, hc⟩

theorem set (h : Row w b l) (i x : Nat) : Row (w.setCell ⟨b, i, none⟩ (.int .u32 (x : Nat))) b (l.set i x) := by
  obtain ⟨c, hb, hn, hc⟩ := h
  refine ⟨c.setIfInBounds i (.int .u32 (x : Nat)), ?_, by simpa using hn, fun j hj => ?_⟩
  · simp [World.setCell, Array.getElem?_modify, hb]
  · rw [List.length_set] at hj
    rw [Array.getElem?_setIfInBounds, List.getD_eq_getElem?_getD, List.getElem?_set]
    by_cases e : i = j
    · subst e
      rw [if_pos rfl, if_pos (by omega), if_pos rfl, if_pos hj]; rfl
    · rw [if_neg e, if_neg e, hc j hj, List.getD_eq_getElem?_getD]

theorem setOther (h : Row w b l) {a : Addr} (ha : b ≠ a.block) (v : Value) : Row (w.setCell a v) b l := h.of_block (Deep.blk_setCell_other _ _ _ _ ha)
theorem alloc (h : Row w b l) (o : Obj) : Row (w.alloc o) b l := h.of_block (Deep.blk_alloc_lt _ _ _ h.lt)
theorem drew (h : Row w b l) : Row w.drew b l := h
theorem drewN (h : Row w b l) (n : Nat) : Row (w.drewN n) b l := h
theorem below (h : Row w b l) {B : Nat} (hb : Below B w w') (hB : b < B) : Row w' b l := h.of_block (hb.block b hB)
theorem grown (h : Row w b l) {r : Option Nat} (hg : w.grownBy w' r) (hr : some b ≠ r) : Row w' b l := h.of_block (hg.block b h.lt hr)
theorem take (h : Row w b l) (n : Nat) : Row w b (l.take n) := by
  obtain ⟨c, hb, hn, hc⟩ := h
  refine ⟨c, hb, by simp; omega, fun i hi => ?_⟩
  have : i < n ∧ i < l.length := by simpa [List.length_take, Nat.lt_min] using hi
  rw [hc i this.2, List.getD_eq_getElem?_getD, List.getD_eq_getElem?_getD, List.getElem?_take_of_lt this.1]

/-- A slice over it reads as its part of the list. -/
theorem sees (h : Row w b l) (hok : Ok l) (o n cap : Nat) (hn : o + n ≤ l.length) (hc : n ≤ cap) (hcap : n ≤ 70368744177664) : Sees w (.slice (some ⟨b, o, none⟩) n cap) ((l.drop o).take n) := by
  have hl : ((l.drop o).take n).length = n := by simp; omega
  refine ⟨_, cap, by rw [hl], by omega, by omega, (hok.drop o).take n, (fun e => by cases e), fun _ => ⟨b, o, rfl, fun i hi => ?_⟩⟩
  rw [hl] at hi
  rw [h.cell (by omega), List.getD_eq_getElem?_getD, List.getD_eq_getElem?_getD, List.getElem?_take_of_lt hi, List.getElem?_drop]

theorem made (w : World) (n : Nat) : Row (w.alloc (.cells (madeCells #[.int .u32 0] n) 57)) w.heap.size (List.replicate n 0) := by
  refine ⟨_, Deep.blk_alloc_new _ _, by simp [size_madeCells], fun i hi => ?_⟩
  simp at hi
  rw [List.getD_eq_getElem?_getD, List.getElem?_replicate, if_pos hi]
  simp [madeCells, hi, Nat.mod_one]

/-- Out of what a law on append leaves. -/
theorem of_owns {base n g cap : Nat} {l : List Nat} (h : w.ownsRow base 57 1 (.slice (some ⟨g, 0, none⟩) n cap) n (enc l)) : Row w g l ∧ base ≤ g ∧ n = l.length ∧ n ≤ cap ∧ cap ≤ maxLen := by
  obtain ⟨h1, h2⟩ := h
  rw [enc_length, Nat.mul_one] at h1
  rcases h2 with ⟨h2, _⟩ | ⟨g', cap', cur, hv, hg, hh, hnc, hm, hs, ht⟩
  · cases h2
  · simp only [Value.slice.injEq, Option.some.injEq, Addr.mk.injEq] at hv
    obtain ⟨⟨rfl, _, _⟩, _, rfl⟩ := hv
    refine ⟨⟨cur, hh, by simp at hs; omega, fun i hi => ?_⟩, hg, h1.symm, hnc, hm⟩
    have : (cur.toList.take (n * 1))[i]? = some (Value.int .u32 (l.getD i 0 : Nat)) := by
      rw [ht, enc_get l i hi]
    rw [List.getElem?_take_of_lt (by omega)] at this
    simpa using this
end Row

theorem owns_some {w : World} {base n : Nat} {v : Value} {l : List Nat} (h : w.ownsRow base 57 1 v n (enc l)) (hv : v ≠ .slice none 0 0) : ∃ g cap, v = .slice (some ⟨g, 0, none⟩) l.length cap ∧ Row w g l ∧ base ≤ g ∧ l.length ≤ cap ∧ cap ≤ maxLen := by
  have h' := h
  obtain ⟨h1, h2⟩ := h'
  rcases h2 with ⟨h2, _⟩ | ⟨g, cap, cur, rfl, _⟩
  · exact absurd h2 hv
  · obtain ⟨a, b, rfl, c, d⟩ := Row.of_owns h
    exact ⟨g, cap, rfl, a, b, c, d⟩

/-! ### The world but one block -/
theorem grownBy_trans {a b c : World} {r : Option Nat} (h : a.grownBy b r) (k : b.grownBy c r) : a.grownBy c r :=
  ⟨k.os.trans h.os, k.tape.trans h.tape, k.output.trans h.output, Nat.le_trans h.size k.size, fun i hi hr => (k.block i (Nat.lt_of_lt_of_le hi h.size) hr).trans (h.block i hi hr)⟩
theorem grownBy_set {a b : World} {g : Nat} (h : a.grownBy b (some g)) (i : Nat) (v : Value) : a.grownBy (b.setCell ⟨g, i, none⟩ v) (some g) :=
  grownBy_trans h ⟨rfl, rfl, rfl, by rw [Deep.nblk_setCell]; exact Nat.le_refl _, fun k _ hr => Deep.blk_setCell_other _ _ _ _ (fun e => hr (by rw [e]))⟩
theorem grownBy_drew {a b : World} {r : Option Nat} (h : a.grownBy b r) : a.grownBy b.drew r := ⟨h.os, h.tape, h.output, h.size, h.block⟩
theorem grownBy_drewN {a b : World} {r : Option Nat} (h : a.grownBy b r) (n : Nat) : a.grownBy (b.drewN n) r := ⟨h.os, h.tape, h.output, h.size, h.block⟩
theorem grownBy_alloc' {a b : World} {r : Option Nat} (h : a.grownBy b r) (o : Obj) : a.grownBy (b.alloc o) r := grownBy_trans h (World.grownBy_alloc b o r)
theorem grownBy_below {a b : World} {g : Nat} (h : a.grownBy b (some g)) (hg : g < a.heap.size) : Below g a b := ⟨h.os, h.tape, h.output, h.size, fun k hk => h.block k (by omega) (by simp; omega)⟩

/-- A slice that does not lie in the block that is written. -/
theorem Sees.grown {w w' : World} {ao : Option Addr} {len cap : Nat} {l : List Nat} (h : Sees w (.slice ao len cap) l) {g : Nat} (hg : w.grownBy w' (some g)) (hne : ∀ a, ao = some a → a.block ≠ g) : Sees w' (.slice ao len cap) l := by
  obtain ⟨ao', cap', h1, h2, h3, h4, hn0, h5⟩ := h
  simp only [Value.slice.injEq] at h1
  obtain ⟨rfl, rfl, rfl⟩ := h1
  refine ⟨ao, cap, rfl, h2, h3, h4, hn0, fun hp => ?_⟩
  obtain ⟨b, o, rfl, hcell⟩ := h5 hp
  exact ⟨b, o, rfl, fun i hi => hg.cell (hcell i hi) (by simpa using hne _ rfl)⟩

/-- A slice that is written out, in a new block. -/
theorem sees_lit (w : World) (l : List Nat) (hok : Ok l) (hl : l.length ≤ 70368744177664) : Sees (w.alloc (.cells (enc l).toArray 57)) (.slice (some ⟨w.heap.size, 0, none⟩) l.length l.length) l := by
  refine ⟨_, _, rfl, Nat.le_refl _, hl, hok, (fun e => by cases e), fun hp => ⟨w.heap.size, 0, rfl, fun i hi => ?_⟩⟩
  rw [World.cell?_alloc_at _ _ _ _ rfl, Nat.zero_add, List.getElem?_toArray, enc_get l i hi]

/-- Where it lies is a block of the world. -/
theorem Sees.lt {w : World} {a : Addr} {len cap : Nat} {l : List Nat} (h : Sees w (.slice (some a) len cap) l) (hp : 0 < l.length) : a.block < w.heap.size := by
  obtain ⟨b, o, he, hcell⟩ := h.at hp
  obtain rfl := Option.some.inj he
  exact World.block_lt_of_cell? w _ (hcell 0 hp)

/-- The answer is the plain list of x, in new memory or shared; what was there is as it was. -/
def IsNum (w : World) (x : Nat) (e : Ending) (w' : World) : Prop := ∃ v, e = .returned v ∧ Sees w' v (limbs x) ∧ Below w.heap.size w w'

/-- A new row into which a list was copied. -/
theorem Row.of_splice {w : World} {g N : Nat} {l : List Nat} (h : w.heap[g]? = some (.cells (splice (List.replicate N (Value.int .u32 0)) 0 (enc l)).toArray 57 (0, 0))) (hN : l.length ≤ N) : Row w g (l ++ List.replicate (N - l.length) 0) := by
  refine ⟨_, h, by simp [splice, enc_length], fun i hi => ?_⟩
  simp only [List.length_append, List.length_replicate] at hi
  rw [List.getElem?_toArray]
  simp only [splice, List.take_zero, List.nil_append, Nat.zero_add]
  by_cases hil : i < l.length
  · rw [List.getElem?_append_left (by rw [enc_length]; exact hil), enc_get l i hil, List.getD_eq_getElem?_getD, List.getD_eq_getElem?_getD, List.getElem?_append_left hil]
  · rw [List.getElem?_append_right (by rw [enc_length]; omega), List.getD_eq_getElem?_getD, List.getElem?_append_right (by omega), enc_length]
    rw [List.drop_replicate, List.getElem?_replicate, List.getElem?_replicate, if_pos (by omega), if_pos (by omega)]; rfl

end Go.Proofs.YtfjanomjmlcgaaaDoor
