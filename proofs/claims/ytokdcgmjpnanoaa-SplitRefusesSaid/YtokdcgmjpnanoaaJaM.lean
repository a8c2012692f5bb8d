/- Slices of ints in memory: what they read as; a row of ints of the call's own that is written in place. -/
import Derived.WalkKit
import Derived.Deep.LoopGhost
import Derived.Deep.OwnRows
import Derived.Deep.Draws
import Derived.Deep.QuietTactic
import Derived.Deep.RegionWith
import Derived.Deep.RegionLaw
import Derived.BigQuiet
import Derived.Laws.AppendOwnNone
import Derived.Test.YtokdcgmjpnanoaaRows
import Derived.Test.YtokdcgmjpnanoaaJaO
import Derived.Test.YtokdcgmjpnanoaaPr5

set_option linter.unusedVariables false
set_option linter.unusedSimpArgs false
namespace Go.Proofs.Ytokdcgmjpnanoaa
open Go.RowKit

theorem ret_int {k : IntKind} {a b : Int} (h : a = b) : Ending.returned (.int k a) = .returned (.int k b) := by rw [h]
theorem ret_bool {a b : Bool} (h : a = b) : Ending.returned (.bool a) = .returned (.bool b) := by rw [h]
theorem below_drewN {B : Nat} {a w : World} (h : Below B a w) (n : Nat) : Below B a (w.drewN n) := ⟨h.os, h.tape, h.output, h.size, h.block⟩
theorem step_below {w a b : World} (h : Below w.heap.size w a) (k : Below a.heap.size a b) : Below w.heap.size w b := h.trans (k.mono h.size)

/-- v is a slice whose cells are those of the list, each by f. -/
def SeesF {α : Type} (f : α → Value) (d : α) (w : World) (v : Value) (l : List α) : Prop :=
  ∃ ao cap, v = .slice ao l.length cap ∧ l.length ≤ cap ∧ l.length ≤ 70368744177664 ∧ (ao = none → cap = 0) ∧ (0 < l.length → ∃ b o, ao = some ⟨b, o, none⟩ ∧ ∀ i, i < l.length → w.cell? ⟨b, o + i, none⟩ = some (f (l.getD i d)))

namespace SeesF
variable {α : Type} {f : α → Value} {d : α} {w w' : World} {v : Value} {l : List α}
theorem nil (w : World) : SeesF f d w (.slice none 0 0) [] := ⟨none, 0, rfl, Nat.le_refl _, by simp, fun _ => rfl, fun h => absurd h (by simp)⟩
theorem len (h : SeesF f d w v l) : l.length ≤ 70368744177664 := by obtain ⟨_, _, _, _, h2, _, _⟩ := h; exact h2
theorem form (h : SeesF f d w v l) : ∃ ao cap, v = .slice ao l.length cap ∧ l.length ≤ cap := by obtain ⟨ao, cap, h1, h2, _, _, _⟩ := h; exact ⟨ao, cap, h1, h2⟩
theorem at' {ao : Option Addr} {len cap : Nat} (h : SeesF f d w (.slice ao len cap) l) (hp : 0 < l.length) : ∃ b o, ao = some ⟨b, o, none⟩ ∧ ∀ i, i < l.length → w.cell? ⟨b, o + i, none⟩ = some (f (l.getD i d)) := by
  obtain ⟨ao', cap', h1, h2, h3, hn0, h5⟩ := h
  simp only [Value.slice.injEq] at h1
  obtain ⟨rfl, rfl, rfl⟩ := h1
  exact h5 hp
theorem mono (h : SeesF f d w v l) (hc : ∀ p x, w.cell? p = some x → w'.cell? p = some x) : SeesF f d w' v l := by
  obtain ⟨ao, cap, h1, h2, h3, hn0, h5⟩ := h
  exact ⟨ao, cap, h1, h2, h3, hn0, fun hp => let ⟨b, o, ha, hcell⟩ := h5 hp; ⟨b, o, ha, fun i hi => hc _ _ (hcell i hi)⟩⟩
theorem below (h : SeesF f d w v l) (hb : Below w.heap.size w w') : SeesF f d w' v l :=
  h.mono fun p x hx => (hb.cell (World.block_lt_of_cell? w p hx)).trans hx
theorem drewN (h : SeesF f d w v l) (n : Nat) : SeesF f d (w.drewN n) v l := h
/-- The slice cut at its end: 'a[:n]'. -/
theorem take {ao : Option Addr} {len cap : Nat} (h : SeesF f d w (.slice ao len cap) l) (n : Nat) (hn : n ≤ l.length) : SeesF f d w (.slice ao n cap) (l.take n) := by
  obtain ⟨ao', cap', h1, h2, h3, hn0, h5⟩ := h
  simp only [Value.slice.injEq] at h1
  obtain ⟨rfl, rfl, rfl⟩ := h1
  have hl : (l.take n).length = n := by simp; omega
  refine ⟨ao, cap, by rw [hl], by omega, by omega, hn0, fun hp => ?_⟩
  obtain ⟨b, o, ha, hcell⟩ := h5 (by omega)
  refine ⟨b, o, ha, fun i hi => ?_⟩
  rw [hl] at hi
  rw [hcell i (by omega), List.getD_eq_getElem?_getD, List.getD_eq_getElem?_getD, List.getElem?_take_of_lt hi]
/-- The slice cut at its beginning: 'a[n:]', where something is left. -/
theorem drop {b o len cap : Nat} (h : SeesF f d w (.slice (some ⟨b, o, none⟩) len cap) l) (n : Nat) (hn : n < l.length) : SeesF f d w (.slice (some ⟨b, o + n, none⟩) (len - n) (cap - n)) (l.drop n) := by
  obtain ⟨ao', cap', h1, h2, h3, hn0, h5⟩ := h
  simp only [Value.slice.injEq] at h1
  obtain ⟨rfl, rfl, rfl⟩ := h1
  have hl : (l.drop n).length = l.length - n := by simp
  refine ⟨_, cap - n, by rw [hl], by omega, by omega, (fun e => by cases e), fun hp => ?_⟩
  obtain ⟨b', o', ha, hcell⟩ := h5 (by omega)
  obtain ⟨rfl, rfl, -⟩ := Addr.mk.inj (Option.some.inj ha)
  refine ⟨b, o + n, rfl, fun i hi => ?_⟩
  rw [hl] at hi
  rw [Nat.add_assoc, hcell (n + i) (by omega), List.getD_eq_getElem?_getD, List.getD_eq_getElem?_getD, List.getElem?_drop]
/-- .. written out, in a new block. -/
theorem lit (w : World) (t : TypeId) (l : List α) (hl : l.length ≤ 70368744177664) : SeesF f d (w.alloc (.cells (l.map f).toArray t)) (.slice (some ⟨w.heap.size, 0, none⟩) l.length l.length) l := by
  refine ⟨_, _, rfl, Nat.le_refl _, hl, (fun e => by cases e), fun hp => ⟨w.heap.size, 0, rfl, fun i hi => ?_⟩⟩
  rw [World.cell?_alloc_at _ _ _ _ rfl, Nat.zero_add, List.getElem?_toArray, List.getElem?_map, List.getD_eq_getElem?_getD, List.getElem?_eq_getElem hi]; rfl
end SeesF

/-- An int as a value. -/
def vI (x : Int) : Value := .int .i64 x
/-- v is a slice of the ints l. -/
def SeesI (w : World) (v : Value) (l : List Int) : Prop := SeesF vI 0 w v l
theorem SeesI.at {w : World} {ao : Option Addr} {len cap : Nat} {l : List Int} (h : SeesI w (.slice ao len cap) l) (hp : 0 < l.length) : ∃ b o, ao = some ⟨b, o, none⟩ ∧ ∀ i, i < l.length → w.cell? ⟨b, o + i, none⟩ = some (.int .i64 (l.getD i 0)) := SeesF.at' h hp
theorem SeesI.below {w w' : World} {v : Value} {l : List Int} (h : SeesI w v l) (hb : Below w.heap.size w w') : SeesI w' v l := SeesF.below h hb
theorem SeesI.len {w : World} {v : Value} {l : List Int} (h : SeesI w v l) : l.length ≤ 70368744177664 := SeesF.len h
theorem SeesI.drewN {w : World} {v : Value} {l : List Int} (h : SeesI w v l) (n : Nat) : SeesI (w.drewN n) v l := h
theorem SeesI.drew {w : World} {v : Value} {l : List Int} (h : SeesI w v l) : SeesI w.drew v l := h

theorem info_int : (Try.prog.info? 3).map (fun i => (i.zero, i.size, i.bytes)) = some (some (.int .i64 0), 1, 8) := by kernel_rfl

theorem grownBy_trans {a b c : World} {r : Option Nat} (h : a.grownBy b r) (k : b.grownBy c r) : a.grownBy c r :=
  ⟨k.os.trans h.os, k.tape.trans h.tape, k.output.trans h.output, Nat.le_trans h.size k.size, fun i hi hr => (k.block i (Nat.lt_of_lt_of_le hi h.size) hr).trans (h.block i hi hr)⟩
theorem grownBy_set {a b : World} {g : Nat} (h : a.grownBy b (some g)) (i : Nat) (v : Value) : a.grownBy (b.setCell ⟨g, i, none⟩ v) (some g) :=
  grownBy_trans h ⟨rfl, rfl, rfl, by rw [Deep.nblk_setCell]; exact Nat.le_refl _, fun k _ hr => Deep.blk_setCell_other _ _ _ _ (fun e => hr (by rw [e]))⟩

theorem info_parts {P : Program} {e : TypeId} {z : Value} {n b : Nat} (h : (P.info? e).map (fun i => (i.zero, i.size, i.bytes)) = some (some z, n, b)) : ∃ i, P.info? e = some i ∧ i.zero = some z ∧ i.size = n ∧ i.bytes = b := by
  obtain ⟨i, hi, hz⟩ := Option.map_eq_some_iff.1 h
  simp only [Prod.mk.injEq] at hz
  exact ⟨i, hi, hz.1, hz.2.1, hz.2.2⟩

theorem step_append_own {P : Program} {ops : Array Oper} {o : Oper} {a : Act} {w : World} {K : Act → World → Prop} {Q : Exit → Act → World → Prop} {E : Prop}
    (hg : o.guard = none) (s x : Operand) (t : TypeId) (hop : o.op = Op.call { callee := Callee.builtin Builtin.append, args := #[s, x], argTypes := #[t, t] })
    (base : Nat) (e : TypeId) (i : TypeInfo) (z : Value) (size bytes : Nat) (h1 : P.underlying t = some (.slice e)) (h2 : P.info? e = some i) (h3 : i.zero = some z) (h4 : i.size = size) (h5 : i.bytes = bytes) (h6 : z.cells.size = size) (h7 : 0 < size)
    (v : Value) (n : Nat) (xs : List Value) (hs : a.eval s = v) (hown : w.ownsRow base e size v n xs)
    (ad : Addr) (m c : Nat) (news : List Value) (hx : a.eval x = .slice (some ad) m c) (hn : news.length = m * size) (hc : ∀ j u, news[j]? = some u → w.cell? (ad.add j) = some u) (h1c : ∀ u ∈ news, u.oneCell' = true)
    (b1 : n + m ≤ maxLen) (b2 : (n + m) * bytes ≤ 140737488355328) (hbase : base ≤ w.heap.size)
    (hK : ∀ v' w', w'.ownsRow base e size v' (n + m) (xs ++ news) → w.grownBy w' v.ownBlock → K (a.put o.dst v') w') :
    if Region.wanted o (yielded ops a.tmps) = true then Oper.wp P o a w K Q else E := by
  have hw : Region.wanted o (yielded ops a.tmps) = true := by simp [Region.wanted, hg]
  rw [if_pos hw]
  obtain ⟨v', w', hrun, r1, r2, _⟩ := run_append_own (P := P) w base t o.type e i z size bytes h1 h2 h3 h4 h5 h6 h7 v n xs hown ad m c news hn hc h1c b1 b2 hbase
  unfold Oper.wp
  simp [execOp, hop, resolve, invoke, builtin, hs, hx, hrun, Result.andThen]
  exact hK v' w' r1 r2

theorem ownsI_sees {w : World} {base n : Nat} {v : Value} {l : List Int} (h : w.ownsRow base 3 1 v n (l.map vI)) (hl : l.length ≤ 70368744177664) : SeesI w v l := by
  obtain ⟨h1, h2⟩ := h
  rw [List.length_map, Nat.mul_one] at h1
  rcases h2 with ⟨h2, h3⟩ | ⟨g, cap, cur, hv, hg, hh, hnc, hm, hs, ht⟩
  · have : l = [] := List.eq_nil_of_length_eq_zero (by omega)
    subst this
    rw [h2]
    exact SeesF.nil w
  · subst h1
    refine ⟨_, cap, hv, by omega, hl, (fun e => by cases e), fun _ => ⟨g, 0, rfl, fun i hi => ?_⟩⟩
    have : (cur.toList.take (l.length * 1))[i]? = some (Value.int .i64 (l.getD i 0)) := by
      rw [ht, List.getElem?_map, List.getD_eq_getElem?_getD, List.getElem?_eq_getElem hi]; rfl
    rw [List.getElem?_take_of_lt (by omega)] at this
    simp only [World.cell?, hh, Nat.zero_add]
    show _ = some (Value.int .i64 (l.getD i 0))
    simpa using this

theorem grownBy_refl (w : World) (r : Option Nat) : w.grownBy w r := ⟨rfl, rfl, rfl, Nat.le_refl _, fun _ _ _ => rfl⟩
theorem below_grownBy {w w' : World} (h : Below w.heap.size w w') (r : Option Nat) : w.grownBy w' r := ⟨h.os, h.tape, h.output, h.size, fun k hk _ => h.block k hk⟩
theorem grownBy_drew {a w : World} {r : Option Nat} (h : a.grownBy w r) : a.grownBy w.drew r := ⟨h.os, h.tape, h.output, h.size, h.block⟩
/-- In place, in a block of the call's own. -/
theorem below_in {w a b : World} {g : Nat} (h : Below w.heap.size w a) (k : a.grownBy b (some g)) (hg : w.heap.size ≤ g) : Below w.heap.size w b :=
  h.grown k h.size (fun _ e => by cases e; exact hg)

/-- Block g begins with the ints l. -/
def RowW (w : World) (g : Nat) (l : List Int) : Prop :=
  ∃ arr : Array Value, w.heap[g]? = some (.cells arr 3 (0, 0)) ∧ l.length ≤ arr.size ∧ ∀ i, i < l.length → arr[i]? = some (vI (l.getD i 0))
namespace RowW
variable {w w' : World} {g : Nat} {l : List Int}
theorem cell (h : RowW w g l) {i : Nat} (hi : i < l.length) : w.cell? ⟨g, i, none⟩ = some (.int .i64 (l.getD i 0)) := by
  obtain ⟨arr, h1, h2, h3⟩ := h
  simp only [World.cell?, h1]
  exact h3 i hi
theorem frozen (h : RowW w g l) (i : Nat) : w.frozen? ⟨g, i, none⟩ = false := by
  obtain ⟨arr, h1, h2, h3⟩ := h
  simp [World.frozen?, h1]
theorem lt (h : RowW w g l) : g < w.heap.size := by obtain ⟨arr, h1, _⟩ := h; exact (Array.getElem?_eq_some_iff.1 h1).1
theorem of_block (h : RowW w g l) (e : w'.heap[g]? = w.heap[g]?) : RowW w' g l := by
  obtain ⟨arr, h1, h2⟩ := h; exact ⟨arr, e.trans h1, h2⟩
theorem below (h : RowW w g l) (hb : Below w.heap.size w w') : RowW w' g l := h.of_block (hb.block g h.lt)
theorem grown (h : RowW w g l) {r : Option Nat} (hb : w.grownBy w' r) (hr : some g ≠ r) : RowW w' g l := h.of_block (hb.block g h.lt hr)
theorem set (h : RowW w g l) {i : Nat} (hi : i < l.length) (x : Int) : RowW (w.setCell ⟨g, i, none⟩ (.int .i64 x)) g (l.set i x) := by
  obtain ⟨arr, h1, h2, h3⟩ := h
  refine ⟨arr.setIfInBounds i (.int .i64 x), ?_, by simpa using h2, ?_⟩
  · simp only [World.setCell, Array.getElem?_modify, h1, if_true, Option.map_some]; rfl
  · intro j hj
    rw [List.length_set] at hj
    rw [Array.getElem?_setIfInBounds, List.getD_eq_getElem?_getD, List.getElem?_set]
    by_cases e : i = j
    · subst e; rw [if_pos rfl, if_pos rfl, if_pos (by omega), if_pos hi]; rfl
    · rw [if_neg e, if_neg e, ← List.getD_eq_getElem?_getD]; exact h3 j hj
theorem take (h : RowW w g l) (n : Nat) : RowW w g (l.take n) := by
  obtain ⟨arr, h1, h2, h3⟩ := h
  refine ⟨arr, h1, by rw [List.length_take]; omega, fun i hi => ?_⟩
  rw [List.length_take] at hi
  rw [h3 i (by omega), List.getD_eq_getElem?_getD, List.getD_eq_getElem?_getD, List.getElem?_take_of_lt (by omega)]
theorem made (w : World) (n : Nat) : RowW (w.alloc (.cells (madeCells #[.int .i64 0] n) 3)) w.heap.size (List.replicate n 0) := by
  refine ⟨_, Deep.blk_alloc_new w _, by rw [size_madeCells, List.length_replicate]; exact Nat.le_refl _, fun i hi => ?_⟩
  rw [List.length_replicate] at hi
  rw [← Array.getElem?_toList, toList_madeCells_one, List.getElem?_replicate, if_pos hi, List.getD_eq_getElem?_getD, List.getElem?_replicate, if_pos hi]; rfl
end RowW

/-- v is a slice of the ints l, at the head of block g, which the call may write. -/
def Mine (w : World) (g : Nat) (v : Value) (l : List Int) : Prop :=
  ∃ ao cap, v = .slice ao l.length cap ∧ l.length ≤ cap ∧ l.length ≤ 70368744177664 ∧ (ao = none → cap = 0) ∧ (0 < l.length → ao = some ⟨g, 0, none⟩ ∧ RowW w g l)
namespace Mine
variable {w w' : World} {g : Nat} {v : Value} {l : List Int}
theorem sees (h : Mine w g v l) : SeesI w v l := by
  obtain ⟨ao, cap, h1, h2, h3, h4, h5⟩ := h
  refine ⟨ao, cap, h1, h2, h3, h4, fun hp => ?_⟩
  obtain ⟨ha, hr⟩ := h5 hp
  exact ⟨g, 0, ha, fun i hi => by rw [Nat.zero_add]; exact hr.cell hi⟩
theorem len (h : Mine w g v l) : l.length ≤ 70368744177664 := by obtain ⟨_, _, _, _, h2, _, _⟩ := h; exact h2
theorem below (h : Mine w g v l) (hb : Below w.heap.size w w') : Mine w' g v l := by
  obtain ⟨ao, cap, h1, h2, h3, h4, h5⟩ := h
  exact ⟨ao, cap, h1, h2, h3, h4, fun hp => ⟨(h5 hp).1, (h5 hp).2.below hb⟩⟩
theorem grown (h : Mine w g v l) {g' : Nat} (hb : w.grownBy w' (some g')) (hr : g ≠ g') : Mine w' g v l := by
  obtain ⟨ao, cap, h1, h2, h3, h4, h5⟩ := h
  exact ⟨ao, cap, h1, h2, h3, h4, fun hp => ⟨(h5 hp).1, (h5 hp).2.grown hb (fun e => hr (Option.some.inj e))⟩⟩
theorem nil (w : World) (g : Nat) : Mine w g (.slice none 0 0) [] := ⟨none, 0, rfl, Nat.le_refl _, by simp, fun _ => rfl, fun h => absurd h (by simp)⟩
theorem made (w : World) (n : Nat) (hn : n ≤ 70368744177664) : Mine (w.alloc (.cells (madeCells #[.int .i64 0] n) 3)) w.heap.size (.slice (some ⟨w.heap.size, 0, none⟩) n n) (List.replicate n 0) :=
  ⟨_, n, by rw [List.length_replicate], by rw [List.length_replicate]; exact Nat.le_refl _, by rw [List.length_replicate]; exact hn, (fun e => by cases e), fun _ => ⟨rfl, RowW.made w n⟩⟩
theorem of_owns {base n : Nat} (h : w.ownsRow base 3 1 v n (l.map vI)) (hl : l.length ≤ 70368744177664) : ∃ g, base ≤ g ∧ Mine w g v l := by
  obtain ⟨h1, h2⟩ := h
  rw [List.length_map, Nat.mul_one] at h1
  rcases h2 with ⟨h2, h3⟩ | ⟨g, cap, cur, hv, hg, hh, hnc, hm, hs, ht⟩
  · have : l = [] := List.eq_nil_of_length_eq_zero (by omega)
    subst this
    exact ⟨base, Nat.le_refl _, by rw [h2]; exact nil w base⟩
  · subst h1
    refine ⟨g, hg, _, cap, hv, by omega, hl, (fun e => by cases e), fun _ => ⟨rfl, cur, hh, by omega, fun i hi => ?_⟩⟩
    have : (cur.toList.take (l.length * 1))[i]? = some (Value.int .i64 (l.getD i 0)) := by
      rw [ht, List.getElem?_map, List.getD_eq_getElem?_getD, List.getElem?_eq_getElem hi]; rfl
    rw [List.getElem?_take_of_lt (by omega), Array.getElem?_toList] at this
    exact this
end Mine

/-- The list behind k rounds: of the first k elements what F makes of them. -/
def prog (F : Int → Int) (l : List Int) (k : Nat) : List Int := (l.take k).map F ++ l.drop k
theorem prog_zero (F : Int → Int) (l : List Int) : prog F l 0 = l := by simp [prog]
theorem prog_len (F : Int → Int) (l : List Int) (k : Nat) : (prog F l k).length = l.length := by simp [prog]; omega
theorem prog_all (F : Int → Int) (l : List Int) : prog F l l.length = l.map F := by simp [prog]
theorem prog_at (F : Int → Int) (l : List Int) (k : Nat) (hk : k < l.length) : (prog F l k).getD k 0 = l.getD k 0 := by
  unfold prog
  rw [List.getD_eq_getElem?_getD, List.getElem?_append_right (by simp; omega), List.length_map, List.length_take, List.getElem?_drop, List.getD_eq_getElem?_getD]
  congr 2; omega
theorem prog_set (F : Int → Int) (l : List Int) (k : Nat) (hk : k < l.length) : (prog F l k).set k (F (l.getD k 0)) = prog F l (k + 1) := by
  apply List.ext_getElem?
  intro i
  have ht : ((l.take k).map F).length = k := by rw [List.length_map, List.length_take]; omega
  have ht1 : ((l.take (k + 1)).map F).length = k + 1 := by rw [List.length_map, List.length_take]; omega
  unfold prog
  rw [List.getElem?_set]
  by_cases e : k = i
  · subst e
    rw [if_pos rfl, if_pos (by simp; omega), List.getElem?_append_left (by omega), List.getElem?_map, List.getElem?_take_of_lt (by omega), List.getD_eq_getElem?_getD, List.getElem?_eq_getElem hk]; rfl
  · rw [if_neg e]
    by_cases h1 : i < k
    · rw [List.getElem?_append_left (by omega), List.getElem?_append_left (by omega), List.getElem?_map, List.getElem?_map, List.getElem?_take_of_lt h1, List.getElem?_take_of_lt (by omega)]
    · rw [List.getElem?_append_right (by omega), List.getElem?_append_right (by omega), ht, ht1, List.getElem?_drop, List.getElem?_drop]
      congr 1; omega
theorem take_last {l : List Int} {n : Nat} (hn : n < l.length) : l.take (n + 1) = l.take n ++ [l.getD n 0] := by
  rw [List.take_add_one, List.getElem?_eq_getElem hn, List.getD_eq_getElem?_getD, List.getElem?_eq_getElem hn]; rfl
end Go.Proofs.Ytokdcgmjpnanoaa
