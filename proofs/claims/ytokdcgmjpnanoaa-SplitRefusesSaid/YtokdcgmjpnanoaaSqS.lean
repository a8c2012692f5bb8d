/- Merged: SqH SqK SqL SqS. -/
import Derived.Test.YtokdcgmjpnanoaaSqG
import Derived.Test.YtokdcgmjpnanoaaSqX
import Derived.Laws.OwnMore
import Derived.BigRegion
/- Insertion sort: mathematics; rows of slices that are swapped in place; math/bits.Len of a small number. -/
set_option linter.unusedVariables false
set_option linter.unusedSimpArgs false
namespace Go.Proofs.Ytokdcgmjpnanoaa
open Go.RowKit

set_option maxRecDepth 100000 in
theorem bits_Len64 {n : Nat} (h : n ≤ 12) (w : World) :
    Calls Try.prog 81 #[.int .u64 n] w fun e w' => (∃ l : Int, e = .returned (.int .i64 l)) ∧ w = w' := by
  have h1 : ¬ (n : Int) ≥ 4294967296 := by omega
  have h2 : ¬ (n : Int) ≥ 65536 := by omega
  have h3 : ¬ (n : Int) ≥ 256 := by omega
  have h4 : IntKind.u8.wrap (n : Int) = (n : Int) := by rw [IntKind.wrap_u8]; omega
  go_enter Try.func81, Try.ntmps81
  go_wp2
  go_ret
  exact ⟨⟨_, rfl⟩, rfl⟩
set_option maxRecDepth 100000 in
theorem bits_Len {n : Nat} (h : n ≤ 12) (w : World) :
    Calls Try.prog 41 #[.int .u64 n] w fun e w' => (∃ l : Int, e = .returned (.int .i64 l)) ∧ w = w' := by
  have C := hidP fun w => bits_Len64 h w
  clear h
  go_enter Try.func41, Try.ntmps41
  go_wp2_with fail
  refine (C.out _).mono ?_
  rintro e w1 ⟨⟨l, rfl⟩, rfl⟩
  go_wp2_with fail
  go_ret
  exact ⟨⟨l, rfl⟩, rfl⟩

/-! ### Insertion -/
/-- Elements j and j + 1 change places. -/
def swapL {α : Type} (d : α) (L : List α) (j : Nat) : List α := (L.set (j + 1) (L.getD j d)).set j (L.getD (j + 1) d)
theorem swapL_len {α : Type} (d : α) (L : List α) (j : Nat) : (swapL d L j).length = L.length := by simp [swapL]
theorem getD_setG {α : Type} (d : α) (L : List α) (k : Nat) (x : α) (i : Nat) : (L.set k x).getD i d = if k = i ∧ i < L.length then x else L.getD i d := by
  rw [List.getD_eq_getElem?_getD, List.getElem?_set]
  by_cases h : k = i
  · by_cases h2 : i < L.length
    · rw [if_pos h, if_pos (by omega), if_pos ⟨h, h2⟩]; rfl
    · rw [if_pos h, if_neg (by omega), if_neg (by omega), List.getD_eq_getElem?_getD, List.getElem?_eq_none (by omega)]
  · rw [if_neg h, if_neg (fun z => h z.1), List.getD_eq_getElem?_getD]
theorem getD_swapL {α : Type} (d : α) {L : List α} {j : Nat} (hj : j + 1 < L.length) (i : Nat) : (swapL d L j).getD i d = if i = j then L.getD (j + 1) d else if i = j + 1 then L.getD j d else L.getD i d := by
  unfold swapL
  rw [getD_setG, getD_setG, List.length_set]
  by_cases h1 : i = j
  · subst h1; rw [if_pos ⟨rfl, by omega⟩, if_pos rfl]
  · rw [if_neg (fun z => h1 z.1.symm), if_neg h1]
    by_cases h2 : i = j + 1
    · subst h2; rw [if_pos ⟨rfl, hj⟩, if_pos rfl]
    · rw [if_neg (fun z => h2 z.1.symm), if_neg h2]
theorem swapL_perm {α : Type} (d : α) {L : List α} {j : Nat} (hj : j + 1 < L.length) : (swapL d L j).Perm L := by
  have key : ∀ (M : List α) (x y : α), M.length = L.length → M.getD j d = x → M.getD (j + 1) d = y → (∀ i, i ≠ j → i ≠ j + 1 → M.getD i d = L.getD i d) → M = L.take j ++ (x :: y :: L.drop (j + 2)) := by
    intro M x y hl hx hy he
    apply List.ext_getElem?
    intro i
    have hM : ∀ i, i < L.length → M[i]? = some (M.getD i d) := fun i h => by rw [List.getD_eq_getElem?_getD, List.getElem?_eq_getElem (by omega)]; rfl
    have hL : ∀ i, i < L.length → L[i]? = some (L.getD i d) := fun i h => by rw [List.getD_eq_getElem?_getD, List.getElem?_eq_getElem h]; rfl
    have ht : (L.take j).length = j := by rw [List.length_take]; omega
    rcases Nat.lt_trichotomy i j with h | h | h
    · rw [List.getElem?_append_left (by omega), List.getElem?_take_of_lt h, hM i (by omega), he i (by omega) (by omega), hL i (by omega)]
    · subst h
      rw [List.getElem?_append_right (by omega), ht, Nat.sub_self, hM i (by omega), hx]; rfl
    · rw [List.getElem?_append_right (by omega), ht]
      by_cases h2 : i = j + 1
      · subst h2
        rw [show j + 1 - j = 1 by omega, hM _ hj, hy]; rfl
      · obtain ⟨m, rfl⟩ : ∃ m, i = j + 2 + m := ⟨i - (j + 2), by omega⟩
        rw [show j + 2 + m - j = m + 2 by omega]
        simp only [List.getElem?_cons_succ, List.getElem?_drop]
        by_cases h3 : j + 2 + m < L.length
        · rw [hM _ h3, he _ (by omega) (by omega), hL _ h3]
        · rw [List.getElem?_eq_none (by omega), List.getElem?_eq_none (by omega)]
  have e1 := key L (L.getD j d) (L.getD (j + 1) d) rfl rfl rfl (fun _ _ _ => rfl)
  have e2 := key (swapL d L j) (L.getD (j + 1) d) (L.getD j d) (swapL_len d L j) (by rw [getD_swapL d hj, if_pos rfl]) (by rw [getD_swapL d hj, if_neg (by omega), if_pos rfl]) (fun i h1 h2 => by rw [getD_swapL d hj, if_neg h1, if_neg h2])
  rw [e2]
  conv => rhs; rw [e1]
  exact (List.Perm.swap _ _ _).append_left _
/-- The first n are in order. -/
def SortTo (L : List (List Int)) (n : Nat) : Prop := ∀ a b, a < b → b < n → Le (L.getD a []) (L.getD b [])
/-- .. but for the one at j, which is before all behind it. -/
def SortBut (L : List (List Int)) (n j : Nat) : Prop := ∀ a b, a < b → b < n → b ≠ j → Le (L.getD a []) (L.getD b [])
theorem SortTo.but {L : List (List Int)} {n : Nat} (h : SortTo L n) : SortBut L (n + 1) n := fun a b hab hb hj => h a b hab (by omega)
theorem SortBut.zero {L : List (List Int)} {n : Nat} (h : SortBut L n 0) : SortTo L n := fun a b hab hb => h a b hab hb (by omega)
theorem SortBut.stop {L : List (List Int)} {n j : Nat} (h : SortBut L n (j + 1)) (hs : bef (L.getD (j + 1) []) (L.getD j []) = false) : SortTo L n := fun a b hab hb => by
  by_cases e : b = j + 1
  · subst e
    have h1 : Le (L.getD j []) (L.getD (j + 1) []) := hs
    by_cases e2 : a = j
    · subst e2; exact h1
    · exact (h a j (by omega) (by omega) (by omega)).trans h1
  · exact h a b hab hb e
theorem SortBut.swap {L : List (List Int)} {n j : Nat} (h : SortBut L n (j + 1)) (hj : j + 1 < L.length) (hn : j + 1 < n) (hs : bef (L.getD (j + 1) []) (L.getD j []) = true) : SortBut (swapL [] L j) n j := fun a b hab hb hbj => by
  rw [getD_swapL [] hj, getD_swapL [] hj, if_neg hbj]
  by_cases e : b = j + 1
  · subst e
    rw [if_pos rfl]
    by_cases e2 : a = j
    · rw [if_pos e2]; exact Le.of_bef hs
    · rw [if_neg e2, if_neg (by omega)]; exact h a j (by omega) (by omega) (by omega)
  · rw [if_neg e]
    by_cases e2 : a = j
    · rw [if_pos e2]
      exact h (j + 1) b (by omega) hb e
    · rw [if_neg e2]
      by_cases e3 : a = j + 1
      · rw [if_pos e3]; exact h j b (by omega) hb e
      · rw [if_neg e3]; exact h a b hab hb e
theorem SortTo.sorted {L : List (List Int)} (h : SortTo L L.length) : SortedL L := by
  unfold SortedL
  rw [List.pairwise_iff_getElem]
  intro i j hi hj hij
  have := h i j hij hj
  rwa [List.getD_eq_getElem?_getD, List.getD_eq_getElem?_getD, List.getElem?_eq_getElem hi, List.getElem?_eq_getElem hj] at this

/-! ### In place -/
theorem AllSl.setCell {w : World} {v x : Value} (h : AllSl w v) (p : Addr) (hx : notInt x) : AllSl (w.setCell p x) v := fun g hg i y hy => by
  by_cases e : (⟨g, i, none⟩ : Addr) = p
  · subst e
    cases hc : w.cell? ⟨g, i, none⟩ with
    | none =>
      exfalso
      simp only [World.cell?, World.setCell, Array.getElem?_modify] at hy hc
      cases hb : w.heap[g]? with
      | none => simp [hb] at hy
      | some o =>
        cases o with
        | cells cs t r =>
          simp only [hb, if_true, Option.map_some] at hy hc
          have hs : cs.size ≤ i := Array.getElem?_eq_none_iff.1 hc
          have hy2 : (cs.setIfInBounds i x)[i]? = some y := hy
          rw [Array.getElem?_eq_none (by simpa using hs)] at hy2
          cases hy2
        | _ => simp [hb] at hy
    | some y0 =>
      rw [World.cell?_setCell_same (h := hc)] at hy
      cases hy; exact hx
  · rw [World.cell?_setCell_other _ _ _ _ (by first | exact e | exact Ne.symm e)] at hy
    exact h g hg i y hy
theorem OwnsS.block {base : Nat} {w : World} {L : List (List Int)} {g n cap : Nat} (h : OwnsS base w (.slice (some ⟨g, 0, none⟩) n cap) L) : n = L.length ∧ base ≤ g ∧ g < w.heap.size ∧ (∀ i, w.frozen? ⟨g, i, none⟩ = false) ∧ L.length ≤ cap ∧ cap ≤ maxLen := by
  obtain ⟨vs, h1, h2, h3, h4⟩ := h
  have hl := h2.lt g rfl
  rcases h2.2 with ⟨e, -⟩ | ⟨g', cap', cur, e, hb, hg, hc, hm, -⟩
  · cases e
  · simp only [Value.slice.injEq, Option.some.injEq, Addr.mk.injEq, and_true] at e
    obtain ⟨rfl, rfl, rfl⟩ := e
    exact ⟨rfl, hl.1, hl.2, fun i => by simp [World.frozen?, hg], hc, hm⟩
theorem OwnsS.cellAt {base : Nat} {w : World} {L : List (List Int)} {g n cap : Nat} (h : OwnsS base w (.slice (some ⟨g, 0, none⟩) n cap) L) {i : Nat} (hi : i < L.length) : ∃ v, w.cell? ⟨g, i, none⟩ = some v ∧ SeesI w v (L.getD i []) ∧ isSl v := by
  obtain ⟨vs, h1, h2, h3, h4⟩ := h
  have hc := h2.cells (g := g) rfl i (vs.getD i vNil) (by rw [List.getD_eq_getElem?_getD, List.getElem?_eq_getElem (by omega)]; rfl)
  have ha : (⟨g, 0, none⟩ : Addr).add i = ⟨g, i, none⟩ := by unfold Addr.add; simp; intro h; exact h.symm
  rw [ha] at hc
  refine ⟨_, hc, h4 i hi, ?_⟩
  obtain ⟨a, c, e, -⟩ := SeesF.form (h4 i hi)
  exact ⟨_, _, _, e⟩
theorem OwnsS.swap {base : Nat} {w : World} {L : List (List Int)} {g n cap j : Nat} {x y : Value} (h : OwnsS base w (.slice (some ⟨g, 0, none⟩) n cap) L) (hj : j + 1 < L.length) (hx : w.cell? ⟨g, j, none⟩ = some x) (hy : w.cell? ⟨g, j + 1, none⟩ = some y) :
    OwnsS base ((w.setCell ⟨g, j + 1, none⟩ x).setCell ⟨g, j, none⟩ y) (.slice (some ⟨g, 0, none⟩) n cap) (swapL [] L j) ∧ w.grownBy ((w.setCell ⟨g, j + 1, none⟩ x).setCell ⟨g, j, none⟩ y) (some g) := by
  obtain ⟨vs, h1, h2, h3, h4⟩ := h
  have hn : n = L.length := by
    rcases h2.2 with ⟨e, -⟩ | ⟨g', cap', cur, e, -⟩
    · cases e
    · simp only [Value.slice.injEq] at e; exact e.2.1
  subst hn
  have ha : ∀ i, (⟨g, 0, none⟩ : Addr).add i = ⟨g, i, none⟩ := fun i => by unfold Addr.add; simp; intro h; exact h.symm
  have hcell : ∀ i, i < L.length → w.cell? ⟨g, i, none⟩ = some (vs.getD i vNil) := fun i hi => by
    have := h2.cells (g := g) rfl i (vs.getD i vNil) (by rw [List.getD_eq_getElem?_getD, List.getElem?_eq_getElem (by omega)]; rfl)
    rwa [ha] at this
  have ex : x = vs.getD j vNil := Option.some.inj (hx.symm.trans (hcell j (by omega)))
  have ey : y = vs.getD (j + 1) vNil := Option.some.inj (hy.symm.trans (hcell (j + 1) hj))
  have nx : notInt x := h3 g rfl j x hx
  have ny : notInt y := h3 g rfl (j + 1) y hy
  have s1 := h2.stored (j + 1) x
  have s2 := s1.1.stored j y
  have hcj : (w.setCell ⟨g, j + 1, none⟩ x).cell? ⟨g, j, none⟩ = some x := by
    rw [World.cell?_setCell_other _ _ _ _ (by simp)]; exact hx
  refine ⟨⟨swapL vNil vs j, by rw [swapL_len, swapL_len, h1], ?_, (h3.setCell _ nx).setCell _ ny, fun i hi => ?_⟩, grownBy_trans s1.2 s2.2⟩
  · rw [swapL_len]
    have : swapL vNil vs j = (vs.set (j + 1) x).set j y := by unfold swapL; rw [ex, ey]
    rw [this]; exact s2.1
  · rw [swapL_len] at hi
    rw [getD_swapL vNil (by omega), getD_swapL [] hj]
    have keep : ∀ {v l}, SeesI w v l → SeesI ((w.setCell ⟨g, j + 1, none⟩ x).setCell ⟨g, j, none⟩ y) v l := fun hs =>
      (SeesI.setCell hs (fun z e => ny z (Option.some.inj (hy.symm.trans e)))).setCell (fun z e => nx z (Option.some.inj (hcj.symm.trans e)))
    split
    · exact keep (h4 _ hj)
    · split
      · exact keep (h4 _ (by omega))
      · exact keep (h4 _ hi)
end Go.Proofs.Ytokdcgmjpnanoaa
/- slices.SortFunc of few lists by split.compare. -/
set_option linter.unusedVariables false
set_option linter.unusedSimpArgs false
namespace Go.Proofs.Ytokdcgmjpnanoaa
open Go.RowKit

theorem Reads.quiet_any {P : Program} {f : FuncId} {args : Array Value} {w : World} {v : Value} {n : Nat} (h : Calls P f args (w.drewN n) fun e w' => Reads v (w.drewN n) e w') : Calls P f args (w.drewN n) fun e w' => e = .returned v ∧ ∃ m, w' = w.drewN m :=
  h.mono fun e w' ⟨h1, m, h2⟩ => ⟨h1, n + m, h2.trans (World.drewN_drewN _ _ _)⟩
theorem OwnsS.drewN {base : Nat} {w : World} {v : Value} {L : List (List Int)} (h : OwnsS base w v L) (n : Nat) : OwnsS base (w.drewN n) v L := h.below (below_drewN (Below.refl _ _) n)
theorem grownBy_drewN {a w : World} {r : Option Nat} (h : a.grownBy w r) (n : Nat) : a.grownBy (w.drewN n) r := ⟨h.os, h.tape, h.output, h.size, h.block⟩
/-- What sorting tells. -/
def SortTells (base : Nat) (v : Value) (g : Nat) (L : List (List Int)) (w w' : World) : Prop := ∃ L', OwnsS base w' v L' ∧ L'.Perm L ∧ SortedL L' ∧ w.grownBy w' (some g)

set_option maxRecDepth 100000 in
set_option maxHeartbeats 4000000 in
theorem insertion_sort {base g n cap : Nat} {L : List (List Int)} {w : World} (hO : OwnsS base w (.slice (some ⟨g, 0, none⟩) n cap) L) (hn : n ≤ 4096) :
    Calls Try.prog 72 #[.slice (some ⟨g, 0, none⟩) n cap, .int .i64 0, .int .i64 n, .func (.func 21) #[] #[]] w fun e w' => e = .returned (.tuple #[]) ∧ SortTells base (.slice (some ⟨g, 0, none⟩) n cap) g L w w' := by
  have hnl := hO.block.1
  have HO := hidP hO
  have HN := hidP hnl
  have CC : Hid (∀ w1 a b f h, SeesI w1 a f → SeesI w1 b h → Calls Try.prog 21 #[a, b] w1 fun e w' => Reads (.int .i64 (cmpF f h)) w1 e w') := fun w1 a b f h h1 h2 => mod_compare h1 h2
  have HG0 : Hid (w.grownBy w (some g)) := grownBy_refl w _
  clear hO hnl
  go_enter Try.func72, Try.ntmps72
  go_wp2
  go_loopg [8, 9] n (fun gm v8 v9 wr => ∃ i : Nat, v8 = .int .i64 ((i : Int) + 1) ∧ i ≤ n ∧ Hid (n - i = gm) ∧ Hid (∃ L', OwnsS base wr (.slice (some ⟨g, 0, none⟩) n cap) L' ∧ L'.Perm L ∧ SortTo L' (i + 1) ∧ L'.length = n) ∧ Hid (w.grownBy wr (some g)))
  case atStart => exact ⟨0, by first | rfl | go_num, Nat.zero_le _, rfl, ⟨L, HO.out, .refl _, fun a b h1 h2 => by omega, HN.out.symm⟩, HG0⟩
  case round =>
    clear HO HG0
    obtain ⟨i, rfl, hi, hgm, hX, hG⟩ := hrel
    by_cases hlt : i + 1 < n
    · have h1 : (i : Int) + 1 < (n : Int) := by omega
      have hk1 : IntKind.i64.wrap ((i : Int) + 1 + 1) = (i : Int) + 1 + 1 := by rw [IntKind.wrap_i64]; omega
      have HXs : Hid (∃ L', OwnsS base wr (.slice (some ⟨g, 0, none⟩) n cap) L' ∧ L'.Perm L ∧ SortBut L' (i + 2) (i + 1) ∧ L'.length = n) := by
        obtain ⟨L', a1, a2, a3, a4⟩ := hX.out
        exact ⟨L', a1, a2, a3.but, a4⟩
      clear hX
      go_wp2
      go_loopg [9] (i + 1) (fun g2 v9 wy => ∃ j : Nat, v9 = .int .i64 j ∧ j ≤ i + 1 ∧ Hid (j = g2) ∧ Hid (∃ L', OwnsS base wy (.slice (some ⟨g, 0, none⟩) n cap) L' ∧ L'.Perm L ∧ SortBut L' (i + 2) j ∧ L'.length = n) ∧ Hid (w.grownBy wy (some g)))
      case atStart => exact ⟨i + 1, by first | rfl | go_num, Nat.le_refl _, rfl, HXs, hG⟩
      case round =>
        clear HXs hG
        obtain ⟨j, rfl, hj, hjg, hX, hG⟩ := hrel
        obtain ⟨L', a1, a2, a3, a4⟩ := hX.out
        rcases Nat.eq_zero_or_pos j with h0 | h0
        · subst h0
          have hj0 : ¬ ((0 : Nat) : Int) > 0 := by omega
          have HXn : Hid (∀ d, ∃ L', OwnsS base (wr.drewN d) (.slice (some ⟨g, 0, none⟩) n cap) L' ∧ L'.Perm L ∧ SortTo L' (i + 1 + 1) ∧ L'.length = n) := fun d => ⟨L', a1.drewN d, a2, a3.zero, a4⟩
          have HGn : Hid (∀ d, w.grownBy (wr.drewN d) (some g)) := fun d => grownBy_drewN hG.out d
          clear hX a1 a2 a3 a4
          go_wp2
          go_quiet (fail)
          go_wp2
          go_roundg (n - (i + 1))
          case rel => exact ⟨i + 1, by first | rfl | go_num, by omega, rfl, HXn.out _, HGn.out _⟩
          case measure => have := hgm.out; omega
        · obtain ⟨m, hm⟩ : ∃ m, j = m + 1 := ⟨j - 1, by omega⟩
          have hblk := a1.block
          obtain ⟨x, hx, hxs, hxl⟩ := a1.cellAt (i := m) (by omega)
          obtain ⟨y, hy, hys, hyl⟩ := a1.cellAt (i := j) (by omega)
          have hj0 : (j : Int) > 0 := by omega
          have e1 : (j : Int) - 1 = (m : Int) := by omega
          have e2 : IntKind.i64.wrap (m : Int) = (m : Int) := by rw [IntKind.wrap_i64]; omega
          have e3 : (j : Int) < (n : Int) := by omega
          have e4 : (m : Int) < (n : Int) := by omega
          have HC : Hid (∀ d, Calls Try.prog 21 #[y, x] (wr.drewN d) fun e w' => Reads (.int .i64 (cmpF (L'.getD j []) (L'.getD m []))) (wr.drewN d) e w') := fun d => CC.out _ y x _ _ hys hxs
          have z0 : 0 + m = m := Nat.zero_add m
          have z1 : 0 + j = j := Nat.zero_add j
          obtain ⟨z, hz⟩ : ∃ z, cmpF (L'.getD j []) (L'.getD m []) = z := ⟨_, rfl⟩
          have HZ := hidP hz
          rw [hz] at HC
          have HM := hidP hm
          have hd0 : decide (0 < j) = true := decide_eq_true h0
          obtain ⟨ax, nx, cx, rfl⟩ := hxl
          obtain ⟨ay, ny, cy, rfl⟩ := hyl
          by_cases hb : bef (L'.getD j []) (L'.getD m []) = true
          · have hz0 : z < 0 := by rw [← hz]; exact (cmpF_neg _ _).2 hb
            have HSw : Hid (∀ d, OwnsS base (((wr.drewN d).setCell ⟨g, j, none⟩ (.slice ax nx cx)).setCell ⟨g, m, none⟩ (.slice ay ny cy)) (.slice (some ⟨g, 0, none⟩) n cap) (swapL [] L' m) ∧ (wr.drewN d).grownBy (((wr.drewN d).setCell ⟨g, j, none⟩ (.slice ax nx cx)).setCell ⟨g, m, none⟩ (.slice ay ny cy)) (some g)) := fun d => by
              rw [hm]; rw [hm] at hy
              exact (a1.drewN d).swap (by omega) hx hy
            have HPm : Hid ((swapL [] L' m).Perm L ∧ SortBut (swapL [] L' m) (i + 2) m ∧ (swapL [] L' m).length = n) := by
              rw [hm] at a3 hb
              exact ⟨(swapL_perm [] (by omega)).trans a2, a3.swap (by omega) (by omega) hb, by rw [swapL_len]; exact a4⟩
            have hfz := hblk.2.2.2.1
            have f1 : wr.frozen? ⟨g, j, none⟩ = false := hfz j
            have f2 : wr.frozen? ⟨g, m, none⟩ = false := hfz m
            clear hX a1 a2 a3 a4 hxs hys hz hb hblk hfz hm
            go_wp2
            go_quiet ((go_at_call 21; exact Reads.quiet_any (HC.out _)))
            obtain ⟨W, hW⟩ : ∃ W, W = wr.drewN nq := ⟨_, rfl⟩
            have HW1 := hidP (HSw.out nq)
            have HGW : Hid (w.grownBy W (some g)) := by show w.grownBy W _; rw [hW]; exact grownBy_drewN hG.out nq
            have k1 : W.cell? ⟨g, m, none⟩ = some (.slice ax nx cx) := by rw [hW]; exact hx
            have k2 : W.cell? ⟨g, j, none⟩ = some (.slice ay ny cy) := by rw [hW]; exact hy
            have k3 : W.frozen? ⟨g, j, none⟩ = false := by rw [hW]; exact f1
            have k4 : W.frozen? ⟨g, m, none⟩ = false := by rw [hW]; exact f2
            rw [← hW] at HW1 ⊢
            clear hW hx hy f1 f2 HSw HC hG
            go_wp2
            go_region
            all_goals
              obtain ⟨WW, hWW⟩ : ∃ WW, WW = (W.setCell ⟨g, j, none⟩ (.slice ax nx cx)).setCell ⟨g, m, none⟩ (.slice ay ny cy) := ⟨_, rfl⟩
              rw [← hWW] at HW1 ⊢
              have HXn : Hid (∀ d, ∃ L', OwnsS base (WW.drewN d) (.slice (some ⟨g, 0, none⟩) n cap) L' ∧ L'.Perm L ∧ SortBut L' (i + 2) m ∧ L'.length = n) := fun d => ⟨_, HW1.out.1.drewN d, HPm.out.1, HPm.out.2.1, HPm.out.2.2⟩
              have HGn : Hid (∀ d, w.grownBy (WW.drewN d) (some g)) := fun d => grownBy_drewN (grownBy_trans HGW.out HW1.out.2) d
              clear hWW HW1 HGW HPm k1 k2 k3 k4
              go_wp2
              go_roundg m
              case rel => exact ⟨m, by first | rfl | go_num, by have := HM.out; omega, rfl, by first | exact HXn.out 0 | exact HXn.out 1 | exact HXn.out _, by first | exact HGn.out 0 | exact HGn.out 1 | exact HGn.out _⟩
              case measure => have := HM.out; have := hjg.out; omega
          · have hz0 : ¬ z < 0 := fun h => hb ((cmpF_neg _ _).1 (by rw [hz]; exact h))
            have HXn : Hid (∀ d, ∃ L', OwnsS base (wr.drewN d) (.slice (some ⟨g, 0, none⟩) n cap) L' ∧ L'.Perm L ∧ SortTo L' (i + 1 + 1) ∧ L'.length = n) := fun d => ⟨L', a1.drewN d, a2, by rw [hm] at a3 hb; exact a3.stop (by simpa using hb), a4⟩
            have HGn : Hid (∀ d, w.grownBy (wr.drewN d) (some g)) := fun d => grownBy_drewN hG.out d
            clear hX a1 a2 a3 a4 hxs hys hz hb hblk hm hG
            go_wp2
            go_quiet ((go_at_call 21; exact Reads.quiet_any (HC.out _)))
            go_wp2
            go_roundg (n - (i + 1))
            case rel => exact ⟨i + 1, by first | rfl | go_num, by omega, rfl, HXn.out _, HGn.out _⟩
            case measure => have := hgm.out; omega
    · have h1 : ¬ (i : Int) + 1 < (n : Int) := by omega
      have HR : Hid (SortTells base (.slice (some ⟨g, 0, none⟩) n cap) g L w wr) := by
        obtain ⟨L', a1, a2, a3, a4⟩ := hX.out
        exact ⟨L', a1, a2, SortTo.sorted (fun a b hab hb => a3 a b hab (by omega)), hG.out⟩
      clear hX hG
      go_wp2
      go_end0
      exact ⟨rfl, HR.out⟩
end Go.Proofs.Ytokdcgmjpnanoaa
/- slices.SortFunc of at most twelve lists by split.compare. -/
set_option linter.unusedVariables false
set_option linter.unusedSimpArgs false
namespace Go.Proofs.Ytokdcgmjpnanoaa
open Go.RowKit

def vCmp : Value := .func (.func 21) #[] #[]
def Sorts (base : Nat) (v : Value) (L : List (List Int)) (w : World) (e : Ending) (w' : World) : Prop := e = .returned (.tuple #[]) ∧ ∃ L', OwnsS base w' v L' ∧ L'.Perm L ∧ SortedL L' ∧ w.grownBy w' v.ownBlock
set_option maxRecDepth 100000 in
theorem insertion_none {ao : Option Addr} {cap : Nat} {fv : Value} {w : World} :
    Calls Try.prog 72 #[.slice ao 0 cap, .int .i64 0, .int .i64 0, fv] w fun e w' => e = .returned (.tuple #[]) ∧ w = w' := by
  go_enter Try.func72, Try.ntmps72
  go_wp2
  refine wp_loop_rounds 1 ?_
  rw [rounds_succ]
  go_wp2
  go_end0
  exact ⟨rfl, rfl⟩
theorem insertion_any {base : Nat} {v : Value} {L : List (List Int)} {w : World} (hO : OwnsS base w v L) (hn : L.length ≤ 12) :
    ∃ ao cap, v = .slice ao L.length cap ∧ Calls Try.prog 72 #[v, .int .i64 0, .int .i64 L.length, vCmp] w fun e w' => Sorts base v L w e w' := by
  by_cases hL : L = []
  · subst hL
    obtain ⟨ao, cap, rfl, -⟩ := (hO.owns.sees (by simp)).form
    refine ⟨ao, cap, rfl, insertion_none.mono ?_⟩
    rintro e w' ⟨he, rfl⟩
    exact ⟨he, [], hO, .refl _, List.Pairwise.nil, grownBy_refl _ _⟩
  · obtain ⟨g, c, rfl⟩ := hO.isRow hL
    refine ⟨_, c, rfl, (insertion_sort hO (by omega)).mono ?_⟩
    rintro e w' ⟨he, L', a1, a2, a3, a4⟩
    exact ⟨he, L', a1, a2, a3, a4⟩
set_option maxRecDepth 100000 in
theorem pdq_small {base : Nat} {v : Value} {L : List (List Int)} {w : World} {lim : Int} (hO : OwnsS base w v L) (hn : L.length ≤ 12) :
    Calls Try.prog 40 #[v, .int .i64 0, .int .i64 L.length, .int .i64 lim, vCmp] w fun e w' => Sorts base v L w e w' := by
  obtain ⟨ao, cap, rfl, C⟩ := insertion_any hO hn
  have CI := hidP C
  obtain ⟨n, hN⟩ : ∃ n, L.length = n := ⟨_, rfl⟩
  rw [hN] at CI hn
  rw [hN]
  have h1 : (n : Int) ≤ 12 := by omega
  have h2 : IntKind.i64.wrap (n : Int) = (n : Int) := by rw [IntKind.wrap_i64]; omega
  clear hO C hN
  unfold vCmp at CI
  unfold vCmp
  go_enter Try.func40, Try.ntmps40
  go_wp2
  refine wp_loop_rounds 1 ?_
  rw [rounds_succ]
  go_wp2_with fail
  refine CI.out.mono ?_
  rintro e w1 ⟨rfl, L', a1, a2, a3, a4⟩
  have HR : Hid (∃ L', OwnsS base w1 (.slice ao n cap) L' ∧ L'.Perm L ∧ SortedL L' ∧ w.grownBy w1 (Value.slice ao n cap).ownBlock) := ⟨L', a1, a2, a3, a4⟩
  clear a1 a2 a3 a4
  go_wp2_with fail
  go_end0
  exact ⟨rfl, HR.out⟩
set_option maxRecDepth 100000 in
theorem sort_small {base : Nat} {v : Value} {L : List (List Int)} {w : World} (hO : OwnsS base w v L) (hn : L.length ≤ 12) :
    Calls Try.prog 20 #[v, vCmp] w fun e w' => Sorts base v L w e w' := by
  obtain ⟨ao, cap, rfl, -⟩ := insertion_any hO hn
  have CP := hidP fun lim => pdq_small (lim := lim) hO hn
  have CB := hidP fun w => bits_Len hn w
  obtain ⟨n, hN⟩ : ∃ n, L.length = n := ⟨_, rfl⟩
  rw [hN] at CP CB hn
  rw [hN]
  have h2 : IntKind.u64.wrap (n : Int) = (n : Int) := by rw [IntKind.wrap_u64]; omega
  clear hO hN
  unfold vCmp at CP
  unfold vCmp
  go_enter Try.func20, Try.ntmps20
  go_wp2_with fail
  refine (CB.out _).mono ?_
  rintro e w1 ⟨⟨lim, rfl⟩, rfl⟩
  go_wp2_with fail
  refine (CP.out lim).mono ?_
  rintro e w1 ⟨rfl, L', a1, a2, a3, a4⟩
  have HR : Hid (∃ L', OwnsS base w1 (.slice ao n cap) L' ∧ L'.Perm L ∧ SortedL L' ∧ w.grownBy w1 (Value.slice ao n cap).ownBlock) := ⟨L', a1, a2, a3, a4⟩
  clear a1 a2 a3 a4
  go_wp2_with fail
  go_end0
  exact ⟨rfl, HR.out⟩
end Go.Proofs.Ytokdcgmjpnanoaa
/- The document's Same of two lists of polynomials. -/
set_option linter.unusedVariables false
set_option linter.unusedSimpArgs false
namespace Go.Proofs.Ytokdcgmjpnanoaa
open Go.RowKit

theorem lists_eq {L M : List (List Int)} (hl : L.length = M.length) (h : ∀ i, i < L.length → L.getD i [] = M.getD i []) : L = M := by
  apply List.ext_getElem?
  intro i
  by_cases hi : i < L.length
  · have := h i hi
    rw [List.getD_eq_getElem?_getD, List.getD_eq_getElem?_getD, List.getElem?_eq_getElem hi, List.getElem?_eq_getElem (by omega)] at this
    rw [List.getElem?_eq_getElem hi, List.getElem?_eq_getElem (by omega)]
    simpa using this
  · rw [List.getElem?_eq_none (by omega), List.getElem?_eq_none (by omega)]

theorem Reads.quiet_more {P : Program} {f : FuncId} {args : Array Value} {w : World} {v : Value} {d n : Nat} (h : Calls P f args (w.drewN (d + n)) fun e w' => Reads v (w.drewN (d + n)) e w') : Calls P f args (w.drewN (d + n)) fun e w' => e = .returned v ∧ ∃ m, w' = w.drewN (d + m) :=
  h.mono fun e w' ⟨h1, m, h2⟩ => ⟨h1, n + m, by rw [h2, World.drewN_drewN, Nat.add_assoc]⟩
set_option maxRecDepth 100000 in
set_option maxHeartbeats 2000000 in
theorem ref_SameL {a b : Value} {L M : List (List Int)} {w : World} (ha : SeesL w a L) (hb : SeesL w b M) :
    Calls Try.prog 10 #[a, b] w fun e w' => Reads (.bool (decide (L = M))) w e w' := by
  have hlen := ha.len
  have hlen2 := hb.len
  have HA := hidP ha
  have HB := hidP hb
  obtain ⟨A, ca, rfl, hcap⟩ := SeesL.form ha
  obtain ⟨B, cb, rfl, hcap2⟩ := SeesL.form hb
  clear ha hb
  by_cases hl : L.length = M.length
  · obtain ⟨n, hn⟩ : ∃ n, M.length = n := ⟨_, rfl⟩
    have HL := hidP hl
    have HN := hidP hn
    rw [hn] at hl hlen2 hcap2 HB ⊢
    rw [hl] at hlen hcap HA ⊢
    have HLn := hidP hl
    clear hl hn
    go_enter Try.func10, Try.ntmps10
    go_wp2
    go_loopw [5] (fun v wr => ∃ k d : Nat, k ≤ n ∧ v = .int .i64 k ∧ wr = w.drewN d ∧ Hid (∀ i, i < k → L.getD i [] = M.getD i [])) (fun v _ => n - (intOf v).toNat)
    case atStart => exact ⟨0, 0, Nat.zero_le _, rfl, rfl, fun i hi => absurd hi (by omega)⟩
    case round =>
      obtain ⟨k, d, hk, rfl, rfl, hz⟩ := hrel
      by_cases hlt : k < n
      · obtain ⟨b1, o1, x, rfl, hc1, hx⟩ := HA.out.at (i := k) (by have := HLn.out; omega)
        obtain ⟨b2, o2, y, rfl, hc2, hy⟩ := HB.out.at (i := k) (by have := HN.out; omega)
        have HZ : Hid (L.getD k [] = M.getD k [] → ∀ i, i < k + 1 → L.getD i [] = M.getD i []) := fun h i hi => by
          by_cases e : i = k
          · subst e; exact h
          · exact hz.out i (by omega)
        have HNE : Hid (L.getD k [] ≠ M.getD k [] → L ≠ M) := fun h e => h (by rw [e])
        have HC : Hid (∀ nq, Calls Try.prog 25 #[x, y] (w.drewN (d + nq)) fun e w' => Reads (.bool (decide (L.getD k [] = M.getD k []))) (w.drewN (d + nq)) e w') := fun nq => ref_Same (SeesI.below hx (below_drewN (Below.refl _ _) _)) (SeesI.below hy (below_drewN (Below.refl _ _) _))
        obtain ⟨ax, cx, rfl, hcx⟩ := SeesF.form hx
        obtain ⟨ay, cy, rfl, hcy⟩ := SeesF.form hy
        obtain ⟨lx, hlx⟩ : ∃ lx, (L.getD k []).length = lx := ⟨_, rfl⟩
        obtain ⟨ly, hly⟩ : ∃ ly, (M.getD k []).length = ly := ⟨_, rfl⟩
        rw [hlx] at hc1 HC
        rw [hly] at hc2 HC
        clear hz hx hy hcx hcy hlx hly
        by_cases he : L.getD k [] = M.getD k []
        · have HZ2 := hidP (HZ.out he)
          rw [decide_eq_true he] at HC
          clear HZ HNE he
          go_wp2
          go_quiet ((go_at_call 25; exact Reads.quiet_more (HC.out _)))
          go_wp2
          go_roundw
          case rel => exact ⟨k + 1, d + nq, by omega, by go_num, by first | rfl | exact World.drewN_drewN _ _ _, HZ2⟩
          case measure => simp [intOf]; omega
        · have HN2 := hidP (HNE.out he)
          rw [decide_eq_false he] at HC
          clear HZ HNE he
          go_wp2
          go_quiet ((go_at_call 25; exact Reads.quiet_more (HC.out _)))
          go_wp2
          go_ret
          exact ⟨ret_bool (by rw [decide_eq_false HN2.out]), ⟨_, World.drewN_drewN _ _ _⟩⟩
      · have HE := hidP (lists_eq HL.out (fun i hi => hz.out i (by have := HLn.out; omega)))
        clear hz
        go_wp2
        go_ret
        exact ⟨ret_bool (by rw [decide_eq_true HE.out]), ⟨_, rfl⟩⟩
  · have HN : Hid (L ≠ M) := fun e => hl (by rw [e])
    have hl2 : ((L.length : Int) != (M.length : Int)) = true := by simp; omega
    clear HA HB
    go_enter Try.func10, Try.ntmps10
    go_wp2
    go_ret
    exact ⟨ret_bool (by rw [decide_eq_false HN.out]), ⟨0, rfl⟩⟩
theorem same_listsL {a b : Value} {L M : List (List Int)} {w : World} (ha : SeesL w a L) (hb : SeesL w b M) {r : Bool} (hr : decide (L = M) = r) :
    Calls Try.prog 10 #[a, b] w fun e w' => e = .returned (.bool r) ∧ Below w.heap.size w w' := by
  refine (ref_SameL ha hb).mono ?_
  rintro e w' ⟨he, d, rfl⟩
  exact ⟨by rw [he, hr], below_drewN (Below.refl _ _) _⟩
end Go.Proofs.Ytokdcgmjpnanoaa
