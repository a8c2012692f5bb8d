/- Slices of slices that grow: no list in them is touched. -/
import Derived.Test.YtokdcgmjpnanoaaSqM
import Derived.Test.YtokdcgmjpnanoaaSqE

set_option linter.unusedVariables false
set_option linter.unusedSimpArgs false
namespace Go.Proofs.Ytokdcgmjpnanoaa
open Go.RowKit

/-- Nothing in v's block is an int. -/
def AllSl (w : World) (v : Value) : Prop := ∀ g, v.ownBlock = some g → ∀ i x, w.cell? ⟨g, i, none⟩ = some x → notInt x
def isSl (v : Value) : Prop := ∃ a n c, v = .slice a n c
theorem isSl.notInt {v : Value} (h : isSl v) : notInt v := by obtain ⟨a, n, c, rfl⟩ := h; exact notInt_slice a n c
theorem isSl.one {v : Value} (h : isSl v) : v.oneCell' = true := by obtain ⟨a, n, c, rfl⟩ := h; rfl
theorem zeroCells_notInt (k i : Nat) (x : Value) (h : (Builtin.zeroCells #[.slice none 0 0] k)[i]? = some x) : notInt x := by
  unfold Builtin.zeroCells at h
  rw [Array.getElem?_map] at h
  obtain ⟨j, hj, he⟩ := Option.map_eq_some_iff.1 h
  rw [← he, show (#[Value.slice none 0 0] : Array Value).size = 1 from rfl, Nat.mod_one]
  exact notInt_slice _ _ _
theorem cells_alloc {w : World} {cs : Array Value} {t : TypeId} {i : Nat} {x : Value} (h : (w.drew.alloc (.cells cs t)).cell? ⟨w.heap.size, i, none⟩ = some x) : cs[i]? = some x := by
  have h2 : w.drew.heap.size = w.heap.size := rfl
  rw [World.cell?_alloc_at _ _ _ _ (by first | exact h2.symm | exact h2 | rfl)] at h
  exact h
theorem append_notInt {a b : Array Value} (ha : ∀ (i : Nat) (x : Value), a[i]? = some x → notInt x) (hb : ∀ (i : Nat) (x : Value), b[i]? = some x → notInt x) (i : Nat) (x : Value) (h : (a ++ b)[i]? = some x) : notInt x := by
  rw [Array.getElem?_append] at h
  split at h
  · exact ha _ _ h
  · exact hb _ _ h
theorem list_notInt {l : List Value} (h : ∀ u ∈ l, isSl u) (i : Nat) (x : Value) (hx : l.toArray[i]? = some x) : notInt x := by
  rw [List.getElem?_toArray] at hx
  exact (h x (List.mem_of_getElem? hx)).notInt
/-- append of slices to a row of slices of the call's own. -/
theorem run_append_sl {P : Program} (w : World) (base : Nat) (t ty e : TypeId) (i : TypeInfo) (bytes : Nat) (ht : P.underlying t = some (.slice e)) (hi : P.info? e = some i) (hz : i.zero = some (.slice none 0 0))
    (hsize : i.size = 1) (hby : i.bytes = bytes) (v : Value) (n : Nat) (xs : List Value) (hown : w.ownsRow base e 1 v n xs) (hxs : ∀ u ∈ xs, isSl u) (hall : AllSl w v)
    (a : Addr) (m c : Nat) (news : List Value) (hl : news.length = m) (hnews : ∀ j u, news[j]? = some u → w.cell? (a.add j) = some u) (h1 : ∀ u ∈ news, isSl u)
    (h63 : n + m ≤ maxLen) (hbytes : (n + m) * bytes ≤ 140737488355328) (hbase : base ≤ w.heap.size) :
    ∃ v' w', (Builtin.append_ #[t, t] ty #[v, .slice (some a) m c]).run P w = .ok v' w' ∧ w'.ownsRow base e 1 v' (n + m) (xs ++ news) ∧ w.grownBy w' v.ownBlock ∧ AllSl w' v' ∧ (v'.ownBlock = v.ownBlock ∨ ∃ g, v'.ownBlock = some g ∧ w.heap.size ≤ g) := by
  have hl1 : news.length = m * 1 := by omega
  obtain ⟨v', w', hr, r1, r2, r3⟩ := run_append_own (P := P) w base t ty e i (.slice none 0 0) 1 bytes ht hi hz hsize hby rfl (by decide) v n xs hown a m c news hl1 hnews (fun u hu => (h1 u hu).one) h63 hbytes hbase
  refine ⟨v', w', hr, r1, r2, ?_⟩
  have hsmall : n + m ≤ 9223372036854775807 := by simp only [maxLen] at h63; omega
  subst hby
  have fin : ∀ {u : Value} {wu : World}, (Builtin.append_ #[t, t] ty #[v, .slice (some a) m c]).run P w = .ok u wu → AllSl wu u ∧ (u.ownBlock = v.ownBlock ∨ ∃ g, u.ownBlock = some g ∧ w.heap.size ≤ g) → AllSl w' v' ∧ (v'.ownBlock = v.ownBlock ∨ ∃ g, v'.ownBlock = some g ∧ w.heap.size ≤ g) := fun {u wu} h k => by
    rw [hr] at h
    cases h; exact k
  rcases hown.2 with ⟨rfl, rfl⟩ | ⟨g, cap, cur, rfl, hbg, hg, hnc, hcm, hcs, htake⟩
  · by_cases hm : m = 0
    · have : v' = .slice none 0 0 := r3.2 ⟨rfl, hm⟩
      subst this
      exact ⟨(by intro g hg; cases hg), Or.inl rfl⟩
    · refine fin (run_append_nil (P := P) w t ty e i (.slice none 0 0) ht hi hz a m c news (by rw [hsize]; exact hl1) hnews (by omega) (by omega) (by simp only [Nat.zero_add] at hbytes; omega)) ⟨?_, Or.inr ⟨_, rfl, Nat.le_refl _⟩⟩
      intro g hg
      simp only [Value.ownBlock, Option.some.injEq] at hg
      subst hg
      intro i x hx
      exact append_notInt (list_notInt h1) (fun i x h => zeroCells_notInt _ i x h) i x (cells_alloc hx)
  · have hcur : ∀ i x, cur[i]? = some x → notInt x := fun i x h => hall g rfl i x (by simp only [World.cell?, hg]; exact h)
    by_cases hroom : n + m ≤ cap
    · refine fin (run_append_room (P := P) w t ty e i ht hi g n cap cur hg a m c news (by rw [hsize]; exact hl1) hnews (fun u hu => (h1 u hu).one) hroom (by rw [hsize]; omega)) ⟨?_, Or.inl rfl⟩
      intro g' hg'
      simp only [Value.ownBlock, Option.some.injEq] at hg'
      subst hg'
      intro i x hx
      simp only [World.cell?, setRow_heap w g cur _ e _ hg] at hx
      rw [List.getElem?_toArray] at hx
      have hm := List.mem_of_getElem? hx
      simp only [List.mem_append] at hm
      rcases hm with (hm | hm) | hm
      · obtain ⟨j, hj, he⟩ := List.mem_iff_getElem.1 (List.mem_of_mem_take hm)
        exact hcur j x (by rw [← Array.getElem?_toList, List.getElem?_eq_getElem hj, he])
      · exact (h1 x hm).notInt
      · obtain ⟨j, hj, he⟩ := List.mem_iff_getElem.1 (List.mem_of_mem_drop hm)
        exact hcur j x (by rw [← Array.getElem?_toList, List.getElem?_eq_getElem hj, he])
    · refine fin (run_append_grow (P := P) w t ty e i (.slice none 0 0) ht hi hz ⟨g, 0, none⟩ n cap xs (by rw [hsize]; exact hown.1) (hown.cells (g := g) rfl) a m c news (by rw [hsize]; exact hl1) hnews (by omega) (by omega) (growslice_fits (by omega) hbytes)) ⟨?_, Or.inr ⟨_, rfl, Nat.le_refl _⟩⟩
      intro g' hg'
      simp only [Value.ownBlock, Option.some.injEq] at hg'
      subst hg'
      intro i x hx
      exact append_notInt (append_notInt (list_notInt hxs) (list_notInt h1)) (fun i x h => zeroCells_notInt _ i x h) i x (cells_alloc hx)
theorem SeesI.grownSl {w w' : World} {v row : Value} {l : List Int} (h : SeesI w v l) (hall : AllSl w row) (hg : w.grownBy w' row.ownBlock) : SeesI w' v l := by
  obtain ⟨ao, cap, h1, h2, h3, h4, h5⟩ := h
  refine ⟨ao, cap, h1, h2, h3, h4, fun hp => ?_⟩
  obtain ⟨b, o, ha, hc⟩ := h5 hp
  refine ⟨b, o, ha, fun i hi => ?_⟩
  exact hg.cell (hc i hi) (fun e => by
    have := hall b e.symm (o + i) _ (hc i hi)
    exact this _ rfl)
/-- v is a slice of the lists L, in a block of the call's own that holds slices alone. -/
def OwnsS (base : Nat) (w : World) (v : Value) (L : List (List Int)) : Prop :=
  ∃ vs : List Value, vs.length = L.length ∧ w.ownsRow base 22 1 v L.length vs ∧ AllSl w v ∧ ∀ i, i < L.length → SeesI w (vs.getD i vNil) (L.getD i [])
theorem OwnsS.nil (base : Nat) (w : World) : OwnsS base w vNil [] := ⟨[], rfl, World.ownsRow_nil _ _ _ _, (by intro g h; cases h), fun i h => absurd h (by simp)⟩
theorem OwnsS.owns {base : Nat} {w : World} {v : Value} {L : List (List Int)} (h : OwnsS base w v L) : OwnsL base w v L := by
  obtain ⟨vs, h1, h2, h3, h4⟩ := h; exact ⟨vs, h1, h2, h4⟩
theorem AllSl.below {base n : Nat} {t : TypeId} {w w' : World} {v : Value} {xs : List Value} (h : AllSl w v) (hown : w.ownsRow base t 1 v n xs) (hb : Below w.heap.size w w') : AllSl w' v := fun g hg i x hx => by
  have := (hown.lt g hg).2
  exact h g hg i x ((hb.cell (p := ⟨g, i, none⟩) this).symm.trans hx)
theorem OwnsS.below {base : Nat} {w w' : World} {v : Value} {L : List (List Int)} (h : OwnsS base w v L) (hb : Below w.heap.size w w') : OwnsS base w' v L := by
  obtain ⟨vs, h1, h2, h3, h4⟩ := h
  exact ⟨vs, h1, ownsV_kept h2 hb, h3.below h2 hb, fun i hi => SeesI.below (h4 i hi) hb⟩
theorem seesSl {w : World} {vs : List Value} {L : List (List Int)} (h1 : vs.length = L.length) (h : ∀ i, i < L.length → SeesI w (vs.getD i vNil) (L.getD i [])) : ∀ u ∈ vs, isSl u := fun u hu => by
  obtain ⟨i, hi, rfl⟩ := List.mem_iff_getElem.1 hu
  obtain ⟨a, c, e, -⟩ := SeesF.form (h i (by omega))
  rw [List.getD_eq_getElem?_getD, List.getElem?_eq_getElem hi] at e
  exact ⟨a, _, c, e⟩
theorem getD_appV (xs ys : List Value) (i : Nat) : (xs ++ ys).getD i vNil = if i < xs.length then xs.getD i vNil else ys.getD (i - xs.length) vNil := by
  rw [List.getD_eq_getElem?_getD, List.getElem?_append]
  split <;> rw [List.getD_eq_getElem?_getD]
theorem getD_appL (xs ys : List (List Int)) (i : Nat) : (xs ++ ys).getD i [] = if i < xs.length then xs.getD i [] else ys.getD (i - xs.length) [] := by
  rw [List.getD_eq_getElem?_getD, List.getElem?_append]
  split <;> rw [List.getD_eq_getElem?_getD]
/-- .. with lists appended. -/
theorem OwnsS.app {base : Nat} {w w' : World} {v v' : Value} {vs ys : List Value} {L M : List (List Int)} (h1 : vs.length = L.length) (h3 : AllSl w v) (h4 : ∀ i, i < L.length → SeesI w (vs.getD i vNil) (L.getD i []))
    (m1 : ys.length = M.length) (m4 : ∀ i, i < M.length → SeesI w (ys.getD i vNil) (M.getD i [])) (ho : w'.ownsRow base 22 1 v' (L.length + M.length) (vs ++ ys)) (hg : w.grownBy w' v.ownBlock) (ha : AllSl w' v') : OwnsS base w' v' (L ++ M) := by
  refine ⟨vs ++ ys, by rw [List.length_append, List.length_append, h1, m1], by rw [List.length_append]; exact ho, ha, fun i hi => ?_⟩
  rw [List.length_append] at hi
  rw [getD_appV, getD_appL, h1]
  split
  · rename_i hlt; exact (h4 i hlt).grownSl h3 hg
  · exact (m4 _ (by omega)).grownSl h3 hg
end Go.Proofs.Ytokdcgmjpnanoaa
