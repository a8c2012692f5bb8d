/- Rows of numbers in memory, each in a block of its own; the rows of a polynomial: mathematics. -/
import Derived.Test.YtokdcgmjpnanoaaSuB

set_option linter.unusedVariables false
set_option linter.unusedSimpArgs false
namespace Go.Proofs.Ytokdcgmjpnanoaa
open Go.RowKit

theorem heap_set_ne {w : World} {g g' i : Nat} {x : Value} (h : g ≠ g') : (w.setCell ⟨g, i, none⟩ x).heap[g']? = w.heap[g']? := by
  simp only [World.setCell, Array.getElem?_modify, if_neg h]
theorem cell_of_heap {w w' : World} {g : Nat} (h : w'.heap[g]? = w.heap[g]?) (i : Nat) : w'.cell? ⟨g, i, none⟩ = w.cell? ⟨g, i, none⟩ := by
  simp only [World.cell?, h]
theorem heap_size_set (w : World) (p : Addr) (x : Value) : (w.setCell p x).heap.size = w.heap.size := by simp [World.setCell]

/-- v is a slice of r rows; row j is a slice of n numbers, m j, at the head of block G j. -/
structure MatS (base : Nat) (w : World) (v : Value) (r n : Nat) (G : Nat → Nat) (m : Nat → Nat → Int) : Prop where
  own : w.ownsRow base 22 1 v r ((List.range r).map fun j => Value.slice (some ⟨G j, 0, none⟩) n n)
  all : AllSl w v
  row : ∀ j, j < r → ∃ l, RowW w (G j) l ∧ l.length = n ∧ ∀ k, k < n → l.getD k 0 = m j k
  ge : ∀ j, j < r → base ≤ G j
  ne : ∀ j, j < r → v.ownBlock ≠ some (G j)
  inj : ∀ i j, i < r → j < r → G i = G j → i = j
namespace MatS
variable {base : Nat} {w w' : World} {v : Value} {r n : Nat} {G : Nat → Nat} {m : Nat → Nat → Int}
theorem nil (base : Nat) (w : World) (n : Nat) (G : Nat → Nat) (m : Nat → Nat → Int) : MatS base w vNil 0 n G m :=
  ⟨World.ownsRow_nil _ _ _ _, (by intro g h; cases h), fun j h => by omega, fun j h => by omega, fun j h => by omega, fun i j h => by omega⟩
theorem congr {m' : Nat → Nat → Int} (h : MatS base w v r n G m) (e : ∀ j k, j < r → k < n → m' j k = m j k) : MatS base w v r n G m' :=
  ⟨h.own, h.all, fun j hj => by obtain ⟨l, h1, h2, h3⟩ := h.row j hj; exact ⟨l, h1, h2, fun k hk => by rw [h3 k hk, e j k hj hk]⟩, h.ge, h.ne, h.inj⟩
/-- In a world where its blocks are the same. -/
theorem blocks (h : MatS base w v r n G m) (hv : ∀ g, v.ownBlock = some g → w'.heap[g]? = w.heap[g]?) (hG : ∀ j, j < r → w'.heap[G j]? = w.heap[G j]?) : MatS base w' v r n G m :=
  ⟨ownsRow_block h.own hv, fun g hg i x hx => h.all g hg i x (by rw [← cell_of_heap (hv g hg)]; exact hx), fun j hj => by
    obtain ⟨l, h1, h2, h3⟩ := h.row j hj; exact ⟨l, h1.of_block (hG j hj), h2, h3⟩, h.ge, h.ne, h.inj⟩
theorem lt (h : MatS base w v r n G m) {j : Nat} (hj : j < r) : G j < w.heap.size := by obtain ⟨l, h1, -⟩ := h.row j hj; exact h1.lt
theorem below (h : MatS base w v r n G m) (hb : Below w.heap.size w w') : MatS base w' v r n G m :=
  h.blocks (fun g hg => hb.block g (h.own.lt g hg).2) (fun j hj => hb.block _ (h.lt hj))
theorem below' (h : MatS base w v r n G m) {B : Nat} (hb : Below B w w') (hB : w.heap.size ≤ B) : MatS base w' v r n G m := h.below (hb.mono hB)
/-- A store elsewhere. -/
theorem other (h : MatS base w v r n G m) {g i : Nat} (x : Value) (hv : v.ownBlock ≠ some g) (hG : ∀ j, j < r → G j ≠ g) : MatS base (w.setCell ⟨g, i, none⟩ x) v r n G m :=
  h.blocks (fun g' hg' => heap_set_ne (fun e => hv (by rw [e]; exact hg'))) (fun j hj => heap_set_ne (fun e => hG j hj e.symm))
/-- A number stored. -/
theorem set (h : MatS base w v r n G m) {i k : Nat} (hi : i < r) (hk : k < n) (x : Int) : MatS base (w.setCell ⟨G i, k, none⟩ (.int .i64 x)) v r n G (fun j l => if j = i ∧ l = k then x else m j l) := by
  have hv : ∀ g, v.ownBlock = some g → (w.setCell ⟨G i, k, none⟩ (.int .i64 x)).heap[g]? = w.heap[g]? := fun g hg => heap_set_ne (fun e => h.ne i hi (by rw [hg, e]))
  refine ⟨ownsRow_block h.own hv, fun g hg j y hy => h.all g hg j y (by rw [← cell_of_heap (hv g hg)]; exact hy), fun j hj => ?_, h.ge, h.ne, h.inj⟩
  obtain ⟨l, h1, h2, h3⟩ := h.row j hj
  by_cases e : j = i
  · subst e
    refine ⟨l.set k x, h1.set (by omega) x, by simpa using h2, fun k' hk' => ?_⟩
    rw [getD_setG, h2]
    by_cases e2 : k = k'
    · subst e2; rw [if_pos ⟨rfl, hk⟩, if_pos ⟨rfl, rfl⟩]
    · rw [if_neg (fun z => e2 z.1), if_neg (fun z => e2 z.2.symm)]; exact h3 k' hk'
  · refine ⟨l, h1.of_block (heap_set_ne (fun z => e (h.inj j i hj hi z.symm))), h2, fun k' hk' => ?_⟩
    rw [if_neg (fun z => e z.1)]; exact h3 k' hk'
theorem isRow (h : MatS base w v r n G m) (hr : 0 < r) : ∃ g c, v = .slice (some ⟨g, 0, none⟩) r c ∧ r ≤ c := by
  have hl := h.own.1
  rcases h.own.2 with ⟨rfl, h0⟩ | ⟨g, cap, cur, rfl, hg, hh, hc, -⟩
  · omega
  · exact ⟨g, cap, rfl, hc⟩
theorem top {g c : Nat} (h : MatS base w (.slice (some ⟨g, 0, none⟩) r c) r n G m) {i : Nat} (hi : i < r) : w.cell? ⟨g, i, none⟩ = some (.slice (some ⟨G i, 0, none⟩) n n) := by
  have := h.own.cells (g := g) rfl i (.slice (some ⟨G i, 0, none⟩) n n) (by rw [List.getElem?_map, List.getElem?_range (by omega)]; rfl)
  have ha : (⟨g, 0, none⟩ : Addr).add i = ⟨g, i, none⟩ := by unfold Addr.add; simp; intro h; exact h.symm
  rwa [ha] at this
theorem cell (h : MatS base w v r n G m) {i k : Nat} (hi : i < r) (hk : k < n) : w.cell? ⟨G i, k, none⟩ = some (.int .i64 (m i k)) := by
  obtain ⟨l, h1, h2, h3⟩ := h.row i hi
  rw [h1.cell (by omega), h3 k hk]
theorem frozen (h : MatS base w v r n G m) {i : Nat} (hi : i < r) (k : Nat) : w.frozen? ⟨G i, k, none⟩ = false := by
  obtain ⟨l, h1, -⟩ := h.row i hi; exact h1.frozen k
theorem sees (h : MatS base w v r n G m) {i : Nat} (hi : i < r) (hn : n ≤ 70368744177664) : ∃ l, SeesI w (.slice (some ⟨G i, 0, none⟩) n n) l ∧ l.length = n ∧ ∀ k, k < n → l.getD k 0 = m i k := by
  obtain ⟨l, h1, h2, h3⟩ := h.row i hi
  refine ⟨l, ⟨_, n, by rw [h2], by omega, by omega, (fun e => by cases e), fun hp => ⟨_, 0, rfl, fun j hj => ?_⟩⟩, h2, h3⟩
  rw [Nat.zero_add]; exact h1.cell hj
theorem drewN (h : MatS base w v r n G m) (d : Nat) : MatS base (w.drewN d) v r n G m := h.below (below_drewN (Below.refl _ _) d)
theorem slices (h : MatS base w v r n G m) : ∀ u ∈ (List.range r).map fun j => Value.slice (some ⟨G j, 0, none⟩) n n, isSl u := fun u hu => by
  obtain ⟨j, -, rfl⟩ := List.mem_map.1 hu; exact ⟨_, _, _, rfl⟩
/-- One row more. -/
theorem push {W w2 : World} {v' : Value} {gN : Nat} {l : List Int} {G' : Nat → Nat} {m' : Nat → Nat → Int} (h : MatS base W v r n G m) (hR : RowW W gN l) (hl : l.length = n) (hge : base ≤ gN) (hne : v.ownBlock ≠ some gN) (hG : ∀ j, j < r → G j ≠ gN)
    (ho : w2.ownsRow base 22 1 v' (r + 1) (((List.range r).map fun j => Value.slice (some ⟨G j, 0, none⟩) n n) ++ [.slice (some ⟨gN, 0, none⟩) n n])) (hg : W.grownBy w2 v.ownBlock) (ha : AllSl w2 v') (hb : v'.ownBlock = v.ownBlock ∨ ∃ g, v'.ownBlock = some g ∧ W.heap.size ≤ g)
    (eG : ∀ j, j < r → G' j = G j) (eN : G' r = gN) (em : ∀ j k, j < r → m' j k = m j k) (eM : ∀ k, k < n → m' r k = l.getD k 0) : MatS base w2 v' (r + 1) n G' m' := by
  have hlt : ∀ j, j < r + 1 → G' j < W.heap.size := fun j hj => by
    by_cases e : j = r
    · subst e; rw [eN]; exact hR.lt
    · rw [eG j (by omega)]; exact h.lt (by omega)
  have hnv : ∀ j, j < r + 1 → v.ownBlock ≠ some (G' j) := fun j hj => by
    by_cases e : j = r
    · subst e; rw [eN]; exact hne
    · rw [eG j (by omega)]; exact h.ne j (by omega)
  refine ⟨?_, ha, fun j hj => ?_, fun j hj => ?_, fun j hj => ?_, fun i j hi hj e => ?_⟩
  · have : (List.range (r + 1)).map (fun j => Value.slice (some ⟨G' j, 0, none⟩) n n) = ((List.range r).map fun j => Value.slice (some ⟨G j, 0, none⟩) n n) ++ [.slice (some ⟨gN, 0, none⟩) n n] := by
      rw [List.range_succ, List.map_append, List.map_cons, List.map_nil, eN]
      congr 1
      exact List.map_congr_left fun j hj => by rw [eG j (List.mem_range.1 hj)]
    rw [this]; exact ho
  · by_cases e : j = r
    · subst e
      rw [eN]
      exact ⟨l, hR.grown hg (fun z => hne z.symm), hl, fun k hk => (eM k hk).symm⟩
    · obtain ⟨l', h1, h2, h3⟩ := h.row j (by omega)
      rw [eG j (by omega)]
      exact ⟨l', h1.grown hg (fun z => h.ne j (by omega) z.symm), h2, fun k hk => by rw [h3 k hk, em j k (by omega)]⟩
  · by_cases e : j = r
    · subst e; rw [eN]; exact hge
    · rw [eG j (by omega)]; exact h.ge j (by omega)
  · rcases hb with e | ⟨g, e, hge2⟩
    · rw [e]; exact hnv j hj
    · rw [e]; intro z; have := hlt j hj; cases z; omega
  · by_cases ei : i = r
    · by_cases ej : j = r
      · omega
      · subst ei; rw [eN, eG j (by omega)] at e; exact absurd e.symm (hG j (by omega))
    · by_cases ej : j = r
      · subst ej; rw [eN, eG i (by omega)] at e; exact absurd e (hG i (by omega))
      · rw [eG i (by omega), eG j (by omega)] at e; exact h.inj i j (by omega) (by omega) e
end MatS

/-! ### The rows of a polynomial -/
structure RowIs (q : Nat) (f : List Int) (i n : Nat) (F : Nat → Int) : Prop where
  eq : ∀ l : List Int, l.length = n → (∀ k, k < n → l.getD k 0 = F k) → M q f (padd (ppow pX (q * i)) (psc (-1) (ppow pX i))) l
  rng : ∀ k, k < n → 0 ≤ F k ∧ F k < (q : Int)
  zero : i = 0 → ∀ k, k < n → F k = 0
/-- What x to the power of q i leaves, by f. -/
structure XIs (q : Nat) (f : List Int) (i n : Nat) (X : List Int) : Prop where
  eq : M q f (ppow pX (q * i)) X
  pl : Plain q X
  len : X.length ≤ n
  one : i = 0 → X = [1]
theorem XIs.start {q : Nat} (hq : IsP q) {f : List Int} {n : Nat} (hn : 1 ≤ n) : XIs q f 0 n [1] :=
  ⟨M.of_ev fun x => by rw [Nat.mul_zero]; simp [ppow, ev], (Mo.one hq).pl, hn, fun _ => rfl⟩
theorem XIs.row {q : Nat} (hq : IsP q) {f : List Int} {i n : Nat} {X : List Int} {F : Nat → Int} (h : XIs q f i n X) (hi : i < n) (e : ∀ k, k < n → F k = if k = i then (X.getD i 0 - 1) % (q : Int) else X.getD k 0) : RowIs q f i n F := by
  have hq0 := hq.pos
  refine ⟨fun l hl hF => ?_, fun k hk => ?_, fun h0 k hk => ?_⟩
  · have h1 : E q l (padd X (psc (-1) (pup i [1]))) := cf_E fun k => by
      rw [getD_padd, getD_psc, getD_pup]
      rcases Nat.lt_or_ge k n with hk | hk
      · rw [hF k hk, e k hk]
        by_cases hki : k = i
        · subst hki
          rw [if_pos rfl, if_neg (by omega), Nat.sub_self, Int.emod_emod]; rfl
        · rw [if_neg hki]
          have : (if k < i then (0 : Int) else ([1] : List Int).getD (k - i) 0) = 0 := by
            split
            · rfl
            · exact getD_over' _ _ (by simp; omega)
          rw [this]; simp
      · rw [getD_over' l k (by omega), getD_over' X k (by have := h.len; omega), if_neg (by omega), getD_over' [1] (k - i) (by simp; omega)]; simp
    obtain ⟨a, ha⟩ := h1
    obtain ⟨c, d, hc⟩ := h.eq
    refine ⟨c, padd d (psc (-1) a), fun x => ?_⟩
    have e1 := ha x; have e2 := hc x
    simp only [ev_padd, ev_psc, ev_pup, ev_ppow, ev_pX] at *
    have e3 : ev [1] x = 1 := by simp [ev]
    rw [e3] at e1
    grind
  · rw [e k hk]
    split
    · exact ⟨Int.emod_nonneg _ (by omega), Int.emod_lt_of_pos _ (by omega)⟩
    · exact h.pl.1 k
  · rw [e k hk]
    have h1 := h.one h0
    subst h1
    subst h0
    split
    · rfl
    · rename_i hk0; exact getD_over' _ _ (by simp; omega)
theorem XIs.next {q : Nat} (hq : IsP q) {f : List Int} {i n : Nat} {X S Q R : List Int} (h : XIs q f i n X) (hf : f.length = n + 1) (mf : Mo q f) (hS : RestIs q (ppow [0, 1] q) f S) (hR : DivIs q (nf q (pmul X S)) f Q R) : XIs q f (i + 1) n R := by
  refine ⟨?_, hR.pr, ?_, fun z => by omega⟩
  · obtain ⟨a, ha⟩ := hR.eq
    obtain ⟨b, hb⟩ := nf_E q (pmul X S)
    obtain ⟨c, d, hc⟩ := h.eq
    obtain ⟨u, v, hu⟩ := hS.eq
    have h1 : M q f (pmul (ppow pX (q * i)) (ppow [0, 1] q)) (pmul X S) := by
      refine ⟨padd (pmul c (padd S (pmul f u))) (pmul X u), padd (pmul (ppow pX (q * i)) v) (pmul d (padd S (pmul f u))), fun x => ?_⟩
      have e1 := hc x; have e2 := hu x
      simp only [ev_padd, ev_pmul] at *
      rw [e2]
      grind
    obtain ⟨y, z, hy⟩ := h1
    refine ⟨padd y Q, padd (psc 1 z) (padd (psc (-1) b) a), fun x => ?_⟩
    have e1 := hy x; have e2 := ha x; have e3 := hb x
    simp only [ev_padd, ev_pmul, ev_psc, ev_ppow] at *
    have e4 : ev pX x ^ (q * (i + 1)) = ev pX x ^ (q * i) * ev [0, 1] x ^ q := by
      rw [Nat.mul_add, Nat.mul_one, Int.pow_add]; rfl
    rw [e4]
    grind
  · have := hR.lt
    have h2 : (nf q f).length = f.length := mf.dg
    omega
end Go.Proofs.Ytokdcgmjpnanoaa
