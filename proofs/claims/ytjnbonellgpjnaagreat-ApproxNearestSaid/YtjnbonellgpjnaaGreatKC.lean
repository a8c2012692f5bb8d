/- Whole numbers in memory: a struct of a sign and a list of limbs; the numbers that they say. whole.isZero, whole.signed, the document's Make, Same by their contracts. whole.Plain, Neg, Sign by their contracts; the document's. The document's Add by its contract. The document's tenth and Text by their contracts; the statements' 'short'. whole.Sign, whole.Text by their contracts; the document's; the statements' short. -/
import Derived.Test.YtjnbonellgpjnaaGreatKB
import Derived.Lib.SmallJoins
import Derived.ChangeArms
import Derived.Test.YtjnbonellgpjnaaGreatKA
set_option linter.unusedVariables false
set_option linter.unusedSimpArgs false
namespace Go.Proofs.YtjnbonellgpjnaaGreat
open Go.ChangeShapes Go.WideShapes Go.ChangeAt Go.RowKit Go.Joins

/-- The whole number that a sign and a list of limbs say. -/
def zval (n : Bool) (l : List Nat) : Int := if n then -(val l : Int) else (val l : Int)
/-- v reads as the sign n and the limbs l. -/
def SeesZ (w : World) (v : Value) (n : Bool) (l : List Nat) : Prop := ∃ m, v = .agg #[.bool n, m] ∧ Sees w m l
/-- The sign and the limbs of a plain whole number. -/
def zneg (z : Int) : Bool := decide (z < 0)
def zlim (z : Int) : List Nat := limbs z.natAbs
/-- v is the plain whole number z. -/
def IsZ (w : World) (v : Value) (z : Int) : Prop := SeesZ w v (zneg z) (zlim z)

theorem zval_plain (z : Int) : zval (zneg z) (zlim z) = z := by
  unfold zval zneg zlim
  rw [val_limbs]
  by_cases h : z < 0
  · rw [if_pos (by simp [h])]; omega
  · rw [if_neg (by simp [h])]; omega
theorem zlim_ok (z : Int) : Ok (zlim z) := limbs_ok _
theorem val_zlim (z : Int) : val (zlim z) = z.natAbs := val_limbs _
theorem zval_abs (n : Bool) (l : List Nat) : (zval n l).natAbs = val l := by
  unfold zval; cases n <;> simp
theorem zval_true (l : List Nat) : zval true l = -(val l : Int) := rfl
theorem zval_false (l : List Nat) : zval false l = (val l : Int) := rfl
theorem zval_neg_iff (n : Bool) (l : List Nat) : zval n l < 0 ↔ n = true ∧ 0 < val l := by
  cases n
  · rw [zval_false]
    constructor
    · intro h; omega
    · rintro ⟨h, _⟩; cases h
  · rw [zval_true]
    constructor
    · intro h; exact ⟨rfl, by omega⟩
    · rintro ⟨_, h⟩; omega
theorem zval_zero_iff (n : Bool) (l : List Nat) : zval n l = 0 ↔ val l = 0 := by
  cases n
  · rw [zval_false]; omega
  · rw [zval_true]; omega

theorem SeesZ.below {w w' : World} {v : Value} {n : Bool} {l : List Nat} (h : SeesZ w v n l) (hb : Below w.heap.size w w') : SeesZ w' v n l := by
  obtain ⟨m, rfl, hm⟩ := h
  exact ⟨m, rfl, hm.below hb⟩
theorem SeesZ.ok {w : World} {v : Value} {n : Bool} {l : List Nat} (h : SeesZ w v n l) : Ok l := by obtain ⟨_, _, hm⟩ := h; exact hm.ok
theorem IsZ.below {w w' : World} {v : Value} {z : Int} (h : IsZ w v z) (hb : Below w.heap.size w w') : IsZ w' v z := SeesZ.below h hb
theorem IsZ.sees {w : World} {v : Value} {z : Int} (h : IsZ w v z) : SeesZ w v (zneg z) (zlim z) := h

/-- What 'signed' makes of a sign and a plain magnitude. -/
theorem isZ_of {w : World} {m : Value} {x : Nat} (h : Sees w m (limbs x)) (n : Bool) (z : Int) (hz : z = if n then -(x : Int) else (x : Int)) : IsZ w (.agg #[.bool (n && decide (x ≠ 0)), m]) z := by
  refine ⟨m, ?_, ?_⟩
  · have : (n && decide (x ≠ 0)) = zneg z := by
      subst hz
      unfold zneg
      cases n
      · simp <;> omega
      · by_cases h0 : x = 0
        · simp [h0]
        · simp [h0]; omega
    rw [this]
  · have : zlim z = limbs x := by
      subst hz
      unfold zlim
      cases n <;> simp
    rw [this]; exact h

/-- A struct of a sign and limbs that came in. -/
theorem open_cells {H : Type} {enc : TypeId × Value → H} {W : World} {v : Value} {d : DataW H} {ps : List MemPlace} {fuel : Nat}
    (hf : DataW.trod enc Tryz.prog W 0 (fun _ => true) true fuel 22 [v] = some (d, ps)) (hsz : ∀ elems spare, d = .slice elems spare → (elems.length + spare.length) * Tryz.prog.bytesOf 98 ≤ reachBytes) :
    ∃ l, Sees W v l ∧ l.length ≤ 35184372087808 := by
  rcases open_ints Tryz.underlying22 Tryz.underlying98 cells_u32 hf with ⟨hcs, hx⟩ | ⟨a, len', cap', zs, hcs, _, hl, hm, hz, hx, hcell, hwz⟩
  · simp only [List.cons.injEq, and_true] at hcs
    subst hcs
    exact ⟨[], Sees.nil W, by simp⟩
  · simp only [List.cons.injEq, and_true] at hcs
    subst hcs
    simp only [if_true] at hz
    have hd : d = .slice (lits .u32 (zs.take len')) (lits .u32 (zs.drop len')) := congrArg Prod.fst hx
    have hsz2 := hsz _ _ hd
    rw [bytes_u32] at hsz2
    simp only [lits, List.length_map, List.length_take, List.length_drop, reachBytes] at hsz2
    have hrange : ∀ i, 0 ≤ zs.getD i 0 ∧ zs.getD i 0 < 4294967296 := fun i => by
      rw [List.getD_eq_getElem?_getD]
      cases e : zs[i]? with
      | none => decide
      | some z =>
        have := hwz z (List.mem_of_getElem? e)
        simp [Lit.wf, IntKind.min, IntKind.max, IntKind.signed, IntKind.bits] at this
        simp only [Option.getD_some]
        omega
    have hlen : ((zs.take len').map Int.toNat).length = len' := by simp; omega
    refine ⟨(zs.take len').map Int.toNat, ⟨some a, cap', by rw [hlen], by omega, by omega, ?_, (fun e => by cases e), fun hp => ?_⟩, by omega⟩
    · intro x hx'
      obtain ⟨z, hz', rfl⟩ := List.mem_map.1 hx'
      obtain ⟨i, hi, rfl⟩ := List.getElem_of_mem (List.mem_of_mem_take hz')
      have := hrange i
      rw [List.getD_eq_getElem?_getD, List.getElem?_eq_getElem hi] at this
      simp only [Option.getD_some] at this
      omega
    · obtain ⟨b, off, rfl, hc⟩ := ints_at hcell (by omega)
      refine ⟨b, off, rfl, fun i hi => ?_⟩
      rw [hc i (by omega)]
      have e : ((((zs.take len').map Int.toNat).getD i 0 : Nat) : Int) = zs.getD i 0 := by
        have h1 := (hrange i).1
        rw [List.getD_eq_getElem?_getD, List.getElem?_map, List.getElem?_take_of_lt (by omega)]
        rw [List.getD_eq_getElem?_getD] at h1 ⊢
        cases e2 : zs[i]? with
        | none => simp
        | some z => rw [e2] at h1; simp at h1 ⊢; omega
      rw [e]

/-- The size of a list in a field. -/
theorem sized_part {H : Type} {P : Program} {ts : List TypeId} {ds : List (DataW H)} (h : (DataW.weightsEach P ts ds).all (· ≤ reachBytes) = true) {j : Nat} {t : TypeId} {parts : List (DataW H)} (ht : ts[j]? = some t) (hd : ds[j]? = some (.agg parts))
    (fs : Array Field) (hu : P.underlying t = some (.struct fs)) (k : Nat) (tf e : TypeId) (hk : (fs.toList.map (·.type))[k]? = some tf) (he : P.underlying tf = some (.slice e)) (elems spare : List (DataW H)) (hp : parts[k]? = some (.slice elems spare)) :
    (elems.length + spare.length) * P.bytesOf e ≤ reachBytes := by
  have hw : (elems.length + spare.length) * P.bytesOf e ∈ DataW.weightsEach P (fs.toList.map (·.type)) parts :=
    DataW.weights_mem_each hk hp _ (by simp [DataW.weights, he])
  have := List.all_eq_true.1 h _ (DataW.weights_mem_each ht hd _ (by simp [DataW.weights, hu]; exact hw))
  simpa using this

theorem fields_z : ∃ f0 f1 : Field, Tryz.prog.underlying 24 = some (.struct #[f0, f1]) ∧ Go.Deep.oneCellFields Tryz.prog #[f0, f1] = true ∧ Tryz.prog.cellsOf 24 = 2 ∧ f0.type = 4 ∧ f1.type = 22 :=
  ⟨_, _, Tryz.underlying24, by kernel_rfl, by kernel_rfl, rfl, rfl⟩

set_option maxRecDepth 100000 in
/-- A whole number that came in. -/
theorem open_z {H : Type} {enc : TypeId × Value → H} {W : World} {base : Nat} {v : Value} {d : DataW H} {ps : List MemPlace}
    (hval : Value.okWide Tryz.prog W .any base 24 v) (h : DataW.Trod enc Tryz.prog W 0 (fun _ => true) true 24 v d ps)
    (hsz : ∀ parts, d = .agg parts → ∀ (fs : Array Field), Tryz.prog.underlying 24 = some (.struct fs) → ∀ (k : Nat) (tf e : TypeId), (fs.toList.map (·.type))[k]? = some tf → Tryz.prog.underlying tf = some (.slice e) → ∀ elems spare, parts[k]? = some (.slice elems spare) → (elems.length + spare.length) * Tryz.prog.bytesOf e ≤ reachBytes) :
    ∃ n l, SeesZ W v n l ∧ l.length ≤ 35184372087808 := by
  obtain ⟨f0, f1, hu, hone, hC, ht0, ht1⟩ := fields_z
  obtain ⟨v0, v1, y0, y1, n, rfl, rfl, rfl, t0, t1⟩ := open_agg2 hu hone hC hval h
  rw [ht0] at t0
  rw [ht1] at t1
  obtain ⟨b, hb, -⟩ := DataW.trod_bool Tryz.underlying4 t0
  simp only [List.cons.injEq, and_true] at hb
  subst hb
  obtain ⟨l, hs, hl⟩ := open_cells (d := y1.1) (ps := y1.2) t1 (fun elems spare e => hsz _ rfl _ hu 1 22 98 (by simp [ht1]) Tryz.underlying22 elems spare (by simp [e]))
  exact ⟨b, l, ⟨v1, rfl, hs⟩, hl⟩
end Go.Proofs.YtjnbonellgpjnaaGreat

set_option linter.unusedVariables false
set_option linter.unusedSimpArgs false
namespace Go.Proofs.YtjnbonellgpjnaaGreat
open Go.RowKit

theorem bits_zero (x : Nat) : ((bitsN x : Nat) : Int) = 0 ↔ x = 0 := by
  unfold bitsN
  by_cases h : x = 0
  · simp [h]
  · rw [if_neg h]; constructor
    · intro h2; omega
    · intro h2; exact absurd h2 h

theorem whole_isZero {m : Value} {l : List Nat} {w : World} (h : Sees w m l) :
    Calls Tryz.prog 96 #[m] w fun e w' => e = .returned (.bool (decide (val l = 0))) ∧ w = w' := by
  have hb := bits_zero (val l)
  have HC := hid (nat_bits' h)
  obtain ⟨n, hn⟩ : ∃ n, bitsN (val l) = n := ⟨_, rfl⟩
  rw [hn] at HC hb
  have HB := hid hb
  clear hb hn h
  go_enter Tryz.func96, Tryz.ntmps96
  go_wp2_with fail
  refine HC.out.mono ?_
  rintro e w' ⟨rfl, rfl⟩
  go_wp2
  go_ret
  refine ⟨?_, rfl⟩
  by_cases h : val l = 0
  · have := HB.out.2 h
    simp [h, this]
  · have : ¬ (n : Int) = 0 := fun e => h (HB.out.1 e)
    simp [h]
    omega

/-- The answer is the plain whole number z; what was there is as it was. -/
def IsInt (w : World) (z : Int) (e : Ending) (w' : World) : Prop := ∃ v, e = .returned v ∧ IsZ w' v z ∧ Below w.heap.size w w'

theorem whole_signed (neg : Bool) (x : Nat) {m : Value} {w : World} (h : Sees w m (limbs x)) (z : Int) (hz : z = if neg then -(x : Int) else (x : Int)) :
    Calls Tryz.prog 123 #[.bool neg, m] w fun e w' => IsInt w z e w' := by
  have HS := hid h
  have HZ := hid hz
  have HC := hid (whole_isZero (w := w.alloc (.cells #[.bool false, .slice none 0 0] 24)) (h.below ((Below.refl _ w).alloc (Nat.le_refl _) _)))
  rw [val_limbs] at HC
  obtain ⟨ao, cap, rfl, -, -, -, -, -⟩ := h
  clear hz
  go_enter Tryz.func123, Tryz.ntmps123
  cases neg
  · go_wp2
    refine bodyPost_ret (v := .agg #[.bool false, .slice ao (limbs x).length cap]) (by simp [results, Tryz.results123, go_sem]) rfl ?_
    have hb := (Below.refl w.heap.size w).alloc (Nat.le_refl _) (.cells #[.bool false, .slice ao (limbs x).length cap] 24)
    exact ⟨_, rfl, isZ_of (HS.out.below hb) false z HZ.out, hb⟩
  · go_wp2_with fail
    refine HC.out.mono ?_
    rintro e w' ⟨rfl, rfl⟩
    have eb : (true && decide (x ≠ 0)) = !decide (x = 0) := by by_cases h : x = 0 <;> simp [h]
    have HEB := hid eb
    clear eb
    obtain ⟨b, hb⟩ : ∃ b, decide (x = 0) = b := ⟨_, rfl⟩
    rw [hb] at HEB ⊢
    clear hb HC
    go_wp2
    refine bodyPost_ret (v := .agg #[.bool (!b), .slice ao (limbs x).length cap]) (by simp [results, Tryz.results123, go_sem]) rfl ?_
    have hb := (Below.refl w.heap.size w).alloc (Nat.le_refl _) (.cells #[.bool (!b), .slice ao (limbs x).length cap] 24)
    have hz := isZ_of (HS.out.below hb) true z HZ.out
    rw [HEB.out] at hz
    exact ⟨_, rfl, hz, hb⟩
end Go.Proofs.YtjnbonellgpjnaaGreat

set_option linter.unusedVariables false
set_option linter.unusedSimpArgs false
namespace Go.Proofs.YtjnbonellgpjnaaGreat
open Go.RowKit

/-- A struct of two cells in a block of its own. -/
def Box (w : World) (g : Nat) (a b : Value) : Prop := ∃ t, w.heap[g]? = some (.cells #[a, b] t (0, 0))
theorem Box.new (w : World) (a b : Value) (t : TypeId) : Box (w.alloc (.cells #[a, b] t)) w.heap.size a b := ⟨t, Deep.blk_alloc_new w _⟩
theorem Box.cells {w : World} {g : Nat} {a b : Value} (h : Box w g a b) : w.cell? ⟨g, 0, none⟩ = some a ∧ w.cell? ⟨g, 1, none⟩ = some b ∧ w.frozen? ⟨g, 0, none⟩ = false ∧ w.frozen? ⟨g, 1, none⟩ = false := by
  obtain ⟨t, h⟩ := h
  refine ⟨?_, ?_, ?_, ?_⟩
  · simp only [World.cell?, h]; rfl
  · simp only [World.cell?, h]; rfl
  · simp only [World.frozen?, h]; rfl
  · simp only [World.frozen?, h]; rfl
theorem Box.lt {w : World} {g : Nat} {a b : Value} (h : Box w g a b) : g < w.heap.size := World.block_lt_of_cell? w _ h.cells.1
theorem Box.below {w w' : World} {g : Nat} {a b : Value} (h : Box w g a b) (hb : Below w.heap.size w w') : Box w' g a b := by
  have hlt := h.lt
  obtain ⟨t, h⟩ := h
  exact ⟨t, (hb.block g hlt).trans h⟩
theorem Box.alloc {w : World} {g : Nat} {a b : Value} (h : Box w g a b) (o : Obj) : Box (w.alloc o) g a b := h.below ((Below.refl _ w).alloc (Nat.le_refl _) o)
/-- Both cells stored. -/
theorem Box.set {w : World} {g : Nat} {a b : Value} (h : Box w g a b) (a' b' : Value) : Box ((w.setCell ⟨g, 0, none⟩ a').setCell ⟨g, 1, none⟩ b') g a' b' := by
  obtain ⟨t, h⟩ := h
  refine ⟨t, ?_⟩
  simp [World.setCell, Array.getElem?_modify, h]
theorem Box.grown {w : World} {g : Nat} (a' b' : Value) : w.grownBy ((w.setCell ⟨g, 0, none⟩ a').setCell ⟨g, 1, none⟩ b') (some g) := grownBy_set (grownBy_set (World.grownBy.refl _ _) _ _) _ _
/-- No limbs lie in it. -/
theorem Sees.box {w : World} {g : Nat} {n : Bool} {ao : Option Addr} {len cap : Nat} {v : Value} {l : List Nat} (h : Sees w v l) (hb : Box w g (.bool n) (.slice ao len cap)) (a' b' : Value) : Sees ((w.setCell ⟨g, 0, none⟩ a').setCell ⟨g, 1, none⟩ b') v l := by
  obtain ⟨ao', cap', rfl, h2, h3, h4, hn0, h5⟩ := h
  refine ⟨ao', cap', rfl, h2, h3, h4, hn0, fun hp => ?_⟩
  obtain ⟨b, o, rfl, hcell⟩ := h5 hp
  refine ⟨b, o, rfl, fun i hi => (Box.grown a' b').cell (hcell i hi) ?_⟩
  have hc := hcell i hi
  intro e
  obtain ⟨t, hb⟩ := hb
  simp at e
  subst e
  simp only [World.cell?, hb] at hc
  match hoi : o + i with
  | 0 => rw [hoi] at hc; simp at hc
  | 1 => rw [hoi] at hc; simp at hc
  | k + 2 => rw [hoi] at hc; simp at hc
theorem IsZ.box {w : World} {g : Nat} {n : Bool} {ao : Option Addr} {len cap : Nat} {v : Value} {z : Int} (h : IsZ w v z) (hb : Box w g (.bool n) (.slice ao len cap)) (a' b' : Value) : IsZ ((w.setCell ⟨g, 0, none⟩ a').setCell ⟨g, 1, none⟩ b') v z := by
  obtain ⟨m, rfl, hm⟩ := h
  exact ⟨m, rfl, hm.box hb a' b'⟩
theorem below_box {a w : World} {g B : Nat} (h : Below B a w) (hg : B ≤ g) (hB : B ≤ w.heap.size) (a' b' : Value) : Below B a ((w.setCell ⟨g, 0, none⟩ a').setCell ⟨g, 1, none⟩ b') :=
  h.grown (Box.grown a' b') hB (fun k e => by simp at e; omega)

set_option maxRecDepth 100000 in
set_option maxHeartbeats 1000000 in
theorem whole_plain {v : Value} {n : Bool} {l : List Nat} {w : World} (h : SeesZ w v n l) (hl : l.length ≤ 35184372088832) :
    Calls Tryz.prog 111 #[v] w fun e w' => IsInt w (zval n l) e w' := by
  obtain ⟨m, rfl, hm⟩ := h
  have HM := hid hm
  obtain ⟨ao, cap, rfl, -, -, -, -, -⟩ := hm
  go_enter Tryz.func111, Tryz.ntmps111
  go_wp2_with fail
  obtain ⟨g, hg⟩ : ∃ g, g = w.heap.size := ⟨_, rfl⟩
  obtain ⟨r, hr⟩ : ∃ r, r = w.heap.size + 1 := ⟨_, rfl⟩
  obtain ⟨w0, hw0⟩ : ∃ x, x = (w.alloc (.cells #[.bool n, .slice ao l.length cap] 24)).alloc (.cells #[.bool false, .slice none 0 0] 24) := ⟨_, rfl⟩
  have B0 : Hid (Below w.heap.size w w0) := by rw [hw0]; exact ((Below.refl _ w).alloc (Nat.le_refl _) _).alloc (by simp) _
  have X0 : Box w0 g (.bool n) (.slice ao l.length cap) := by rw [hw0, hg]; exact (Box.new w _ _ _).alloc _
  have Y0 : Box w0 r (.bool false) (.slice none 0 0) := by
    rw [hw0, hr]
    have := Box.new (w.alloc (.cells #[.bool n, .slice ao l.length cap] 24)) (.bool false) (.slice none 0 0) 24
    rwa [Deep.nblk_alloc] at this
  have HM0 := hid (HM.out.below B0.out)
  have HG : Hid (w.heap.size ≤ g ∧ w.heap.size ≤ r) := by constructor <;> omega
  rw [← hw0, ← hr, ← hg]
  clear hw0 hr hg HM
  have HX0 := hid X0; have HY0 := hid Y0
  obtain ⟨c0, c1, f0, f1⟩ := X0.cells
  obtain ⟨d0, d1, k0, k1⟩ := Y0.cells
  clear X0 Y0
  go_region_with (first
    | (go_at_call 112; refine (nat_plain' (by exact HM0.out) hl).mono ?_; rintro e w1 ⟨v1, rfl, hs1, hb1⟩
       have HX1 := hid (Box.below (by exact HX0.out) hb1); have HY1 := hid (Box.below (by exact HY0.out) hb1)
       have B1 := hid (B0.out.drew.trans (Below.mono hb1 B0.out.drew.size))
       have HS1 := hid hs1
       obtain ⟨c0', c1', f0', f1'⟩ := HX1.out.cells
       clear hs1 hb1 c0 c1 f0 f1 d0 d1 k0 k1)
    | (go_at_call 123; refine (whole_signed n (val l) (by exact HS1.out) (zval n l) rfl).mono ?_; rintro e w2 ⟨v2, rfl, hz2, hb2⟩
       have HY2 := hid (Box.below (by exact HY1.out) hb2)
       have B2 := hid (B1.out.trans (Below.mono hb2 B1.out.size))
       have HZ2 := hid hz2
       obtain ⟨m2, rfl, hm2⟩ := hz2
       obtain ⟨ao2, cap2, rfl, -, -, -, -, -⟩ := hm2
       obtain ⟨d0', d1', k0', k1'⟩ := HY2.out.cells
       have hlt := HY2.out.lt
       clear hb2))
  all_goals
    have HY3 := hid (HY2.out.set (.bool (zneg (zval n l))) (.slice ao2 (zlim (zval n l)).length cap2))
    have HZ3 := hid (HZ2.out.box HY2.out (.bool (zneg (zval n l))) (.slice ao2 (zlim (zval n l)).length cap2))
    have B3 := hid (below_box B2.out HG.out.2 B2.out.size (.bool (zneg (zval n l))) (.slice ao2 (zlim (zval n l)).length cap2))
    obtain ⟨e0, e1, -, -⟩ := HY3.out.cells
    go_wp2
    refine bodyPost_ret (v := .agg #[.bool (zneg (zval n l)), .slice ao2 (zlim (zval n l)).length cap2]) ?_ rfl ⟨_, rfl, HZ3.out, B3.out⟩
    simp [results, Tryz.results111, go_sem, e0, e1]
end Go.Proofs.YtjnbonellgpjnaaGreat

set_option linter.unusedVariables false
set_option linter.unusedSimpArgs false
namespace Go.Proofs.YtjnbonellgpjnaaGreat
open Go.RowKit

theorem owns_sees {w : World} {base n : Nat} {v : Value} {l : List Nat} (h : w.ownsRow base 98 1 v n (enc l)) (hok : Ok l) (hl : l.length ≤ 70368744177664) : Sees w v l := by
  by_cases e : v = .slice none 0 0
  · have hl0 : l = [] := by
      rcases h.2 with ⟨_, h2⟩ | ⟨g, cap, cur, h2, _⟩
      · have := h.1; rw [enc_length, h2] at this; exact List.eq_nil_of_length_eq_zero (by omega)
      · rw [e] at h2; cases h2
    rw [e, hl0]; exact Sees.nil w
  · obtain ⟨g, cap, rfl, hr, _, hc, _⟩ := owns_some h e
    have := hr.sees hok 0 l.length cap (by omega) hc hl
    simpa using this

/-- What the reference's sum has told behind k limbs. -/
def SumTo (l m t : List Nat) (k c : Nat) : Prop := t.length = k ∧ Ok t ∧ val t + 4294967296 ^ k * c = valF (fun i => l.getD i 0) k + valF (fun i => m.getD i 0) k
theorem SumTo.step {l m t : List Nat} {k c : Nat} (h : SumTo l m t k c) (s d : Nat) (hs : s < 4294967296) (e : c + l.getD k 0 + m.getD k 0 = s + 4294967296 * d) : SumTo l m (t ++ [s]) (k + 1) d := by
  obtain ⟨h1, h2, h3⟩ := h
  refine ⟨by simp [h1], h2.append (Ok.cons hs Ok.nil), ?_⟩
  rw [val_append, h1, val_cons, val_nil, Nat.mul_zero, Nat.add_zero]
  simp only [valF]
  have e2 := congrArg (4294967296 ^ k * ·) e
  simp only [Nat.mul_add] at e2
  rw [Nat.pow_succ, Nat.mul_assoc]
  omega

set_option maxHeartbeats 4000000 in
theorem ref_add (a b : Option Addr) (ca cb : Nat) (l m : List Nat) (w : World) (ha : Sees w (.slice a l.length ca) l) (hb : Sees w (.slice b m.length cb) m) (hl : l.length ≤ 35184372088000) (hm : m.length ≤ 35184372088000) :
    Calls Tryz.prog 71 #[.slice a l.length ca, .slice b m.length cb] w fun e w' => IsNum w (val l + val m) e w' := by
  have HA := hid ha; have HB := hid hb
  clear ha hb
  obtain ⟨i0, hi, hz0, hz1, hz2⟩ := info_parts info_u32
  go_enter Tryz.func71, Tryz.ntmps71
  go_wp2
  go_loopg [5, 6, 7] (2 * max l.length m.length) (fun n v5 v6 v7 wr => ∃ (k c : Nat) (t : List Nat), n = 2 * (max l.length m.length - k) + c ∧ k + c ≤ max l.length m.length + 1 ∧ v7 = .int .i64 k ∧ v6 = .int .u64 c ∧ c ≤ 1 ∧ Hid (SumTo l m t k c) ∧ Hid (wr.ownsRow w.heap.size 98 1 v5 k (enc t)) ∧ Hid (Below w.heap.size w wr))
  case atStart => exact ⟨0, 0, [], by omega, by omega, rfl, rfl, by omega, ⟨rfl, Ok.nil, by simp [val_nil, valF]⟩, World.ownsRow_nil _ _ _ _, Below.refl _ _⟩
  case round =>
    obtain ⟨k, c, t, hn, hkc, rfl, rfl, hc1, hsum, hown, hbel⟩ := hrel
    have H1 : k < l.length → ∃ b1 o1, a = some ⟨b1, o1, none⟩ ∧ wr.cell? ⟨b1, o1 + k, none⟩ = some (.int .u32 (l.getD k 0 : Nat)) := fun h => by
      obtain ⟨b1, o1, e, hc⟩ := (HA.out.below hbel.out).at (by omega)
      exact ⟨b1, o1, e, hc _ h⟩
    have H2 : k < m.length → ∃ b1 o1, b = some ⟨b1, o1, none⟩ ∧ wr.cell? ⟨b1, o1 + k, none⟩ = some (.int .u32 (m.getD k 0 : Nat)) := fun h => by
      obtain ⟨b1, o1, e, hc⟩ := (HB.out.below hbel.out).at (by omega)
      exact ⟨b1, o1, e, hc _ h⟩
    have z1 : ¬ k < l.length → l.getD k 0 = 0 := fun h => by rw [List.getD_eq_getElem?_getD, List.getElem?_eq_none (by omega)]; rfl
    have z2 : ¬ k < m.length → m.getD k 0 = 0 := fun h => by rw [List.getD_eq_getElem?_getD, List.getElem?_eq_none (by omega)]; rfl
    have o1 := HA.out.ok.getD k
    have o2 := HB.out.ok.getD k
    have hst := hid hsum.out.step
    have HGK := hid hn
    have hlenlt : k ≤ max l.length m.length + 1 := by omega
    clear hn
    generalize l.getD k 0 = x at *
    generalize m.getD k 0 = y at *
    by_cases hkl : k < l.length
    · obtain ⟨b1, q1, rfl, hx⟩ := H1 hkl
      by_cases hkm : k < m.length
      · obtain ⟨b2, q2, rfl, hy⟩ := H2 hkm
        clear H1 H2 z1 z2
        obtain ⟨s, d, hs, hd, he, em, ed⟩ : ∃ s d : Nat, s < 4294967296 ∧ d ≤ 1 ∧ c + x + y = s + 4294967296 * d ∧ ((c : Int) + x + y) % 4294967296 = (s : Int) ∧ ((c : Int) + x + y) / 4294967296 = (d : Int) :=
          ⟨(c + x + y) % 4294967296, (c + x + y) / 4294967296, by omega, by omega, by omega, by omega, by omega⟩
        have hkd : k + 1 + d ≤ max l.length m.length + 1 := by omega
        have hstep := hst.out s d hs he
        have hnews : ∀ j u, (enc [s])[j]? = some u → (wr.alloc (.cells #[.int .u32 (s : Nat)] 98)).cell? ((⟨wr.heap.size, 0, none⟩ : Addr).add j) = some u :=
          (sees_lit wr [s] (Ok.cons hs Ok.nil) (by simp)).news
        have HN := hid hnews; have HS := hid hstep; have HW := hid hown.out.lt
        clear hnews hstep he
        go_wp2_with (at_builtin; refine wpList_append_own _ rfl _ _ 22 rfl w.heap.size 98 i0 (.int .u32 0) 1 4 Tryz.underlying22 hi hz0 hz1 hz2 rfl (by decide) _ _ _ rfl (hown.out.alloc _) ⟨wr.heap.size, 0, none⟩ 1 1 (enc [s]) rfl ?ga1 ?gb1 ?gc1 ?gd1 ?ge1 ?gf1 ?_)
        case ga1 => simp [enc_length]
        case gb1 => exact HN.out
        case gc1 => exact enc_one _
        case gd1 => unfold maxLen; omega
        case ge1 => omega
        case gf1 => have := hbel.out.size; simp; omega
        intro v' w4 hown4 hgrow _
        rw [enc_append] at hown4
        have hb4 : Below w.heap.size w w4 := (hbel.out.alloc hbel.out.size _).grown hgrow (by rw [Deep.nblk_alloc]; have := hbel.out.size; omega) (fun k e => (HW.out k e).1)
        have HO := hid hown4; have HB4 := hid hb4
        clear hown4 hgrow hb4
        go_wp2
        go_roundg (2 * (max l.length m.length - (k + 1)) + d)
        case rel => exact ⟨k + 1, d, t ++ [s], by omega, hkd, by go_num, by first | rfl | rw [ed], hd, HS, HO, HB4⟩
        case measure => have := HGK.out; omega
      · obtain rfl := z2 hkm
        clear H1 H2 z1 z2
        obtain ⟨s, d, hs, hd, he, em, ed⟩ : ∃ s d : Nat, s < 4294967296 ∧ d ≤ 1 ∧ c + x + 0 = s + 4294967296 * d ∧ ((c : Int) + x) % 4294967296 = (s : Int) ∧ ((c : Int) + x) / 4294967296 = (d : Int) :=
          ⟨(c + x + 0) % 4294967296, (c + x + 0) / 4294967296, by omega, by omega, by omega, by omega, by omega⟩
        have hkd : k + 1 + d ≤ max l.length m.length + 1 := by omega
        have hstep := hst.out s d hs he
        have hnews : ∀ j u, (enc [s])[j]? = some u → (wr.alloc (.cells #[.int .u32 (s : Nat)] 98)).cell? ((⟨wr.heap.size, 0, none⟩ : Addr).add j) = some u :=
          (sees_lit wr [s] (Ok.cons hs Ok.nil) (by simp)).news
        have HN := hid hnews; have HS := hid hstep; have HW := hid hown.out.lt
        clear hnews hstep he
        go_wp2_with (at_builtin; refine wpList_append_own _ rfl _ _ 22 rfl w.heap.size 98 i0 (.int .u32 0) 1 4 Tryz.underlying22 hi hz0 hz1 hz2 rfl (by decide) _ _ _ rfl (hown.out.alloc _) ⟨wr.heap.size, 0, none⟩ 1 1 (enc [s]) rfl ?ga2 ?gb2 ?gc2 ?gd2 ?ge2 ?gf2 ?_)
        case ga2 => simp [enc_length]
        case gb2 => exact HN.out
        case gc2 => exact enc_one _
        case gd2 => unfold maxLen; omega
        case ge2 => omega
        case gf2 => have := hbel.out.size; simp; omega
        intro v' w4 hown4 hgrow _
        rw [enc_append] at hown4
        have hb4 : Below w.heap.size w w4 := (hbel.out.alloc hbel.out.size _).grown hgrow (by rw [Deep.nblk_alloc]; have := hbel.out.size; omega) (fun k e => (HW.out k e).1)
        have HO := hid hown4; have HB4 := hid hb4
        clear hown4 hgrow hb4
        go_wp2
        go_roundg (2 * (max l.length m.length - (k + 1)) + d)
        case rel => exact ⟨k + 1, d, t ++ [s], by omega, hkd, by go_num, by first | rfl | rw [ed], hd, HS, HO, HB4⟩
        case measure => have := HGK.out; omega
    · obtain rfl := z1 hkl
      by_cases hkm : k < m.length
      · obtain ⟨b2, q2, rfl, hy⟩ := H2 hkm
        clear H1 H2 z1 z2
        obtain ⟨s, d, hs, hd, he, em, ed⟩ : ∃ s d : Nat, s < 4294967296 ∧ d ≤ 1 ∧ c + 0 + y = s + 4294967296 * d ∧ ((c : Int) + y) % 4294967296 = (s : Int) ∧ ((c : Int) + y) / 4294967296 = (d : Int) :=
          ⟨(c + 0 + y) % 4294967296, (c + 0 + y) / 4294967296, by omega, by omega, by omega, by omega, by omega⟩
        have hkd : k + 1 + d ≤ max l.length m.length + 1 := by omega
        have hstep := hst.out s d hs he
        have hnews : ∀ j u, (enc [s])[j]? = some u → (wr.alloc (.cells #[.int .u32 (s : Nat)] 98)).cell? ((⟨wr.heap.size, 0, none⟩ : Addr).add j) = some u :=
          (sees_lit wr [s] (Ok.cons hs Ok.nil) (by simp)).news
        have HN := hid hnews; have HS := hid hstep; have HW := hid hown.out.lt
        clear hnews hstep he
        go_wp2_with (at_builtin; refine wpList_append_own _ rfl _ _ 22 rfl w.heap.size 98 i0 (.int .u32 0) 1 4 Tryz.underlying22 hi hz0 hz1 hz2 rfl (by decide) _ _ _ rfl (hown.out.alloc _) ⟨wr.heap.size, 0, none⟩ 1 1 (enc [s]) rfl ?ga3 ?gb3 ?gc3 ?gd3 ?ge3 ?gf3 ?_)
        case ga3 => simp [enc_length]
        case gb3 => exact HN.out
        case gc3 => exact enc_one _
        case gd3 => unfold maxLen; omega
        case ge3 => omega
        case gf3 => have := hbel.out.size; simp; omega
        intro v' w4 hown4 hgrow _
        rw [enc_append] at hown4
        have hb4 : Below w.heap.size w w4 := (hbel.out.alloc hbel.out.size _).grown hgrow (by rw [Deep.nblk_alloc]; have := hbel.out.size; omega) (fun k e => (HW.out k e).1)
        have HO := hid hown4; have HB4 := hid hb4
        clear hown4 hgrow hb4
        go_wp2
        go_roundg (2 * (max l.length m.length - (k + 1)) + d)
        case rel => exact ⟨k + 1, d, t ++ [s], by omega, hkd, by go_num, by first | rfl | rw [ed], hd, HS, HO, HB4⟩
        case measure => have := HGK.out; omega
      · obtain rfl := z2 hkm
        clear H1 H2 z1 z2
        by_cases hc0 : 0 < c
        · have hkm2 : k ≤ max l.length m.length := by omega
          obtain ⟨s, d, hs, hd, he, em, ed⟩ : ∃ s d : Nat, s < 4294967296 ∧ d ≤ 1 ∧ c + 0 + 0 = s + 4294967296 * d ∧ ((c : Int)) % 4294967296 = (s : Int) ∧ ((c : Int)) / 4294967296 = (d : Int) :=
            ⟨(c + 0 + 0) % 4294967296, (c + 0 + 0) / 4294967296, by omega, by omega, by omega, by omega, by omega⟩
          have hkd : k + 1 + d ≤ max l.length m.length + 1 := by omega
          have hstep := hst.out s d hs he
          have hnews : ∀ j u, (enc [s])[j]? = some u → (wr.alloc (.cells #[.int .u32 (s : Nat)] 98)).cell? ((⟨wr.heap.size, 0, none⟩ : Addr).add j) = some u :=
            (sees_lit wr [s] (Ok.cons hs Ok.nil) (by simp)).news
          have HN := hid hnews; have HS := hid hstep; have HW := hid hown.out.lt
          clear hnews hstep he
          go_wp2_with (at_builtin; refine wpList_append_own _ rfl _ _ 22 rfl w.heap.size 98 i0 (.int .u32 0) 1 4 Tryz.underlying22 hi hz0 hz1 hz2 rfl (by decide) _ _ _ rfl (hown.out.alloc _) ⟨wr.heap.size, 0, none⟩ 1 1 (enc [s]) rfl ?ga4 ?gb4 ?gc4 ?gd4 ?ge4 ?gf4 ?_)
          case ga4 => simp [enc_length]
          case gb4 => exact HN.out
          case gc4 => exact enc_one _
          case gd4 => unfold maxLen; omega
          case ge4 => omega
          case gf4 => have := hbel.out.size; simp; omega
          intro v' w4 hown4 hgrow _
          rw [enc_append] at hown4
          have hb4 : Below w.heap.size w w4 := (hbel.out.alloc hbel.out.size _).grown hgrow (by rw [Deep.nblk_alloc]; have := hbel.out.size; omega) (fun k e => (HW.out k e).1)
          have HO := hid hown4; have HB4 := hid hb4
          clear hown4 hgrow hb4
          go_wp2
          go_roundg (2 * (max l.length m.length - (k + 1)) + d)
          case rel => exact ⟨k + 1, d, t ++ [s], by omega, hkd, by go_num, by first | rfl | rw [ed], hd, HS, HO, HB4⟩
          case measure => have := HGK.out; omega
        · obtain rfl : c = 0 := by omega
          have hs := hsum.out
          have hlk : t.length ≤ 35184372088832 := by have := hs.1; omega
          have hsee := owns_sees hown.out hs.2.1 (by omega)
          have hv : val t = val l + val m := by
            have := hs.2.2
            rw [← val_valF l k (by omega), ← val_valF m k (by omega)] at this
            simpa using this
          have HS := hid hsee; have HV := hid hv; have HLK := hid hlk
          have hlk2 := Nat.le_trans (limbs_prefix hsee.ok).2 hlk
          clear hs hsee hv hlk hst hsum hown
          go_wp2_with fail
          refine (ref_plain _ _ _ HS.out HLK.out).mono ?_
          intro e w4 hp
          obtain ⟨v4, rfl, hs4, hb4⟩ := hp.sees (by omega)
          have HS4 := hid hs4; have HB4 := hid (hbel.out.trans (hb4.mono hbel.out.size))
          clear hp hs4 hb4
          go_wp2
          go_ret
          exact ⟨_, rfl, by have := HS4.out; rw [HV.out] at this; exact this, HB4.out⟩
end Go.Proofs.YtjnbonellgpjnaaGreat

set_option linter.unusedVariables false
set_option linter.unusedSimpArgs false
namespace Go.Proofs.YtjnbonellgpjnaaGreat
open Go.RowKit

/-! ### Bytes in a slice that grows -/
def enc8 (l : List UInt8) : List Value := l.map fun x => Value.int .u8 (x.toNat : Nat)
theorem enc8_length (l : List UInt8) : (enc8 l).length = l.length := by simp [enc8]
theorem enc8_one (l : List UInt8) : ∀ u ∈ enc8 l, u.oneCell' = true := by intro u hu; obtain ⟨x, _, rfl⟩ := List.mem_map.1 hu; rfl
theorem enc8_get (l : List UInt8) (i : Nat) (h : i < l.length) : (enc8 l)[i]? = some (.int .u8 ((l.getD i 0).toNat : Nat)) := by
  unfold enc8
  rw [List.getElem?_map, List.getD_eq_getElem?_getD, List.getElem?_eq_getElem h]; rfl
theorem enc8_append (l m : List UInt8) : enc8 l ++ enc8 m = enc8 (l ++ m) := by simp [enc8]
theorem owns8_some {w : World} {base n : Nat} {v : Value} {l : List UInt8} (h : w.ownsRow base 5 1 v n (enc8 l)) (hn : 0 < n) : ∃ g cap, v = .slice (some ⟨g, 0, none⟩) l.length cap ∧ Row8 w g l ∧ base ≤ g ∧ l.length ≤ cap := by
  obtain ⟨h1, h2⟩ := h
  rw [enc8_length, Nat.mul_one] at h1
  rcases h2 with ⟨_, h2⟩ | ⟨g, cap, cur, rfl, hg, hh, hnc, hm, hs, ht⟩
  · omega
  · refine ⟨g, cap, by rw [h1], ⟨cur, hh, by simp at hs; omega, fun i hi => ?_⟩, hg, by omega⟩
    have : (cur.toList.take (n * 1))[i]? = some (Value.int .u8 ((l.getD i 0).toNat : Nat)) := by
      rw [ht, enc8_get l i hi]
    rw [List.getElem?_take_of_lt (by omega)] at this
    simpa using this
theorem owns_below {w w' : World} {base n size e : Nat} {v : Value} {xs : List Value} (h : w.ownsRow base e size v n xs) (hb : Below w.heap.size w w') : w'.ownsRow base e size v n xs :=
  h.kept (row := none) ⟨hb.os, hb.tape, hb.output, hb.size, fun k hk _ => hb.block k hk⟩ (by
    cases v.ownBlock with
    | none => exact .inl rfl
    | some k => exact .inr (by simp))
theorem news8 (w : World) (c : UInt8) : ∀ j u, (enc8 [c])[j]? = some u → (w.alloc (.cells #[.int .u8 (c.toNat : Nat)] 5)).cell? ((⟨w.heap.size, 0, none⟩ : Addr).add j) = some u := by
  intro j u hj
  match j, hj with
  | 0, hj =>
    simp [enc8] at hj
    subst hj
    simp [Addr.add, go_sem]
  | j + 1, hj => simp [enc8] at hj

/-- A digit's letter as the walk reckons it. -/
theorem digB_val (x : Nat) : ((digB x).toNat : Int) = 48 + (x % 10 : Nat) := by rw [digB_toNat]; omega

theorem pad_snoc (n x : Nat) : pad n x ++ [digB (x / 10 ^ n)] = pad (n + 1) x := by
  unfold pad; rw [List.range_succ, List.map_append]; rfl

theorem pad_exact (i x : Nat) (h : x < 10 ^ (i + 1)) (h' : 10 ^ i ≤ x) : pad (i + 1) x = decR x := by
  induction i generalizing x with
  | zero =>
    rw [pad_succ, decR_pos (by simp at h'; omega)]
    have : x / 10 = 0 := by simp at h; omega
    rw [this, decR_zero]; rfl
  | succ i ih =>
    have h1 : 0 < x := Nat.lt_of_lt_of_le (Nat.pow_pos (by decide)) h'
    rw [pad_succ, decR_pos h1, ih (x / 10) (by rw [Nat.pow_succ] at h; omega) (by rw [Nat.pow_succ] at h'; omega)]

theorem pad_dec (i x : Nat) (h : x / 10 ^ (i + 1) = 0) (h' : i = 0 ∨ 0 < x / 10 ^ i) : (pad (i + 1) x).reverse = dec x := by
  have hx : x < 10 ^ (i + 1) := by
    rcases Nat.lt_or_ge x (10 ^ (i + 1)) with h1 | h1
    · exact h1
    · have := Nat.div_pos h1 (Nat.pow_pos (by decide)); omega
  by_cases h0 : x = 0
  · subst h0
    have : i = 0 := by
      rcases h' with h1 | h1
      · exact h1
      · rw [Nat.zero_div] at h1; omega
    subst this; rfl
  · have hp : 10 ^ i ≤ x := by
      rcases h' with h1 | h1
      · subst h1; simp; omega
      · rcases Nat.lt_or_ge x (10 ^ i) with h2 | h2
        · rw [Nat.div_eq_of_lt h2] at h1; omega
        · exact h2
    rw [pad_exact i x hx hp]
    unfold dec
    rw [if_neg h0]

theorem digits_le {x i L : Nat} (h : 0 < x / 10 ^ i) (hx : x < 4294967296 ^ L) : i < 32 * L := by
  have h1 : 10 ^ i ≤ x := by
    rcases Nat.lt_or_ge x (10 ^ i) with h2 | h2
    · rw [Nat.div_eq_of_lt h2] at h; omega
    · exact h2
  have h2 : 2 ^ i ≤ 10 ^ i := Nat.pow_le_pow_left (by decide) i
  rw [pow_limbs'] at hx
  have h3 : 2 ^ i < 2 ^ (32 * L) := by omega
  exact (Nat.pow_lt_pow_iff_right (by decide)).1 h3

theorem limbs_length_le' {x y L : Nat} (hx : x < 4294967296 ^ L) (hL : L ≤ 1000) (h : y ≤ x) : (limbs y).length ≤ 1000 :=
  Nat.le_trans (limbs_length_le (Nat.lt_of_le_of_lt h hx)) hL

/-- What tenth answers. -/
def IsTenth (w : World) (x : Nat) (e : Ending) (w' : World) : Prop := ∃ (v : Value) (r : Nat), e = .returned (.tuple #[v, .int .i64 r]) ∧ r = x % 10 ∧ r < 10 ∧ Sees w' v (limbs (x / 10)) ∧ Below w.heap.size w w' ∧ Fresh w v

set_option maxHeartbeats 2000000 in
theorem ref_tenth (v : Value) (l : List Nat) (w : World) (h : Sees w v l) (hl : l.length ≤ 1000) :
    Calls Tryz.prog 93 #[v] w fun e w' => IsTenth w (val l) e w' := by
  have hpl := (limbs_prefix h.ok).2
  go_enter Tryz.func93, Tryz.ntmps93
  go_wp2_with fail
  refine (ref_plain _ _ _ h (by omega)).mono ?_
  rintro e w1 ⟨v1, rfl, hb1, ⟨hn, rfl⟩ | ⟨g, c, rfl, hc, hp, hg, hrow⟩⟩
  · have hz := limbs_nil_iff.1 hn
    have HZ := hid hz; have HB1 := hid hb1
    clear hz hn hb1 h
    go_wp2
    refine wp_loop_rounds 1 ?_
    rw [rounds_succ]
    go_wp2_with fail
    refine (ref_plain _ [] _ (Sees.nil _) (by simp)).mono ?_
    intro e w2 hpp
    obtain ⟨v2, rfl, hs2, hb2, hf2⟩ := hpp.fresh (by simp [val_nil, limbs_zero])
    have HS2 := hid hs2; have HB2 := hid (HB1.out.trans (hb2.mono HB1.out.size)); have HF2 := hid (hf2.mono HB1.out.size)
    clear hpp hs2 hb2 hf2
    go_wp2
    go_ret2
    refine ⟨_, 0, rfl, by rw [HZ.out], by omega, ?_, HB2.out, HF2.out⟩
    have := HS2.out
    rw [HZ.out]
    exact this
  · obtain ⟨s, hs⟩ : ∃ s, s = limbs (val l) := ⟨_, rfl⟩
    rw [← hs] at hrow hc hp hpl
    have hsok : Ok s := hs ▸ limbs_ok _
    have hsv : val s = val l := by rw [hs, val_limbs]
    have HSV := hid hsv; have HOK := hid hsok; have HR := hid hrow; have HB1 := hid hb1; have HC := hid hc
    rw [← hs]
    clear hs hsok hsv hrow hb1 hc h
    go_wp2
    go_loopw [5, 6] (fun v5 v6 wr => ∃ (k r : Nat) (t : List Nat), k ≤ s.length ∧ v6 = .int .i64 ((s.length : Int) - 1 - k) ∧ v5 = .int .u64 r ∧ r < 10 ∧ Hid (DivBy s 10 k t r) ∧ Hid (Row wr g t) ∧ Hid (w1.grownBy wr (some g))) (fun _ v _ => (intOf v + 1).toNat)
    case atStart => exact ⟨0, 0, s, Nat.zero_le _, by congr 1; omega, rfl, by omega, DivBy.start HOK.out 10 (by decide), HR, World.grownBy.refl _ _⟩
    case round =>
      obtain ⟨k, r, t, hk, rfl, rfl, hr10, ha, hrow, hgb⟩ := hrel
      by_cases hlt : k < s.length
      · have htl := ha.out.len
        have hca := hrow.out.cell (i := s.length - 1 - k) (by omega)
        have hfr := hrow.out.frozen (s.length - 1 - k)
        have hox := ha.out.ok.getD (s.length - 1 - k)
        have hsame := ha.out.low (s.length - 1 - k) (by omega)
        have hst := ha.out.step hlt
        rw [← hsame] at hst
        have HST := hid hst; have HTL := hid htl
        clear hst hsame htl
        generalize t.getD (s.length - 1 - k) 0 = u at *
        obtain ⟨q, r', hq, hr', he, hdq, hdr⟩ : ∃ q r' : Nat, q < 4294967296 ∧ r' < 10 ∧ r * 4294967296 + u = 10 * q + r' ∧ ((r : Int) * 4294967296 + u) / 10 = (q : Int) ∧ ((r : Int) * 4294967296 + u) % 10 = (r' : Int) :=
          ⟨(r * 4294967296 + u) / 10, (r * 4294967296 + u) % 10, by omega, by omega, by omega, by omega, by omega⟩
        have HStep := hid (HST.out q r' hq hr' he)
        have HRow := hid (hrow.out.set (s.length - 1 - k) q)
        have HG := hid (grownBy_set (i := s.length - 1 - k) (v := .int .u32 (q : Nat)) hgb.out)
        clear he
        go_wp2
        go_roundw
        case rel => exact ⟨k + 1, r', t.set (s.length - 1 - k) q, by omega, by go_num, by first | rfl | rw [hdr], hr', HStep, HRow, HG⟩
        case measure => simp [intOf]; omega
      · obtain rfl : k = s.length := by omega
        have htot := ha.out.total
        have htl := ha.out.len
        have hs4 := hrow.out.sees ha.out.ok 0 s.length c (by omega) HC.out (by omega)
        rw [List.drop_zero, List.take_of_length_le (by omega)] at hs4
        have HB2 : Hid (Below w.heap.size w wr) := HB1.out.grown hgb.out HB1.out.size (fun k e => by simp at e; omega)
        have hpl2 := (limbs_prefix hs4.ok).2
        have hpl3 : (limbs (val t)).length ≤ 1000 := by omega
        have HS4 := hid hs4; have HT := hid htot; have HTL := hid htl
        clear htot htl hs4 ha hrow hgb hpl2
        go_wp2_with fail
        refine (ref_plain _ _ _ HS4.out (by have := HTL.out; omega)).mono ?_
        intro e w5 hpp
        obtain ⟨v5, rfl, hs5, hb5, hf5⟩ := hpp.fresh (by omega)
        have HS5 := hid hs5; have HB5 := hid (HB2.out.trans (hb5.mono HB2.out.size)); have HF5 := hid (hf5.mono HB2.out.size)
        clear hpp hs5 hb5 hf5
        go_wp2
        go_ret2
        refine ⟨_, r, rfl, by rw [HT.out.2, HSV.out], hr10, ?_, HB5.out, HF5.out⟩
        have := HS5.out
        rw [HT.out.1, HSV.out] at this
        exact this
theorem Sees.takeC {w : World} {ao : Option Addr} {len cap : Nat} {l : List Nat} (h : Sees w (.slice ao len cap) l) (n : Nat) (hn : n ≤ l.length) : Sees w (.slice ao n cap) (l.take n) := by
  obtain ⟨h1, h2⟩ := h.len_eq
  have hok := h.ok
  have hlen := h.len
  have hl : (l.take n).length = n := by simp; omega
  refine ⟨ao, cap, by rw [hl], by omega, by omega, hok.take n, fun e => ?_, fun hp => ?_⟩
  · obtain ⟨ao', cap', h1, _, _, _, hn0, _⟩ := h
    simp only [Value.slice.injEq] at h1
    obtain ⟨rfl, _, rfl⟩ := h1
    exact hn0 e
  · obtain ⟨b, o, ha, hcell⟩ := h.at (by omega)
    refine ⟨b, o, ha, fun i hi => ?_⟩
    rw [hl] at hi
    rw [hcell i (by omega), List.getD_eq_getElem?_getD, List.getD_eq_getElem?_getD, List.getElem?_take_of_lt hi]

theorem pad_one (x : Nat) : pad 1 x = [digB x] := by simp [pad]

set_option maxRecDepth 100000 in
set_option maxHeartbeats 4000000 in
theorem ref_text (v : Value) (l : List Nat) (w : World) (h : Sees w v l) (hl : l.length ≤ 1000) :
    Calls Tryz.prog 56 #[v] w fun e w' => e = .returned (.string ⟨(dec (val l)).toArray⟩) ∧ Below w.heap.size w w' := by
  have hxl := val_lt h.ok
  have hpl := (limbs_prefix h.ok).2
  obtain ⟨i0, hi, hz0, hz1, hz2⟩ := info_parts info_u8
  go_enter Tryz.func56, Tryz.ntmps56
  go_wp2_with fail
  refine (ref_tenth _ _ _ h hl).mono ?_
  rintro e w1 ⟨q, r, rfl, hr, hr10, hq, hb, -⟩
  obtain ⟨x, hx⟩ : ∃ x, x = val l := ⟨_, rfl⟩
  rw [← hx] at hr hq hxl
  have hdig : (48 + (r : Int)) = ((digB x).toNat : Nat) := by rw [digB_val, ← hr]
  have HX := hid hx; have HXL := hid hxl; have HQ := hid hq; have HB := hid hb; have HR := hid hr; have HD := hid hdig
  have hnews := news8 w1 (digB x)
  have HN := hid hnews
  clear hx hxl hq hb h hr hdig hnews
  have hd2 : (48 + (r : Int)) = ((digB x).toNat : Nat) := HD.out
  generalize hdd : (digB x).toNat = dd at hd2 HN
  have HDD := hid hdd
  clear hdd
  go_wp2_with (at_builtin; refine wpList_append_own _ rfl _ _ 103 rfl w.heap.size 5 i0 (.int .u8 0) 1 1 Tryz.underlying103 hi hz0 hz1 hz2 rfl (by decide) _ _ _ rfl (World.ownsRow_nil _ _ _ _) ⟨w1.heap.size, 0, none⟩ 1 1 (enc8 [digB x]) rfl ?ga ?gb ?gc ?gd ?ge ?gf ?_)
  case ga => simp [enc8_length]
  case gb => exact HN.out
  case gc => exact enc8_one _
  case gd => unfold maxLen; omega
  case ge => omega
  case gf => have := HB.out.size; simp; omega
  intro v5 w2 hown hgrow _
  have hb2 : Below w.heap.size w w2 := (HB.out.alloc HB.out.size _).grown hgrow (by rw [Deep.nblk_alloc]; have := HB.out.size; omega) (fun k e => by simp [Value.ownBlock] at e)
  have hq2 : Sees w2 q (limbs (x / 10)) := HQ.out.mono fun p y hy => by
    have hp := World.block_lt_of_cell? w1 p hy
    have h1 := (Below.cell ((Below.refl w1.heap.size w1).alloc (Nat.le_refl _) (.cells #[.int .u8 (dd : Nat)] 5)) hp).trans hy
    exact hgrow.cell h1 (by simp [Value.ownBlock])
  have HO := hid hown; have HB2 := hid hb2; have HQ2 := hid hq2
  clear hown hgrow hb2 hq2 hd2 HN HDD HB HQ
  go_wp2
  go_loopg [3, 4, 5] (x / 10) (fun y v3 v4 v5 wr => ∃ (i : Nat), Hid (Sees wr v3 (limbs y)) ∧ (limbs y).length ≤ 1000 ∧ Hid (y = x / 10 ^ (i + 1)) ∧ i ≤ 32000 ∧ y ≤ x ∧
      Hid (wr.ownsRow w.heap.size 5 1 v5 (i + 1) (enc8 (pad (i + 1) x))) ∧ Hid (i = 0 ∨ 0 < x / 10 ^ i) ∧ Hid (Below w.heap.size w wr))
  case atStart => exact ⟨0, HQ2.out, limbs_length_le' HXL.out hl (Nat.div_le_self _ _), by show _ = _; simp, by omega, Nat.div_le_self _ _, by rw [pad_one]; exact HO.out, .inl rfl, HB2.out⟩
  case round =>
    obtain ⟨i, hq, hyl, hy, hi32, hyx, hown, hex, hb⟩ := hrel
    have hq' := hq.out
    obtain ⟨Q, qc, rfl, -, -, -, -, -⟩ := hq'
    by_cases hy0 : 0 < gk
    · have hlen : 0 < (limbs gk).length := (limbs_last hy0).1
      have hi2 : i + 1 < 32000 := by
        have := digits_le (x := x) (i := i + 1) (L := l.length) (by rw [← hy.out]; exact hy0) HXL.out
        omega
      go_wp2_with fail
      refine (ref_tenth _ _ _ hq.out hyl).mono ?_
      rw [val_limbs]
      rintro e w3 ⟨q', r', rfl, hr', hr10', hs', hb', hf'⟩
      have hdig : (48 + (r' : Int)) = ((digB gk).toNat : Nat) := by rw [digB_val, ← hr']
      have hown3 := owns_below hown.out hb'
      have HLT := hid hown.out.lt; have HF := hid hf'
      clear hf'
      have hb3 := hb.out.trans (hb'.mono hb.out.size)
      have HN := hid (news8 w3 (digB gk)); have HO3 := hid hown3; have HB3 := hid hb3; have HS3 := hid hs'
      have HDG := hid hdig
      clear hown3 hb3 hs' hr' hdig hb' hq hown hb
      have hd2 : (48 + (r' : Int)) = ((digB gk).toNat : Nat) := HDG.out
      generalize hdd : (digB gk).toNat = d3 at hd2 HN
      clear hdd
      go_wp2_with (at_builtin; refine wpList_append_own _ rfl _ _ 103 rfl w.heap.size 5 i0 (.int .u8 0) 1 1 Tryz.underlying103 hi hz0 hz1 hz2 rfl (by decide) _ _ _ rfl (HO3.out.alloc _) ⟨w3.heap.size, 0, none⟩ 1 1 (enc8 [digB gk]) rfl ?ha ?hb ?hc ?hd ?he ?hf ?_)
      case ha => simp [enc8_length]
      case hb => exact HN.out
      case hc => exact enc8_one _
      case hd => unfold maxLen; omega
      case he => omega
      case hf => have := HB3.out.size; simp; omega
      intro v7 w4 hown4 hgrow _
      rw [enc8_append, hy.out, pad_snoc] at hown4
      have hlt := HO3.out.lt
      have hb4 : Below w.heap.size w w4 := (HB3.out.alloc HB3.out.size _).grown hgrow (by rw [Deep.nblk_alloc]; have := HB3.out.size; omega) (fun k e => (hlt k e).1)
      have hs4 : Sees w4 q' (limbs (gk / 10)) := by
        have h1 := HS3.out.below ((Below.refl w3.heap.size w3).alloc (Nat.le_refl _) (.cells #[.int .u8 (d3 : Nat)] 5))
        exact h1.grown' hgrow (fun a n c e e2 => by
          have h2 := HF.out a n c e
          have h3 := (HLT.out a.block e2.symm).2
          omega)
      have HO4 := hid hown4; have HB4 := hid hb4; have HS4 := hid hs4
      clear HLT HF
      have hyn : gk / 10 = x / 10 ^ (i + 1 + 1) := by rw [hy.out, Nat.pow_succ 10 (i + 1), Nat.div_div_eq_div_mul]
      have HY := hid hyn
      have hx0 : i + 1 = 0 ∨ 0 < x / 10 ^ (i + 1) := .inr (by rw [← hy.out]; exact hy0)
      have HX0 := hid hx0
      clear hown4 hgrow hlt hb4 hs4 hyn hx0 hd2 HN HO3 HB3 HS3
      go_wp2
      go_roundg (gk / 10)
      case rel => exact ⟨i + 1, HS4, limbs_length_le' HXL.out hl (by omega), HY, by omega, by omega, HO4, HX0, HB4⟩
      case measure => omega
    · obtain rfl : gk = 0 := by omega
      rename World => wo
      simp only [limbs_zero, List.length_nil]
      obtain ⟨g, cb, rfl, hrow, -, hlc⟩ := owns8_some hown.out (by omega)
      have hpd := pad_dec i x hy.out.symm hex.out
      have hpl1 := pad_length (i + 1) x
      rw [hpl1]
      rw [hpl1] at hlc
      have HPD := hid hpd; have HPL := hid hpl1; have HROW := hid hrow
      have hglt := hrow.lt
      obtain ⟨bs, hbs⟩ : ∃ bs, bs = pad (i + 1) x := ⟨_, rfl⟩
      rw [← hbs] at HPD HPL HROW
      clear hpd hpl1 hrow hbs hown hex hq hy
      go_wp2
      go_loopg [6, 7] (i + 1) (fun n v6 v7 wr => ∃ (j : Nat), n = i + 1 - j ∧ j ≤ i + 1 ∧ v7 = .int .i64 ((i : Int) - j) ∧ Hid (wr.ownsRow wo.heap.size 5 1 v6 j (enc8 (bs.reverse.take j))) ∧ Hid (Row8 wr g bs) ∧ Hid (Below w.heap.size w wr) ∧ Hid (wo.heap.size ≤ wr.heap.size))
      case atStart => exact ⟨0, by omega, by omega, by simp, World.ownsRow_nil wo wo.heap.size 5 1, HROW, hb, Nat.le_refl _⟩
      case round =>
        obtain ⟨j, hgk, hj, rfl, ho6, hr8, hb6, hsz6⟩ := hrel
        have HGK := hid hgk
        clear hgk
        by_cases hjn : j < i + 1
        · have hca := hr8.out.cell (i := i - j) (by have := HPL.out; omega)
          have htk : bs.reverse.take j ++ [bs.getD (i - j) 0] = bs.reverse.take (j + 1) := by
            rw [List.take_succ_eq_append_getElem (by rw [List.length_reverse, HPL.out]; exact hjn)]
            congr 2
            rw [List.getElem_reverse, List.getD_eq_getElem?_getD, List.getElem?_eq_getElem (by have := HPL.out; omega)]
            simp only [Option.getD_some]
            congr 1
            have := HPL.out; omega
          have HTK := hid htk
          clear htk
          generalize bs.getD (i - j) 0 = cc at *
          have HN := hid (news8 wr cc)
          generalize hdd : cc.toNat = dd2 at *
          have hlt6 := hid ho6.out.lt
          clear hdd
          go_wp2_with (at_builtin; refine wpList_append_own _ rfl _ _ 103 rfl wo.heap.size 5 i0 (.int .u8 0) 1 1 Tryz.underlying103 hi hz0 hz1 hz2 rfl (by decide) _ _ _ rfl (ho6.out.alloc _) ⟨wr.heap.size, 0, none⟩ 1 1 (enc8 [cc]) rfl ?ka ?kb ?kc ?kd ?ke ?kf ?_)
          case ka => simp [enc8_length]
          case kb => exact HN.out
          case kc => exact enc8_one _
          case kd => unfold maxLen; omega
          case ke => omega
          case kf => have := hsz6.out; simp; omega
          intro v7 w4 hown4 hgrow _
          rw [enc8_append, HTK.out] at hown4
          have hb4 : Below w.heap.size w w4 := (hb6.out.alloc hb6.out.size _).grown hgrow (by rw [Deep.nblk_alloc]; have := hb6.out.size; omega) (fun k e => by have h1 := (hlt6.out k e).1; have h2 := hb.out.size; omega)
          have hr4 : Row8 w4 g bs := (hr8.out.of_block (w' := wr.alloc (.cells #[.int .u8 (dd2 : Nat)] 5)) (Deep.blk_alloc_lt _ _ _ hr8.out.lt)).grown hgrow (fun e => by have h1 := (hlt6.out g e.symm).1; omega)
          have hs4 : wo.heap.size ≤ w4.heap.size := by have h1 := hgrow.size; have h2 := hsz6.out; rw [Deep.nblk_alloc] at h1; omega
          have H1 := hid hown4; have H2 := hid hb4; have H3 := hid hr4; have H4 := hid hs4
          clear hown4 hgrow hb4 hr4 hs4 hlt6 HN
          go_wp2
          go_roundg (i + 1 - (j + 1))
          case rel => exact ⟨j + 1, rfl, by omega, by go_num, H1, H3, H2, H4⟩
          case measure => have := HGK.out; omega
        · obtain rfl : j = i + 1 := by omega
          obtain ⟨g6, c6, rfl, hrow6, -, hlc6⟩ := owns8_some ho6.out (by omega)
          have hrv : bs.reverse.take (i + 1) = dec x := by rw [List.take_of_length_le (by rw [List.length_reverse, HPL.out]; exact Nat.le_refl _), HPD.out]
          rw [hrv] at hrow6
          rw [hrv]
          have hcv := run_convert_bytes_back (P := Tryz.prog) wr 103 9 5 ⟨g6, 0, none⟩ c6 (dec x) Tryz.underlying103 Tryz.underlying5 Tryz.underlying9 (fun j hj => by
            have hadd : (⟨g6, 0, none⟩ : Addr).add j = ⟨g6, j, none⟩ := by simp [Addr.add]; omega
            rw [hadd, hrow6.cell hj, List.getD_eq_getElem?_getD, List.getElem?_eq_getElem hj]; rfl)
          clear hrow6 hrv hlc6 ho6
          go_wp2
          go_ret
          exact ⟨by rw [HX.out]; rfl, hb6.out⟩
end Go.Proofs.YtjnbonellgpjnaaGreat

set_option linter.unusedVariables false
set_option linter.unusedSimpArgs false
namespace Go.Proofs.YtjnbonellgpjnaaGreat
open Go.RowKit

/-- The sign of a whole number. -/
def sgnI (z : Int) : Int := if z < 0 then -1 else if z = 0 then 0 else 1
theorem sgnI_zval (n : Bool) (l : List Nat) : sgnI (zval n l) = if val l = 0 then 0 else if n then -1 else 1 := by
  unfold sgnI zval
  by_cases h : val l = 0
  · rw [if_pos h]; cases n <;> simp [h]
  · rw [if_neg h]; cases n
    · simp
      rw [if_neg (by omega), if_neg (by omega)]
    · simp
      omega

theorem box_below {w : World} (n : Bool) (s : Value) : Below w.heap.size w (w.alloc (.cells #[.bool n, s] 24)) := (Below.refl _ w).alloc (Nat.le_refl _) _

set_option maxHeartbeats 1000000 in
theorem whole_sign {v : Value} {n : Bool} {l : List Nat} {w : World} (h : SeesZ w v n l) :
    Calls Tryz.prog 60 #[v] w fun e w' => e = .returned (.int .i64 (sgnI (zval n l))) ∧ Below w.heap.size w w' := by
  obtain ⟨m, rfl, hm⟩ := h
  have HC := hid (whole_isZero (hm.below (box_below n m)))
  have hs := sgnI_zval n l
  obtain ⟨z, hz⟩ : ∃ z, sgnI (zval n l) = z := ⟨_, rfl⟩
  rw [hz] at hs ⊢
  have HZ := hid hs
  obtain ⟨ao, cap, rfl, -, -, -, -, -⟩ := hm
  have HB := hid (box_below (w := w) n (.slice ao l.length cap))
  clear hs hz
  go_enter Tryz.func60, Tryz.ntmps60
  go_wp2_with fail
  refine HC.out.mono ?_
  rintro e w' ⟨rfl, rfl⟩
  by_cases h0 : val l = 0
  · have hz := HZ.out
    rw [if_pos h0] at hz
    subst hz
    rw [show decide (val l = 0) = true by simp [h0]]
    clear h0
    go_wp2
    go_ret
    exact ⟨rfl, HB.out⟩
  · have hz := HZ.out
    rw [if_neg h0] at hz
    rw [show decide (val l = 0) = false by simp [h0]]
    clear h0 HZ HC
    cases n
    · simp only [Bool.false_eq_true, if_false] at hz
      subst hz
      go_wp2
      go_ret
      exact ⟨rfl, HB.out⟩
    · simp only [if_true] at hz
      subst hz
      go_wp2
      go_ret
      exact ⟨rfl, HB.out⟩

set_option maxHeartbeats 1000000 in
theorem ref_sign {v : Value} {n : Bool} {l : List Nat} {w : World} (h : SeesZ w v n l) (hl : l.length ≤ 35184372088832) :
    Calls Tryz.prog 20 #[v] w fun e w' => e = .returned (.int .i64 (sgnI (zval n l))) ∧ Below w.heap.size w w' := by
  obtain ⟨m, rfl, hm⟩ := h
  have HC := hid (ref_bits m l _ (hm.below (box_below n m)) hl)
  have hs := sgnI_zval n l
  obtain ⟨z, hz⟩ : ∃ z, sgnI (zval n l) = z := ⟨_, rfl⟩
  rw [hz] at hs ⊢
  have HZ := hid hs
  obtain ⟨ao, cap, rfl, -, -, -, -, -⟩ := hm
  have HB := hid (box_below (w := w) n (.slice ao l.length cap))
  have HX := hid (Box.new w (.bool n) (.slice ao l.length cap) 24)
  have hbz := bits_zero (val l)
  obtain ⟨nb, hnb⟩ : ∃ nb, bitsN (val l) = nb := ⟨_, rfl⟩
  rw [hnb] at HC hbz
  have HBZ := hid hbz
  clear hs hz hnb hbz
  go_enter Tryz.func20, Tryz.ntmps20
  go_wp2_with fail
  refine HC.out.mono ?_
  rintro e w2 ⟨rfl, hb2⟩
  have HX2 := hid (HX.out.below hb2)
  have HB2 := hid (HB.out.trans (hb2.mono HB.out.size))
  obtain ⟨c0, c1, f0, f1⟩ := HX2.out.cells
  clear hb2 HX HB HC
  by_cases h0 : val l = 0
  · have hz := HZ.out
    rw [if_pos h0] at hz
    subst hz
    have hn0 : nb = 0 := by have := HBZ.out.2 h0; omega
    subst hn0
    clear h0
    go_wp2
    go_ret
    exact ⟨rfl, HB2.out⟩
  · have hz := HZ.out
    rw [if_neg h0] at hz
    have hn0 : ¬ (nb : Int) = 0 := fun e => h0 (HBZ.out.1 e)
    have hn1 : 0 < nb := by omega
    clear h0 HZ hn0
    cases n
    · simp only [Bool.false_eq_true, if_false] at hz
      subst hz
      go_wp2
      go_ret
      exact ⟨rfl, HB2.out⟩
    · simp only [if_true] at hz
      subst hz
      go_wp2
      go_ret
      exact ⟨rfl, HB2.out⟩
end Go.Proofs.YtjnbonellgpjnaaGreat
