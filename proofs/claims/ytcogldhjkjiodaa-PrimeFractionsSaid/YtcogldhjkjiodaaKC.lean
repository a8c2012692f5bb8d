/- Whole numbers in memory: a struct of a sign and a list of limbs; the numbers that they say. whole.isZero, whole.signed, the document's Make, Same by their contracts. whole.Plain, Neg, Sign by their contracts; the document's. The document's Add by its contract. The document's tenth and Text by their contracts; the statements' 'short'. whole.Sign, whole.Text by their contracts; the document's; the statements' short. -/
import Derived.Test.YtcogldhjkjiodaaKB
import Derived.Lib.SmallJoins
import Derived.ChangeArms
import Derived.Test.YtcogldhjkjiodaaKA
set_option linter.unusedVariables false
set_option linter.unusedSimpArgs false
namespace Go.Proofs.Ytcogldhjkjiodaa
open Go.ChangeShapes Go.WideShapes Go.ChangeAt Go.RowKit Go.Joins

/-- The whole number that a sign and a list of limbs say. -/
def zval (n : Bool) (l : List Nat) : Int := if n then -(val l : Int) else (val l : Int)
/-- v reads as the sign n and the limbs l. -/
def SeesZ (w : World) (v : Value) (n : Bool) (l : List Nat) : Prop := ∃ m, v = .agg #[.bool n, m] ∧ Sees w m l
/-- The sign and the limbs of a plain whole number. -/
def zneg (z : Int) : Bool := decide (z < 0)
def zlim (z : Int) : List Nat := limbs z.natAbs
/-- v is the plain whole number z. -/
def IsZ (w : World) (v : Value) (z : Int) : Prop := SeesZ w v (zneg z) (zlim z)

theorem zval_plain (z : Int) : zval (zneg z) (zlim z) = z := by
  unfold zval zneg zlim
  rw [val_limbs]
  by_cases h : z < 0
  · rw [if_pos (by simp [h])]; omega
  · rw [if_neg (by simp [h])]; omega
theorem zlim_ok (z : Int) : Ok (zlim z) := limbs_ok _
theorem val_zlim (z : Int) : val (zlim z) = z.natAbs := val_limbs _
theorem zval_abs (n : Bool) (l : List Nat) : (zval n l).natAbs = val l := by
  unfold zval; cases n <;> simp
theorem zval_true (l : List Nat) : zval true l = -(val l : Int) := rfl
theorem zval_false (l : List Nat) : zval false l = (val l : Int) := rfl
theorem zval_neg_iff (n : Bool) (l : List Nat) : zval n l < 0 ↔ n = true ∧ 0 < val l := by
  cases n
  · rw [zval_false]
    constructor
    · intro h; omega
    · rintro ⟨h, _⟩; cases h
  · rw [zval_true]
    constructor
    · intro h; exact ⟨rfl, by omega⟩
    · rintro ⟨_, h⟩; omega
theorem zval_zero_iff (n : Bool) (l : List Nat) : zval n l = 0 ↔ val l = 0 := by
  cases n
  · rw [zval_false]; omega
  · rw [zval_true]; omega

theorem SeesZ.below {w w' : World} {v : Value} {n : Bool} {l : List Nat} (h : SeesZ w v n l) (hb : Below w.heap.size w w') : SeesZ w' v n l := by
  obtain ⟨m, rfl, hm⟩ := h
  exact ⟨m, rfl, hm.below hb⟩
theorem SeesZ.ok {w : World} {v : Value} {n : Bool} {l : List Nat} (h : SeesZ w v n l) : Ok l := by obtain ⟨_, _, hm⟩ := h; exact hm.ok
theorem IsZ.below {w w' : World} {v : Value} {z : Int} (h : IsZ w v z) (hb : Below w.heap.size w w') : IsZ w' v z := SeesZ.below h hb
theorem IsZ.sees {w : World} {v : Value} {z : Int} (h : IsZ w v z) : SeesZ w v (zneg z) (zlim z) := h

/-- What 'signed' makes of a sign and a plain magnitude. -/
theorem isZ_of {w : World} {m : Value} {x : Nat} (h : Sees w m (limbs x)) (n : Bool) (z : Int) (hz : z = if n then -(x : Int) else (x : Int)) : IsZ w (.agg #[.bool (n && decide (x ≠ 0)), m]) z := by
  refine ⟨m, ?_, ?_⟩
  · have : (n && decide (x ≠ 0)) = zneg z := by
      subst hz
      unfold zneg
      cases n
      · simp <;> omega
      · by_cases h0 : x = 0
        · simp [h0]
        · simp [h0]; omega
    rw [this]
  · have : zlim z = limbs x := by
      subst hz
      unfold zlim
      cases n <;> simp
    rw [this]; exact h

/-- A struct of a sign and limbs that came in. -/
theorem open_cells {H : Type} {enc : TypeId × Value → H} {W : World} {v : Value} {d : DataW H} {ps : List MemPlace} {fuel : Nat}
    (hf : DataW.trod enc Try.prog W 0 (fun _ => true) true fuel 22 [v] = some (d, ps)) (hsz : ∀ elems spare, d = .slice elems spare → (elems.length + spare.length) * Try.prog.bytesOf 64 ≤ reachBytes) :
    ∃ l, Sees W v l ∧ l.length ≤ 35184372087808 := by
  rcases open_ints Try.underlying22 Try.underlying64 cells_u32 hf with ⟨hcs, hx⟩ | ⟨a, len', cap', zs, hcs, _, hl, hm, hz, hx, hcell, hwz⟩
  · simp only [List.cons.injEq, and_true] at hcs
    subst hcs
    exact ⟨[], Sees.nil W, by simp⟩
  · simp only [List.cons.injEq, and_true] at hcs
    subst hcs
    simp only [if_true] at hz
    have hd : d = .slice (lits .u32 (zs.take len')) (lits .u32 (zs.drop len')) := congrArg Prod.fst hx
    have hsz2 := hsz _ _ hd
    rw [bytes_u32] at hsz2
    simp only [lits, List.length_map, List.length_take, List.length_drop, reachBytes] at hsz2
    have hrange : ∀ i, 0 ≤ zs.getD i 0 ∧ zs.getD i 0 < 4294967296 := fun i => by
      rw [List.getD_eq_getElem?_getD]
      cases e : zs[i]? with
      | none => decide
      | some z =>
        have := hwz z (List.mem_of_getElem? e)
        simp [Lit.wf, IntKind.min, IntKind.max, IntKind.signed, IntKind.bits] at this
        simp only [Option.getD_some]
        omega
    have hlen : ((zs.take len').map Int.toNat).length = len' := by simp; omega
    refine ⟨(zs.take len').map Int.toNat, ⟨some a, cap', by rw [hlen], by omega, by omega, ?_, (fun e => by cases e), fun hp => ?_⟩, by omega⟩
    · intro x hx'
      obtain ⟨z, hz', rfl⟩ := List.mem_map.1 hx'
      obtain ⟨i, hi, rfl⟩ := List.getElem_of_mem (List.mem_of_mem_take hz')
      have := hrange i
      rw [List.getD_eq_getElem?_getD, List.getElem?_eq_getElem hi] at this
      simp only [Option.getD_some] at this
      omega
    · obtain ⟨b, off, rfl, hc⟩ := ints_at hcell (by omega)
      refine ⟨b, off, rfl, fun i hi => ?_⟩
      rw [hc i (by omega)]
      have e : ((((zs.take len').map Int.toNat).getD i 0 : Nat) : Int) = zs.getD i 0 := by
        have h1 := (hrange i).1
        rw [List.getD_eq_getElem?_getD, List.getElem?_map, List.getElem?_take_of_lt (by omega)]
        rw [List.getD_eq_getElem?_getD] at h1 ⊢
        cases e2 : zs[i]? with
        | none => simp
        | some z => rw [e2] at h1; simp at h1 ⊢; omega
      rw [e]

/-- The size of a list in a field. -/
theorem sized_part {H : Type} {P : Program} {ts : List TypeId} {ds : List (DataW H)} (h : (DataW.weightsEach P ts ds).all (· ≤ reachBytes) = true) {j : Nat} {t : TypeId} {parts : List (DataW H)} (ht : ts[j]? = some t) (hd : ds[j]? = some (.agg parts))
    (fs : Array Field) (hu : P.underlying t = some (.struct fs)) (k : Nat) (tf e : TypeId) (hk : (fs.toList.map (·.type))[k]? = some tf) (he : P.underlying tf = some (.slice e)) (elems spare : List (DataW H)) (hp : parts[k]? = some (.slice elems spare)) :
    (elems.length + spare.length) * P.bytesOf e ≤ reachBytes := by
  have hw : (elems.length + spare.length) * P.bytesOf e ∈ DataW.weightsEach P (fs.toList.map (·.type)) parts :=
    DataW.weights_mem_each hk hp _ (by simp [DataW.weights, he])
  have := List.all_eq_true.1 h _ (DataW.weights_mem_each ht hd _ (by simp [DataW.weights, hu]; exact hw))
  simpa using this

theorem fields_z : ∃ f0 f1 : Field, Try.prog.underlying 24 = some (.struct #[f0, f1]) ∧ Go.Deep.oneCellFields Try.prog #[f0, f1] = true ∧ Try.prog.cellsOf 24 = 2 ∧ f0.type = 4 ∧ f1.type = 22 :=
  ⟨_, _, Try.underlying24, by kernel_rfl, by kernel_rfl, rfl, rfl⟩

set_option maxRecDepth 100000 in
/-- A whole number that came in. -/
theorem open_z {H : Type} {enc : TypeId × Value → H} {W : World} {base : Nat} {v : Value} {d : DataW H} {ps : List MemPlace}
    (hval : Value.okWide Try.prog W .any base 24 v) (h : DataW.Trod enc Try.prog W 0 (fun _ => true) true 24 v d ps)
    (hsz : ∀ parts, d = .agg parts → ∀ (fs : Array Field), Try.prog.underlying 24 = some (.struct fs) → ∀ (k : Nat) (tf e : TypeId), (fs.toList.map (·.type))[k]? = some tf → Try.prog.underlying tf = some (.slice e) → ∀ elems spare, parts[k]? = some (.slice elems spare) → (elems.length + spare.length) * Try.prog.bytesOf e ≤ reachBytes) :
    ∃ n l, SeesZ W v n l ∧ l.length ≤ 35184372087808 := by
  obtain ⟨f0, f1, hu, hone, hC, ht0, ht1⟩ := fields_z
  obtain ⟨v0, v1, y0, y1, n, rfl, rfl, rfl, t0, t1⟩ := open_agg2 hu hone hC hval h
  rw [ht0] at t0
  rw [ht1] at t1
  obtain ⟨b, hb, -⟩ := DataW.trod_bool Try.underlying4 t0
  simp only [List.cons.injEq, and_true] at hb
  subst hb
  obtain ⟨l, hs, hl⟩ := open_cells (d := y1.1) (ps := y1.2) t1 (fun elems spare e => hsz _ rfl _ hu 1 22 64 (by simp [ht1]) Try.underlying22 elems spare (by simp [e]))
  exact ⟨b, l, ⟨v1, rfl, hs⟩, hl⟩
end Go.Proofs.Ytcogldhjkjiodaa

set_option linter.unusedVariables false
set_option linter.unusedSimpArgs false
namespace Go.Proofs.Ytcogldhjkjiodaa
open Go.RowKit

theorem bits_zero (x : Nat) : ((bitsN x : Nat) : Int) = 0 ↔ x = 0 := by
  unfold bitsN
  by_cases h : x = 0
  · simp [h]
  · rw [if_neg h]; constructor
    · intro h2; omega
    · intro h2; exact absurd h2 h

theorem whole_isZero {m : Value} {l : List Nat} {w : World} (h : Sees w m l) :
    Calls Try.prog 57 #[m] w fun e w' => e = .returned (.bool (decide (val l = 0))) ∧ w = w' := by
  have hb := bits_zero (val l)
  have HC := hid (nat_bits' h)
  obtain ⟨n, hn⟩ : ∃ n, bitsN (val l) = n := ⟨_, rfl⟩
  rw [hn] at HC hb
  have HB := hid hb
  clear hb hn h
  go_enter Try.func57, Try.ntmps57
  go_wp2_with fail
  refine HC.out.mono ?_
  rintro e w' ⟨rfl, rfl⟩
  go_wp2
  go_ret
  refine ⟨?_, rfl⟩
  by_cases h : val l = 0
  · have := HB.out.2 h
    simp [h, this]
  · have : ¬ (n : Int) = 0 := fun e => h (HB.out.1 e)
    simp [h]
    omega

/-- The answer is the plain whole number z; what was there is as it was. -/
def IsInt (w : World) (z : Int) (e : Ending) (w' : World) : Prop := ∃ v, e = .returned v ∧ IsZ w' v z ∧ Below w.heap.size w w'

theorem whole_signed (neg : Bool) (x : Nat) {m : Value} {w : World} (h : Sees w m (limbs x)) (z : Int) (hz : z = if neg then -(x : Int) else (x : Int)) :
    Calls Try.prog 61 #[.bool neg, m] w fun e w' => IsInt w z e w' := by
  have HS := hid h
  have HZ := hid hz
  have HC := hid (whole_isZero (w := w.alloc (.cells #[.bool false, .slice none 0 0] 24)) (h.below ((Below.refl _ w).alloc (Nat.le_refl _) _)))
  rw [val_limbs] at HC
  obtain ⟨ao, cap, rfl, -, -, -, -, -⟩ := h
  clear hz
  go_enter Try.func61, Try.ntmps61
  cases neg
  · go_wp2
    refine bodyPost_ret (v := .agg #[.bool false, .slice ao (limbs x).length cap]) (by simp [results, Try.results61, go_sem]) rfl ?_
    have hb := (Below.refl w.heap.size w).alloc (Nat.le_refl _) (.cells #[.bool false, .slice ao (limbs x).length cap] 24)
    exact ⟨_, rfl, isZ_of (HS.out.below hb) false z HZ.out, hb⟩
  · go_wp2_with fail
    refine HC.out.mono ?_
    rintro e w' ⟨rfl, rfl⟩
    have eb : (true && decide (x ≠ 0)) = !decide (x = 0) := by by_cases h : x = 0 <;> simp [h]
    have HEB := hid eb
    clear eb
    obtain ⟨b, hb⟩ : ∃ b, decide (x = 0) = b := ⟨_, rfl⟩
    rw [hb] at HEB ⊢
    clear hb HC
    go_wp2
    refine bodyPost_ret (v := .agg #[.bool (!b), .slice ao (limbs x).length cap]) (by simp [results, Try.results61, go_sem]) rfl ?_
    have hb := (Below.refl w.heap.size w).alloc (Nat.le_refl _) (.cells #[.bool (!b), .slice ao (limbs x).length cap] 24)
    have hz := isZ_of (HS.out.below hb) true z HZ.out
    rw [HEB.out] at hz
    exact ⟨_, rfl, hz, hb⟩
end Go.Proofs.Ytcogldhjkjiodaa

set_option linter.unusedVariables false
set_option linter.unusedSimpArgs false
namespace Go.Proofs.Ytcogldhjkjiodaa
open Go.RowKit

/-- A struct of two cells in a block of its own. -/
def Box (w : World) (g : Nat) (a b : Value) : Prop := ∃ t, w.heap[g]? = some (.cells #[a, b] t (0, 0))
theorem Box.new (w : World) (a b : Value) (t : TypeId) : Box (w.alloc (.cells #[a, b] t)) w.heap.size a b := ⟨t, Deep.blk_alloc_new w _⟩
theorem Box.cells {w : World} {g : Nat} {a b : Value} (h : Box w g a b) : w.cell? ⟨g, 0, none⟩ = some a ∧ w.cell? ⟨g, 1, none⟩ = some b ∧ w.frozen? ⟨g, 0, none⟩ = false ∧ w.frozen? ⟨g, 1, none⟩ = false := by
  obtain ⟨t, h⟩ := h
  refine ⟨?_, ?_, ?_, ?_⟩
  · simp only [World.cell?, h]; rfl
  · simp only [World.cell?, h]; rfl
  · simp only [World.frozen?, h]; rfl
  · simp only [World.frozen?, h]; rfl
theorem Box.lt {w : World} {g : Nat} {a b : Value} (h : Box w g a b) : g < w.heap.size := World.block_lt_of_cell? w _ h.cells.1
theorem Box.below {w w' : World} {g : Nat} {a b : Value} (h : Box w g a b) (hb : Below w.heap.size w w') : Box w' g a b := by
  have hlt := h.lt
  obtain ⟨t, h⟩ := h
  exact ⟨t, (hb.block g hlt).trans h⟩
theorem Box.alloc {w : World} {g : Nat} {a b : Value} (h : Box w g a b) (o : Obj) : Box (w.alloc o) g a b := h.below ((Below.refl _ w).alloc (Nat.le_refl _) o)
/-- Both cells stored. -/
theorem Box.set {w : World} {g : Nat} {a b : Value} (h : Box w g a b) (a' b' : Value) : Box ((w.setCell ⟨g, 0, none⟩ a').setCell ⟨g, 1, none⟩ b') g a' b' := by
  obtain ⟨t, h⟩ := h
  refine ⟨t, ?_⟩
  simp [World.setCell, Array.getElem?_modify, h]
theorem Box.grown {w : World} {g : Nat} (a' b' : Value) : w.grownBy ((w.setCell ⟨g, 0, none⟩ a').setCell ⟨g, 1, none⟩ b') (some g) := grownBy_set (grownBy_set (World.grownBy.refl _ _) _ _) _ _
/-- No limbs lie in it. -/
theorem Sees.box {w : World} {g : Nat} {n : Bool} {ao : Option Addr} {len cap : Nat} {v : Value} {l : List Nat} (h : Sees w v l) (hb : Box w g (.bool n) (.slice ao len cap)) (a' b' : Value) : Sees ((w.setCell ⟨g, 0, none⟩ a').setCell ⟨g, 1, none⟩ b') v l := by
  obtain ⟨ao', cap', rfl, h2, h3, h4, hn0, h5⟩ := h
  refine ⟨ao', cap', rfl, h2, h3, h4, hn0, fun hp => ?_⟩
  obtain ⟨b, o, rfl, hcell⟩ := h5 hp
  refine ⟨b, o, rfl, fun i hi => (Box.grown a' b').cell (hcell i hi) ?_⟩
  have hc := hcell i hi
  intro e
  obtain ⟨t, hb⟩ := hb
  simp at e
  subst e
  simp only [World.cell?, hb] at hc
  match hoi : o + i with
  | 0 => rw [hoi] at hc; simp at hc
  | 1 => rw [hoi] at hc; simp at hc
  | k + 2 => rw [hoi] at hc; simp at hc
theorem IsZ.box {w : World} {g : Nat} {n : Bool} {ao : Option Addr} {len cap : Nat} {v : Value} {z : Int} (h : IsZ w v z) (hb : Box w g (.bool n) (.slice ao len cap)) (a' b' : Value) : IsZ ((w.setCell ⟨g, 0, none⟩ a').setCell ⟨g, 1, none⟩ b') v z := by
  obtain ⟨m, rfl, hm⟩ := h
  exact ⟨m, rfl, hm.box hb a' b'⟩
theorem below_box {a w : World} {g B : Nat} (h : Below B a w) (hg : B ≤ g) (hB : B ≤ w.heap.size) (a' b' : Value) : Below B a ((w.setCell ⟨g, 0, none⟩ a').setCell ⟨g, 1, none⟩ b') :=
  h.grown (Box.grown a' b') hB (fun k e => by simp at e; omega)

set_option maxRecDepth 100000 in
set_option maxHeartbeats 1000000 in
theorem whole_plain {v : Value} {n : Bool} {l : List Nat} {w : World} (h : SeesZ w v n l) (hl : l.length ≤ 35184372088832) :
    Calls Try.prog 69 #[v] w fun e w' => IsInt w (zval n l) e w' := by
  obtain ⟨m, rfl, hm⟩ := h
  have HM := hid hm
  obtain ⟨ao, cap, rfl, -, -, -, -, -⟩ := hm
  go_enter Try.func69, Try.ntmps69
  go_wp2_with fail
  obtain ⟨g, hg⟩ : ∃ g, g = w.heap.size := ⟨_, rfl⟩
  obtain ⟨r, hr⟩ : ∃ r, r = w.heap.size + 1 := ⟨_, rfl⟩
  obtain ⟨w0, hw0⟩ : ∃ x, x = (w.alloc (.cells #[.bool n, .slice ao l.length cap] 24)).alloc (.cells #[.bool false, .slice none 0 0] 24) := ⟨_, rfl⟩
  have B0 : Hid (Below w.heap.size w w0) := by rw [hw0]; exact ((Below.refl _ w).alloc (Nat.le_refl _) _).alloc (by simp) _
  have X0 : Box w0 g (.bool n) (.slice ao l.length cap) := by rw [hw0, hg]; exact (Box.new w _ _ _).alloc _
  have Y0 : Box w0 r (.bool false) (.slice none 0 0) := by
    rw [hw0, hr]
    have := Box.new (w.alloc (.cells #[.bool n, .slice ao l.length cap] 24)) (.bool false) (.slice none 0 0) 24
    rwa [Deep.nblk_alloc] at this
  have HM0 := hid (HM.out.below B0.out)
  have HG : Hid (w.heap.size ≤ g ∧ w.heap.size ≤ r) := by constructor <;> omega
  rw [← hw0, ← hr, ← hg]
  clear hw0 hr hg HM
  have HX0 := hid X0; have HY0 := hid Y0
  obtain ⟨c0, c1, f0, f1⟩ := X0.cells
  obtain ⟨d0, d1, k0, k1⟩ := Y0.cells
  clear X0 Y0
  go_region_with (first
    | (go_at_call 70; refine (nat_plain' (by exact HM0.out) hl).mono ?_; rintro e w1 ⟨v1, rfl, hs1, hb1⟩
       have HX1 := hid (Box.below (by exact HX0.out) hb1); have HY1 := hid (Box.below (by exact HY0.out) hb1)
       have B1 := hid (B0.out.drew.trans (Below.mono hb1 B0.out.drew.size))
       have HS1 := hid hs1
       obtain ⟨c0', c1', f0', f1'⟩ := HX1.out.cells
       clear hs1 hb1 c0 c1 f0 f1 d0 d1 k0 k1)
    | (go_at_call 61; refine (whole_signed n (val l) (by exact HS1.out) (zval n l) rfl).mono ?_; rintro e w2 ⟨v2, rfl, hz2, hb2⟩
       have HY2 := hid (Box.below (by exact HY1.out) hb2)
       have B2 := hid (B1.out.trans (Below.mono hb2 B1.out.size))
       have HZ2 := hid hz2
       obtain ⟨m2, rfl, hm2⟩ := hz2
       obtain ⟨ao2, cap2, rfl, -, -, -, -, -⟩ := hm2
       obtain ⟨d0', d1', k0', k1'⟩ := HY2.out.cells
       have hlt := HY2.out.lt
       clear hb2))
  all_goals
    have HY3 := hid (HY2.out.set (.bool (zneg (zval n l))) (.slice ao2 (zlim (zval n l)).length cap2))
    have HZ3 := hid (HZ2.out.box HY2.out (.bool (zneg (zval n l))) (.slice ao2 (zlim (zval n l)).length cap2))
    have B3 := hid (below_box B2.out HG.out.2 B2.out.size (.bool (zneg (zval n l))) (.slice ao2 (zlim (zval n l)).length cap2))
    obtain ⟨e0, e1, -, -⟩ := HY3.out.cells
    go_wp2
    refine bodyPost_ret (v := .agg #[.bool (zneg (zval n l)), .slice ao2 (zlim (zval n l)).length cap2]) ?_ rfl ⟨_, rfl, HZ3.out, B3.out⟩
    simp [results, Try.results69, go_sem, e0, e1]
end Go.Proofs.Ytcogldhjkjiodaa

set_option linter.unusedVariables false
set_option linter.unusedSimpArgs false
namespace Go.Proofs.Ytcogldhjkjiodaa
open Go.RowKit

theorem owns_sees {w : World} {base n : Nat} {v : Value} {l : List Nat} (h : w.ownsRow base 64 1 v n (enc l)) (hok : Ok l) (hl : l.length ≤ 70368744177664) : Sees w v l := by
  by_cases e : v = .slice none 0 0
  · have hl0 : l = [] := by
      rcases h.2 with ⟨_, h2⟩ | ⟨g, cap, cur, h2, _⟩
      · have := h.1; rw [enc_length, h2] at this; exact List.eq_nil_of_length_eq_zero (by omega)
      · rw [e] at h2; cases h2
    rw [e, hl0]; exact Sees.nil w
  · obtain ⟨g, cap, rfl, hr, _, hc, _⟩ := owns_some h e
    have := hr.sees hok 0 l.length cap (by omega) hc hl
    simpa using this

/-- What the reference's sum has told behind k limbs. -/
def SumTo (l m t : List Nat) (k c : Nat) : Prop := t.length = k ∧ Ok t ∧ val t + 4294967296 ^ k * c = valF (fun i => l.getD i 0) k + valF (fun i => m.getD i 0) k
theorem SumTo.step {l m t : List Nat} {k c : Nat} (h : SumTo l m t k c) (s d : Nat) (hs : s < 4294967296) (e : c + l.getD k 0 + m.getD k 0 = s + 4294967296 * d) : SumTo l m (t ++ [s]) (k + 1) d := by
  obtain ⟨h1, h2, h3⟩ := h
  refine ⟨by simp [h1], h2.append (Ok.cons hs Ok.nil), ?_⟩
  rw [val_append, h1, val_cons, val_nil, Nat.mul_zero, Nat.add_zero]
  simp only [valF]
  have e2 := congrArg (4294967296 ^ k * ·) e
  simp only [Nat.mul_add] at e2
  rw [Nat.pow_succ, Nat.mul_assoc]
  omega

set_option maxHeartbeats 4000000 in
theorem ref_add (a b : Option Addr) (ca cb : Nat) (l m : List Nat) (w : World) (ha : Sees w (.slice a l.length ca) l) (hb : Sees w (.slice b m.length cb) m) (hl : l.length ≤ 35184372088000) (hm : m.length ≤ 35184372088000) :
    Calls Try.prog 34 #[.slice a l.length ca, .slice b m.length cb] w fun e w' => IsNum w (val l + val m) e w' := by
  have HA := hid ha; have HB := hid hb
  clear ha hb
  obtain ⟨i0, hi, hz0, hz1, hz2⟩ := info_parts info_u32
  go_enter Try.func34, Try.ntmps34
  go_wp2
  go_loopg [5, 6, 7] (2 * max l.length m.length) (fun n v5 v6 v7 wr => ∃ (k c : Nat) (t : List Nat), n = 2 * (max l.length m.length - k) + c ∧ k + c ≤ max l.length m.length + 1 ∧ v7 = .int .i64 k ∧ v6 = .int .u64 c ∧ c ≤ 1 ∧ Hid (SumTo l m t k c) ∧ Hid (wr.ownsRow w.heap.size 64 1 v5 k (enc t)) ∧ Hid (Below w.heap.size w wr))
  case atStart => exact ⟨0, 0, [], by omega, by omega, rfl, rfl, by omega, ⟨rfl, Ok.nil, by simp [val_nil, valF]⟩, World.ownsRow_nil _ _ _ _, Below.refl _ _⟩
  case round =>
    obtain ⟨k, c, t, hn, hkc, rfl, rfl, hc1, hsum, hown, hbel⟩ := hrel
    have H1 : k < l.length → ∃ b1 o1, a = some ⟨b1, o1, none⟩ ∧ wr.cell? ⟨b1, o1 + k, none⟩ = some (.int .u32 (l.getD k 0 : Nat)) := fun h => by
      obtain ⟨b1, o1, e, hc⟩ := (HA.out.below hbel.out).at (by omega)
      exact ⟨b1, o1, e, hc _ h⟩
    have H2 : k < m.length → ∃ b1 o1, b = some ⟨b1, o1, none⟩ ∧ wr.cell? ⟨b1, o1 + k, none⟩ = some (.int .u32 (m.getD k 0 : Nat)) := fun h => by
      obtain ⟨b1, o1, e, hc⟩ := (HB.out.below hbel.out).at (by omega)
      exact ⟨b1, o1, e, hc _ h⟩
    have z1 : ¬ k < l.length → l.getD k 0 = 0 := fun h => by rw [List.getD_eq_getElem?_getD, List.getElem?_eq_none (by omega)]; rfl
    have z2 : ¬ k < m.length → m.getD k 0 = 0 := fun h => by rw [List.getD_eq_getElem?_getD, List.getElem?_eq_none (by omega)]; rfl
    have o1 := HA.out.ok.getD k
    have o2 := HB.out.ok.getD k
    have hst := hid hsum.out.step
    have HGK := hid hn
    have hlenlt : k ≤ max l.length m.length + 1 := by omega
    clear hn
    generalize l.getD k 0 = x at *
    generalize m.getD k 0 = y at *
    by_cases hkl : k < l.length
    · obtain ⟨b1, q1, rfl, hx⟩ := H1 hkl
      by_cases hkm : k < m.length
      · obtain ⟨b2, q2, rfl, hy⟩ := H2 hkm
        clear H1 H2 z1 z2
        obtain ⟨s, d, hs, hd, he, em, ed⟩ : ∃ s d : Nat, s < 4294967296 ∧ d ≤ 1 ∧ c + x + y = s + 4294967296 * d ∧ ((c : Int) + x + y) % 4294967296 = (s : Int) ∧ ((c : Int) + x + y) / 4294967296 = (d : Int) :=
          ⟨(c + x + y) % 4294967296, (c + x + y) / 4294967296, by omega, by omega, by omega, by omega, by omega⟩
        have hkd : k + 1 + d ≤ max l.length m.length + 1 := by omega
        have hstep := hst.out s d hs he
        have hnews : ∀ j u, (enc [s])[j]? = some u → (wr.alloc (.cells #[.int .u32 (s : Nat)] 64)).cell? ((⟨wr.heap.size, 0, none⟩ : Addr).add j) = some u :=
          (sees_lit wr [s] (Ok.cons hs Ok.nil) (by simp)).news
        have HN := hid hnews; have HS := hid hstep; have HW := hid hown.out.lt
        clear hnews hstep he
        go_wp2_with (at_builtin; refine wpList_append_own _ rfl _ _ 22 rfl w.heap.size 64 i0 (.int .u32 0) 1 4 Try.underlying22 hi hz0 hz1 hz2 rfl (by decide) _ _ _ rfl (hown.out.alloc _) ⟨wr.heap.size, 0, none⟩ 1 1 (enc [s]) rfl ?ga1 ?gb1 ?gc1 ?gd1 ?ge1 ?gf1 ?_)
        case ga1 => simp [enc_length]
        case gb1 => exact HN.out
        case gc1 => exact enc_one _
        case gd1 => unfold maxLen; omega
        case ge1 => omega
        case gf1 => have := hbel.out.size; simp; omega
        intro v' w4 hown4 hgrow _
        rw [enc_append] at hown4
        have hb4 : Below w.heap.size w w4 := (hbel.out.alloc hbel.out.size _).grown hgrow (by rw [Deep.nblk_alloc]; have := hbel.out.size; omega) (fun k e => (HW.out k e).1)
        have HO := hid hown4; have HB4 := hid hb4
        clear hown4 hgrow hb4
        go_wp2
        go_roundg (2 * (max l.length m.length - (k + 1)) + d)
        case rel => exact ⟨k + 1, d, t ++ [s], by omega, hkd, by go_num, by first | rfl | rw [ed], hd, HS, HO, HB4⟩
        case measure => have := HGK.out; omega
      · obtain rfl := z2 hkm
        clear H1 H2 z1 z2
        obtain ⟨s, d, hs, hd, he, em, ed⟩ : ∃ s d : Nat, s < 4294967296 ∧ d ≤ 1 ∧ c + x + 0 = s + 4294967296 * d ∧ ((c : Int) + x) % 4294967296 = (s : Int) ∧ ((c : Int) + x) / 4294967296 = (d : Int) :=
          ⟨(c + x + 0) % 4294967296, (c + x + 0) / 4294967296, by omega, by omega, by omega, by omega, by omega⟩
        have hkd : k + 1 + d ≤ max l.length m.length + 1 := by omega
        have hstep := hst.out s d hs he
        have hnews : ∀ j u, (enc [s])[j]? = some u → (wr.alloc (.cells #[.int .u32 (s : Nat)] 64)).cell? ((⟨wr.heap.size, 0, none⟩ : Addr).add j) = some u :=
          (sees_lit wr [s] (Ok.cons hs Ok.nil) (by simp)).news
        have HN := hid hnews; have HS := hid hstep; have HW := hid hown.out.lt
        clear hnews hstep he
        go_wp2_with (at_builtin; refine wpList_append_own _ rfl _ _ 22 rfl w.heap.size 64 i0 (.int .u32 0) 1 4 Try.underlying22 hi hz0 hz1 hz2 rfl (by decide) _ _ _ rfl (hown.out.alloc _) ⟨wr.heap.size, 0, none⟩ 1 1 (enc [s]) rfl ?ga2 ?gb2 ?gc2 ?gd2 ?ge2 ?gf2 ?_)
        case ga2 => simp [enc_length]
        case gb2 => exact HN.out
        case gc2 => exact enc_one _
        case gd2 => unfold maxLen; omega
        case ge2 => omega
        case gf2 => have := hbel.out.size; simp; omega
        intro v' w4 hown4 hgrow _
        rw [enc_append] at hown4
        have hb4 : Below w.heap.size w w4 := (hbel.out.alloc hbel.out.size _).grown hgrow (by rw [Deep.nblk_alloc]; have := hbel.out.size; omega) (fun k e => (HW.out k e).1)
        have HO := hid hown4; have HB4 := hid hb4
        clear hown4 hgrow hb4
        go_wp2
        go_roundg (2 * (max l.length m.length - (k + 1)) + d)
        case rel => exact ⟨k + 1, d, t ++ [s], by omega, hkd, by go_num, by first | rfl | rw [ed], hd, HS, HO, HB4⟩
        case measure => have := HGK.out; omega
    · obtain rfl := z1 hkl
      by_cases hkm : k < m.length
      · obtain ⟨b2, q2, rfl, hy⟩ := H2 hkm
        clear H1 H2 z1 z2
        obtain ⟨s, d, hs, hd, he, em, ed⟩ : ∃ s d : Nat, s < 4294967296 ∧ d ≤ 1 ∧ c + 0 + y = s + 4294967296 * d ∧ ((c : Int) + y) % 4294967296 = (s : Int) ∧ ((c : Int) + y) / 4294967296 = (d : Int) :=
          ⟨(c + 0 + y) % 4294967296, (c + 0 + y) / 4294967296, by omega, by omega, by omega, by omega, by omega⟩
        have hkd : k + 1 + d ≤ max l.length m.length + 1 := by omega
        have hstep := hst.out s d hs he
        have hnews : ∀ j u, (enc [s])[j]? = some u → (wr.alloc (.cells #[.int .u32 (s : Nat)] 64)).cell? ((⟨wr.heap.size, 0, none⟩ : Addr).add j) = some u :=
          (sees_lit wr [s] (Ok.cons hs Ok.nil) (by simp)).news
        have HN := hid hnews; have HS := hid hstep; have HW := hid hown.out.lt
        clear hnews hstep he
        go_wp2_with (at_builtin; refine wpList_append_own _ rfl _ _ 22 rfl w.heap.size 64 i0 (.int .u32 0) 1 4 Try.underlying22 hi hz0 hz1 hz2 rfl (by decide) _ _ _ rfl (hown.out.alloc _) ⟨wr.heap.size, 0, none⟩ 1 1 (enc [s]) rfl ?ga3 ?gb3 ?gc3 ?gd3 ?ge3 ?gf3 ?_)
        case ga3 => simp [enc_length]
        case gb3 => exact HN.out
        case gc3 => exact enc_one _
        case gd3 => unfold maxLen; omega
        case ge3 => omega
        case gf3 => have := hbel.out.size; simp; omega
        intro v' w4 hown4 hgrow _
        rw [enc_append] at hown4
        have hb4 : Below w.heap.size w w4 := (hbel.out.alloc hbel.out.size _).grown hgrow (by rw [Deep.nblk_alloc]; have := hbel.out.size; omega) (fun k e => (HW.out k e).1)
        have HO := hid hown4; have HB4 := hid hb4
        clear hown4 hgrow hb4
        go_wp2
        go_roundg (2 * (max l.length m.length - (k + 1)) + d)
        case rel => exact ⟨k + 1, d, t ++ [s], by omega, hkd, by go_num, by first | rfl | rw [ed], hd, HS, HO, HB4⟩
        case measure => have := HGK.out; omega
      · obtain rfl := z2 hkm
        clear H1 H2 z1 z2
        by_cases hc0 : 0 < c
        · have hkm2 : k ≤ max l.length m.length := by omega
          obtain ⟨s, d, hs, hd, he, em, ed⟩ : ∃ s d : Nat, s < 4294967296 ∧ d ≤ 1 ∧ c + 0 + 0 = s + 4294967296 * d ∧ ((c : Int)) % 4294967296 = (s : Int) ∧ ((c : Int)) / 4294967296 = (d : Int) :=
            ⟨(c + 0 + 0) % 4294967296, (c + 0 + 0) / 4294967296, by omega, by omega, by omega, by omega, by omega⟩
          have hkd : k + 1 + d ≤ max l.length m.length + 1 := by omega
          have hstep := hst.out s d hs he
          have hnews : ∀ j u, (enc [s])[j]? = some u → (wr.alloc (.cells #[.int .u32 (s : Nat)] 64)).cell? ((⟨wr.heap.size, 0, none⟩ : Addr).add j) = some u :=
            (sees_lit wr [s] (Ok.cons hs Ok.nil) (by simp)).news
          have HN := hid hnews; have HS := hid hstep; have HW := hid hown.out.lt
          clear hnews hstep he
          go_wp2_with (at_builtin; refine wpList_append_own _ rfl _ _ 22 rfl w.heap.size 64 i0 (.int .u32 0) 1 4 Try.underlying22 hi hz0 hz1 hz2 rfl (by decide) _ _ _ rfl (hown.out.alloc _) ⟨wr.heap.size, 0, none⟩ 1 1 (enc [s]) rfl ?ga4 ?gb4 ?gc4 ?gd4 ?ge4 ?gf4 ?_)
          case ga4 => simp [enc_length]
          case gb4 => exact HN.out
          case gc4 => exact enc_one _
          case gd4 => unfold maxLen; omega
          case ge4 => omega
          case gf4 => have := hbel.out.size; simp; omega
          intro v' w4 hown4 hgrow _
          rw [enc_append] at hown4
          have hb4 : Below w.heap.size w w4 := (hbel.out.alloc hbel.out.size _).grown hgrow (by rw [Deep.nblk_alloc]; have := hbel.out.size; omega) (fun k e => (HW.out k e).1)
          have HO := hid hown4; have HB4 := hid hb4
          clear hown4 hgrow hb4
          go_wp2
          go_roundg (2 * (max l.length m.length - (k + 1)) + d)
          case rel => exact ⟨k + 1, d, t ++ [s], by omega, hkd, by go_num, by first | rfl | rw [ed], hd, HS, HO, HB4⟩
          case measure => have := HGK.out; omega
        · obtain rfl : c = 0 := by omega
          have hs := hsum.out
          have hlk : t.length ≤ 35184372088832 := by have := hs.1; omega
          have hsee := owns_sees hown.out hs.2.1 (by omega)
          have hv : val t = val l + val m := by
            have := hs.2.2
            rw [← val_valF l k (by omega), ← val_valF m k (by omega)] at this
            simpa using this
          have HS := hid hsee; have HV := hid hv; have HLK := hid hlk
          have hlk2 := Nat.le_trans (limbs_prefix hsee.ok).2 hlk
          clear hs hsee hv hlk hst hsum hown
          go_wp2_with fail
          refine (ref_plain _ _ _ HS.out HLK.out).mono ?_
          intro e w4 hp
          obtain ⟨v4, rfl, hs4, hb4⟩ := hp.sees (by omega)
          have HS4 := hid hs4; have HB4 := hid (hbel.out.trans (hb4.mono hbel.out.size))
          clear hp hs4 hb4
          go_wp2
          go_ret
          exact ⟨_, rfl, by have := HS4.out; rw [HV.out] at this; exact this, HB4.out⟩
end Go.Proofs.Ytcogldhjkjiodaa

set_option linter.unusedVariables false
set_option linter.unusedSimpArgs false
namespace Go.Proofs.Ytcogldhjkjiodaa
open Go.RowKit

/-! ### Bytes in a slice that grows -/
def enc8 (l : List UInt8) : List Value := l.map fun x => Value.int .u8 (x.toNat : Nat)
theorem enc8_length (l : List UInt8) : (enc8 l).length = l.length := by simp [enc8]
theorem enc8_one (l : List UInt8) : ∀ u ∈ enc8 l, u.oneCell' = true := by intro u hu; obtain ⟨x, _, rfl⟩ := List.mem_map.1 hu; rfl
theorem enc8_get (l : List UInt8) (i : Nat) (h : i < l.length) : (enc8 l)[i]? = some (.int .u8 ((l.getD i 0).toNat : Nat)) := by
  unfold enc8
  rw [List.getElem?_map, List.getD_eq_getElem?_getD, List.getElem?_eq_getElem h]; rfl
theorem enc8_append (l m : List UInt8) : enc8 l ++ enc8 m = enc8 (l ++ m) := by simp [enc8]
theorem owns8_some {w : World} {base n : Nat} {v : Value} {l : List UInt8} (h : w.ownsRow base 5 1 v n (enc8 l)) (hn : 0 < n) : ∃ g cap, v = .slice (some ⟨g, 0, none⟩) l.length cap ∧ Row8 w g l ∧ base ≤ g ∧ l.length ≤ cap := by
  obtain ⟨h1, h2⟩ := h
  rw [enc8_length, Nat.mul_one] at h1
  rcases h2 with ⟨_, h2⟩ | ⟨g, cap, cur, rfl, hg, hh, hnc, hm, hs, ht⟩
  · omega
  · refine ⟨g, cap, by rw [h1], ⟨cur, hh, by simp at hs; omega, fun i hi => ?_⟩, hg, by omega⟩
    have : (cur.toList.take (n * 1))[i]? = some (Value.int .u8 ((l.getD i 0).toNat : Nat)) := by
      rw [ht, enc8_get l i hi]
    rw [List.getElem?_take_of_lt (by omega)] at this
    simpa using this
theorem owns_below {w w' : World} {base n size e : Nat} {v : Value} {xs : List Value} (h : w.ownsRow base e size v n xs) (hb : Below w.heap.size w w') : w'.ownsRow base e size v n xs :=
  h.kept (row := none) ⟨hb.os, hb.tape, hb.output, hb.size, fun k hk _ => hb.block k hk⟩ (by
    cases v.ownBlock with
    | none => exact .inl rfl
    | some k => exact .inr (by simp))
theorem news8 (w : World) (c : UInt8) : ∀ j u, (enc8 [c])[j]? = some u → (w.alloc (.cells #[.int .u8 (c.toNat : Nat)] 5)).cell? ((⟨w.heap.size, 0, none⟩ : Addr).add j) = some u := by
  intro j u hj
  match j, hj with
  | 0, hj =>
    simp [enc8] at hj
    subst hj
    simp [Addr.add, go_sem]
  | j + 1, hj => simp [enc8] at hj

/-- A digit's letter as the walk reckons it. -/
theorem digB_val (x : Nat) : ((digB x).toNat : Int) = 48 + (x % 10 : Nat) := by rw [digB_toNat]; omega

theorem pad_snoc (n x : Nat) : pad n x ++ [digB (x / 10 ^ n)] = pad (n + 1) x := by
  unfold pad; rw [List.range_succ, List.map_append]; rfl

theorem pad_exact (i x : Nat) (h : x < 10 ^ (i + 1)) (h' : 10 ^ i ≤ x) : pad (i + 1) x = decR x := by
  induction i generalizing x with
  | zero =>
    rw [pad_succ, decR_pos (by simp at h'; omega)]
    have : x / 10 = 0 := by simp at h; omega
    rw [this, decR_zero]; rfl
  | succ i ih =>
    have h1 : 0 < x := Nat.lt_of_lt_of_le (Nat.pow_pos (by decide)) h'
    rw [pad_succ, decR_pos h1, ih (x / 10) (by rw [Nat.pow_succ] at h; omega) (by rw [Nat.pow_succ] at h'; omega)]

theorem pad_dec (i x : Nat) (h : x / 10 ^ (i + 1) = 0) (h' : i = 0 ∨ 0 < x / 10 ^ i) : (pad (i + 1) x).reverse = dec x := by
  have hx : x < 10 ^ (i + 1) := by
    rcases Nat.lt_or_ge x (10 ^ (i + 1)) with h1 | h1
    · exact h1
    · have := Nat.div_pos h1 (Nat.pow_pos (by decide)); omega
  by_cases h0 : x = 0
  · subst h0
    have : i = 0 := by
      rcases h' with h1 | h1
      · exact h1
      · rw [Nat.zero_div] at h1; omega
    subst this; rfl
  · have hp : 10 ^ i ≤ x := by
      rcases h' with h1 | h1
      · subst h1; simp; omega
      · rcases Nat.lt_or_ge x (10 ^ i) with h2 | h2
        · rw [Nat.div_eq_of_lt h2] at h1; omega
        · exact h2
    rw [pad_exact i x hx hp]
    unfold dec
    rw [if_neg h0]

theorem digits_le {x i L : Nat} (h : 0 < x / 10 ^ i) (hx : x < 4294967296 ^ L) : i < 32 * L := by
  have h1 : 10 ^ i ≤ x := by
    rcases Nat.lt_or_ge x (10 ^ i) with h2 | h2
    · rw [Nat.div_eq_of_lt h2] at h; omega
    · exact h2
  have h2 : 2 ^ i ≤ 10 ^ i := Nat.pow_le_pow_left (by decide) i
  rw [pow_limbs'] at hx
  have h3 : 2 ^ i < 2 ^ (32 * L) := by omega
  exact (Nat.pow_lt_pow_iff_right (by decide)).1 h3

theorem limbs_length_le' {x y L : Nat} (hx : x < 4294967296 ^ L) (hL : L ≤ 1000) (h : y ≤ x) : (limbs y).length ≤ 1000 :=
  Nat.le_trans (limbs_length_le (Nat.lt_of_le_of_lt h hx)) hL

/-- What tenth answers. -/
def IsTenth (w : World) (x : Nat) (e : Ending) (w' : World) : Prop := ∃ (v : Value) (r : Nat), e = .returned (.tuple #[v, .int .i64 r]) ∧ r = x % 10 ∧ r < 10 ∧ Sees w' v (limbs (x / 10)) ∧ Below w.heap.size w w' ∧ Fresh w v

theorem Sees.takeC {w : World} {ao : Option Addr} {len cap : Nat} {l : List Nat} (h : Sees w (.slice ao len cap) l) (n : Nat) (hn : n ≤ l.length) : Sees w (.slice ao n cap) (l.take n) := by
  obtain ⟨h1, h2⟩ := h.len_eq
  have hok := h.ok
  have hlen := h.len
  have hl : (l.take n).length = n := by simp; omega
  refine ⟨ao, cap, by rw [hl], by omega, by omega, hok.take n, fun e => ?_, fun hp => ?_⟩
  · obtain ⟨ao', cap', h1, _, _, _, hn0, _⟩ := h
    simp only [Value.slice.injEq] at h1
    obtain ⟨rfl, _, rfl⟩ := h1
    exact hn0 e
  · obtain ⟨b, o, ha, hcell⟩ := h.at (by omega)
    refine ⟨b, o, ha, fun i hi => ?_⟩
    rw [hl] at hi
    rw [hcell i (by omega), List.getD_eq_getElem?_getD, List.getD_eq_getElem?_getD, List.getElem?_take_of_lt hi]

theorem pad_one (x : Nat) : pad 1 x = [digB x] := by simp [pad]

end Go.Proofs.Ytcogldhjkjiodaa

set_option linter.unusedVariables false
set_option linter.unusedSimpArgs false
namespace Go.Proofs.Ytcogldhjkjiodaa
open Go.RowKit

/-- The sign of a whole number. -/
def sgnI (z : Int) : Int := if z < 0 then -1 else if z = 0 then 0 else 1
theorem sgnI_zval (n : Bool) (l : List Nat) : sgnI (zval n l) = if val l = 0 then 0 else if n then -1 else 1 := by
  unfold sgnI zval
  by_cases h : val l = 0
  · rw [if_pos h]; cases n <;> simp [h]
  · rw [if_neg h]; cases n
    · simp
      rw [if_neg (by omega), if_neg (by omega)]
    · simp
      omega

theorem box_below {w : World} (n : Bool) (s : Value) : Below w.heap.size w (w.alloc (.cells #[.bool n, s] 24)) := (Below.refl _ w).alloc (Nat.le_refl _) _

set_option maxHeartbeats 1000000 in
theorem ref_sign {v : Value} {n : Bool} {l : List Nat} {w : World} (h : SeesZ w v n l) (hl : l.length ≤ 35184372088832) :
    Calls Try.prog 53 #[v] w fun e w' => e = .returned (.int .i64 (sgnI (zval n l))) ∧ Below w.heap.size w w' := by
  obtain ⟨m, rfl, hm⟩ := h
  have HC := hid (ref_bits m l _ (hm.below (box_below n m)) hl)
  have hs := sgnI_zval n l
  obtain ⟨z, hz⟩ : ∃ z, sgnI (zval n l) = z := ⟨_, rfl⟩
  rw [hz] at hs ⊢
  have HZ := hid hs
  obtain ⟨ao, cap, rfl, -, -, -, -, -⟩ := hm
  have HB := hid (box_below (w := w) n (.slice ao l.length cap))
  have HX := hid (Box.new w (.bool n) (.slice ao l.length cap) 24)
  have hbz := bits_zero (val l)
  obtain ⟨nb, hnb⟩ : ∃ nb, bitsN (val l) = nb := ⟨_, rfl⟩
  rw [hnb] at HC hbz
  have HBZ := hid hbz
  clear hs hz hnb hbz
  go_enter Try.func53, Try.ntmps53
  go_wp2_with fail
  refine HC.out.mono ?_
  rintro e w2 ⟨rfl, hb2⟩
  have HX2 := hid (HX.out.below hb2)
  have HB2 := hid (HB.out.trans (hb2.mono HB.out.size))
  obtain ⟨c0, c1, f0, f1⟩ := HX2.out.cells
  clear hb2 HX HB HC
  by_cases h0 : val l = 0
  · have hz := HZ.out
    rw [if_pos h0] at hz
    subst hz
    have hn0 : nb = 0 := by have := HBZ.out.2 h0; omega
    subst hn0
    clear h0
    go_wp2
    go_ret
    exact ⟨rfl, HB2.out⟩
  · have hz := HZ.out
    rw [if_neg h0] at hz
    have hn0 : ¬ (nb : Int) = 0 := fun e => h0 (HBZ.out.1 e)
    have hn1 : 0 < nb := by omega
    clear h0 HZ hn0
    cases n
    · simp only [Bool.false_eq_true, if_false] at hz
      subst hz
      go_wp2
      go_ret
      exact ⟨rfl, HB2.out⟩
    · simp only [if_true] at hz
      subst hz
      go_wp2
      go_ret
      exact ⟨rfl, HB2.out⟩
end Go.Proofs.Ytcogldhjkjiodaa
