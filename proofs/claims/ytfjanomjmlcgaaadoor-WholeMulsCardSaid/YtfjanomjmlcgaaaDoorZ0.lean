/- Whole numbers in memory: a struct of a sign and a list of limbs; the numbers that they say. -/
import Derived.Test.YtfjanomjmlcgaaaDoorFrame
import Derived.Test.YtfjanomjmlcgaaaDoorVal
import Derived.Test.YtfjanomjmlcgaaaDoorSub
import Derived.Lib.SmallJoins
import Derived.ChangeArms
set_option linter.unusedVariables false
set_option linter.unusedSimpArgs false
namespace Go.Proofs.YtfjanomjmlcgaaaDoor
open Go.ChangeShapes Go.WideShapes Go.ChangeAt Go.RowKit Go.Joins

/-- The whole number that a sign and a list of limbs say. -/
def zval (n : Bool) (l : List Nat) : Int := if n then -(val l : Int) else (val l : Int)
/-- v reads as the sign n and the limbs l. -/
def SeesZ (w : World) (v : Value) (n : Bool) (l : List Nat) : Prop := ∃ m, v = .agg #[.bool n, m] ∧ Sees w m l
/-- The sign and the limbs of a plain whole number. -/
def zneg (z : Int) : Bool := decide (z < 0)
def zlim (z : Int) : List Nat := limbs z.natAbs
/-- v is the plain whole number z. -/
def IsZ (w : World) (v : Value) (z : Int) : Prop := SeesZ w v (zneg z) (zlim z)

theorem zval_plain (z : Int) : zval (zneg z) (zlim z) = z := by
  unfold zval zneg zlim
  rw [val_limbs]
  by_cases h : z < 0
  · rw [if_pos (by simp [h])]; omega
  · rw [if_neg (by simp [h])]; omega
theorem zlim_ok (z : Int) : Ok (zlim z) := limbs_ok _
theorem val_zlim (z : Int) : val (zlim z) = z.natAbs := val_limbs _
theorem zval_abs (n : Bool) (l : List Nat) : (zval n l).natAbs = val l := by
  unfold zval; cases n <;> simp
theorem zval_true (l : List Nat) : zval true l = -(val l : Int) := rfl
theorem zval_false (l : List Nat) : zval false l = (val l : Int) := rfl
theorem zval_neg_iff (n : Bool) (l : List Nat) : zval n l < 0 ↔ n = true ∧ 0 < val l := by
  cases n
  · rw [zval_false]
    constructor
    · intro h; omega
    · rintro ⟨h, _⟩; cases h
  · rw [zval_true]
    constructor
    · intro h; exact ⟨rfl, by omega⟩
    · rintro ⟨_, h⟩; omega
theorem zval_zero_iff (n : Bool) (l : List Nat) : zval n l = 0 ↔ val l = 0 := by
  cases n
  · rw [zval_false]; omega
  · rw [zval_true]; omega

theorem SeesZ.below {w w' : World} {v : Value} {n : Bool} {l : List Nat} (h : SeesZ w v n l) (hb : Below w.heap.size w w') : SeesZ w' v n l := by
  obtain ⟨m, rfl, hm⟩ := h
  exact ⟨m, rfl, hm.below hb⟩
theorem SeesZ.ok {w : World} {v : Value} {n : Bool} {l : List Nat} (h : SeesZ w v n l) : Ok l := by obtain ⟨_, _, hm⟩ := h; exact hm.ok
theorem IsZ.below {w w' : World} {v : Value} {z : Int} (h : IsZ w v z) (hb : Below w.heap.size w w') : IsZ w' v z := SeesZ.below h hb
theorem IsZ.sees {w : World} {v : Value} {z : Int} (h : IsZ w v z) : SeesZ w v (zneg z) (zlim z) := h

/-- What 'signed' makes of a sign and a plain magnitude. -/
theorem isZ_of {w : World} {m : Value} {x : Nat} (h : Sees w m (limbs x)) (n : Bool) (z : Int) (hz : z = if n then -(x : Int) else (x : Int)) : IsZ w (.agg #[.bool (n && decide (x ≠ 0)), m]) z := by
  refine ⟨m, ?_, ?_⟩
  · have : (n && decide (x ≠ 0)) = zneg z := by
      subst hz
      unfold zneg
      cases n
      · simp <;> omega
      · by_cases h0 : x = 0
        · simp [h0]
        · simp [h0]; omega
    rw [this]
  · have : zlim z = limbs x := by
      subst hz
      unfold zlim
      cases n <;> simp
    rw [this]; exact h

/-- A struct of a sign and limbs that came in. -/
theorem open_cells {H : Type} {enc : TypeId × Value → H} {W : World} {v : Value} {d : DataW H} {ps : List MemPlace} {fuel : Nat}
    (hf : DataW.trod enc Tryd.prog W 0 (fun _ => true) true fuel 22 [v] = some (d, ps)) (hsz : ∀ elems spare, d = .slice elems spare → (elems.length + spare.length) * Tryd.prog.bytesOf 57 ≤ reachBytes) :
    ∃ l, Sees W v l ∧ l.length ≤ 35184372087808 := by
  rcases open_ints Tryd.underlying22 Tryd.underlying57 cells_u32 hf with ⟨hcs, hx⟩ | ⟨a, len', cap', zs, hcs, _, hl, hm, hz, hx, hcell, hwz⟩
  · simp only [List.cons.injEq, and_true] at hcs
    subst hcs
    exact ⟨[], Sees.nil W, by simp⟩
  · simp only [List.cons.injEq, and_true] at hcs
    subst hcs
    simp only [if_true] at hz
    have hd : d = .slice (lits .u32 (zs.take len')) (lits .u32 (zs.drop len')) := congrArg Prod.fst hx
    have hsz2 := hsz _ _ hd
    rw [bytes_u32] at hsz2
    simp only [lits, List.length_map, List.length_take, List.length_drop, reachBytes] at hsz2
    have hrange : ∀ i, 0 ≤ zs.getD i 0 ∧ zs.getD i 0 < 4294967296 := fun i => by
      rw [List.getD_eq_getElem?_getD]
      cases e : zs[i]? with
      | none => decide
      | some z =>
        have := hwz z (List.mem_of_getElem? e)
        simp [Lit.wf, IntKind.min, IntKind.max, IntKind.signed, IntKind.bits] at this
        simp only [Option.getD_some]
        omega
    have hlen : ((zs.take len').map Int.toNat).length = len' := by simp; omega
    refine ⟨(zs.take len').map Int.toNat, ⟨some a, cap', by rw [hlen], by omega, by omega, ?_, (fun e => by cases e), fun hp => ?_⟩, by omega⟩
    · intro x hx'
      obtain ⟨z, hz', rfl⟩ := List.mem_map.1 hx'
      obtain ⟨i, hi, rfl⟩ := List.getElem_of_mem (List.mem_of_mem_take hz')
      have := hrange i
      rw [List.getD_eq_getElem?_getD, List.getElem?_eq_getElem hi] at this
      simp only [Option.getD_some] at this
      omega
    · obtain ⟨b, off, rfl, hc⟩ := ints_at hcell (by omega)
      refine ⟨b, off, rfl, fun i hi => ?_⟩
      rw [hc i (by omega)]
      have e : ((((zs.take len').map Int.toNat).getD i 0 : Nat) : Int) = zs.getD i 0 := by
        have h1 := (hrange i).1
        rw [List.getD_eq_getElem?_getD, List.getElem?_map, List.getElem?_take_of_lt (by omega)]
        rw [List.getD_eq_getElem?_getD] at h1 ⊢
        cases e2 : zs[i]? with
        | none => simp
        | some z => rw [e2] at h1; simp at h1 ⊢; omega
      rw [e]

/-- The size of a list in a field. -/
theorem sized_part {H : Type} {P : Program} {ts : List TypeId} {ds : List (DataW H)} (h : (DataW.weightsEach P ts ds).all (· ≤ reachBytes) = true) {j : Nat} {t : TypeId} {parts : List (DataW H)} (ht : ts[j]? = some t) (hd : ds[j]? = some (.agg parts))
    (fs : Array Field) (hu : P.underlying t = some (.struct fs)) (k : Nat) (tf e : TypeId) (hk : (fs.toList.map (·.type))[k]? = some tf) (he : P.underlying tf = some (.slice e)) (elems spare : List (DataW H)) (hp : parts[k]? = some (.slice elems spare)) :
    (elems.length + spare.length) * P.bytesOf e ≤ reachBytes := by
  have hw : (elems.length + spare.length) * P.bytesOf e ∈ DataW.weightsEach P (fs.toList.map (·.type)) parts :=
    DataW.weights_mem_each hk hp _ (by simp [DataW.weights, he])
  have := List.all_eq_true.1 h _ (DataW.weights_mem_each ht hd _ (by simp [DataW.weights, hu]; exact hw))
  simpa using this

theorem fields_z : ∃ f0 f1 : Field, Tryd.prog.underlying 34 = some (.struct #[f0, f1]) ∧ Go.Deep.oneCellFields Tryd.prog #[f0, f1] = true ∧ Tryd.prog.cellsOf 34 = 2 ∧ f0.type = 4 ∧ f1.type = 22 :=
  ⟨_, _, Tryd.underlying34, by kernel_rfl, by kernel_rfl, rfl, rfl⟩

set_option maxRecDepth 100000 in
/-- A whole number that came in. -/
theorem open_z {H : Type} {enc : TypeId × Value → H} {W : World} {base : Nat} {v : Value} {d : DataW H} {ps : List MemPlace}
    (hval : Value.okWide Tryd.prog W .any base 34 v) (h : DataW.Trod enc Tryd.prog W 0 (fun _ => true) true 34 v d ps)
    (hsz : ∀ parts, d = .agg parts → ∀ (fs : Array Field), Tryd.prog.underlying 34 = some (.struct fs) → ∀ (k : Nat) (tf e : TypeId), (fs.toList.map (·.type))[k]? = some tf → Tryd.prog.underlying tf = some (.slice e) → ∀ elems spare, parts[k]? = some (.slice elems spare) → (elems.length + spare.length) * Tryd.prog.bytesOf e ≤ reachBytes) :
    ∃ n l, SeesZ W v n l ∧ l.length ≤ 35184372087808 := by
  obtain ⟨f0, f1, hu, hone, hC, ht0, ht1⟩ := fields_z
  obtain ⟨v0, v1, y0, y1, n, rfl, rfl, rfl, t0, t1⟩ := open_agg2 hu hone hC hval h
  rw [ht0] at t0
  rw [ht1] at t1
  obtain ⟨b, hb, -⟩ := DataW.trod_bool Tryd.underlying4 t0
  simp only [List.cons.injEq, and_true] at hb
  subst hb
  obtain ⟨l, hs, hl⟩ := open_cells (d := y1.1) (ps := y1.2) t1 (fun elems spare e => hsz _ rfl _ hu 1 22 57 (by simp [ht1]) Tryd.underlying22 elems spare (by simp [e]))
  exact ⟨b, l, ⟨v1, rfl, hs⟩, hl⟩
end Go.Proofs.YtfjanomjmlcgaaaDoor
