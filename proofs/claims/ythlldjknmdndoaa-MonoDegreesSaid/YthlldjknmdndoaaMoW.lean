/- What the rows' steps share: slices of ints and rings that came in. -/
import Derived.Test.YthlldjknmdndoaaMoV
import Derived.ProofKit
import Derived.OpenShut
import Derived.SizedLaws
import Derived.Lay
import Derived.LaidOnce
import Derived.SliceStrings
import Derived.Lib.SmallJoins
import Derived.ChangeArms
import Derived.HandedShaped
set_option linter.unusedVariables false
set_option linter.unusedSimpArgs false
namespace Go.Proofs.Ythlldjknmdndoaa
open Go.ChangeShapes Go.WideShapes Go.ChangeAt Go.RowKit Go.Joins

theorem own : ownKnob Try.prog.godebug = none := by kernel_rfl
theorem laidOut : laidOutB Try.prog = true := by kernel_rfl
theorem cells_int : Try.prog.cellsOf 3 = 1 := by kernel_rfl
theorem bytes_int : Try.prog.bytesOf 3 = 8 := by kernel_rfl
theorem cells_str : Try.prog.cellsOf 9 = 1 := by kernel_rfl
theorem bytes_str : Try.prog.bytesOf 9 = 16 := by kernel_rfl

theorem at_index {a : Addr} {w : World} {n : Nat} {f : Nat → Value} (hp : 0 < n) (h : ∀ i, i < n → w.cell? (a.add i) = some (f i)) : ∃ b o, a = ⟨b, o, none⟩ ∧ ∀ i, i < n → w.cell? ⟨b, o + i, none⟩ = some (f i) := by
  obtain ⟨b, off, spot⟩ := a
  have hspot : spot = none := by simpa [Addr.add] using World.cell?_spot (h 0 hp)
  subst hspot
  exact ⟨b, off, rfl, fun j hj => by rw [← Go.WideShapes.add_plain]; exact h j hj⟩

set_option maxRecDepth 100000 in
/-- A slice of ints that came in. -/
theorem open_il {H : Type} {enc : TypeId × Value → H} {W : World} {base : Nat} {v : Value} {d : DataW H} {ps : List MemPlace}
    (hval : Value.okWide Try.prog W .any base 25 v) (h : DataW.Trod enc Try.prog W 0 (fun _ => true) true 25 v d ps) (hsz : ∀ elems spare, d = .slice elems spare → (elems.length + spare.length) * Try.prog.bytesOf 3 ≤ reachBytes) :
    ∃ l, SeesI W v l := by
  obtain ⟨a0, len, cap, rfl⟩ := okWide_slice Try.underlying25 hval
  obtain ⟨fuel, hf⟩ := h
  rcases open_ints Try.underlying25 Try.underlying3 cells_int hf with ⟨hcs, hx⟩ | ⟨a, len', cap', zs, hcs, _, hl, hm, hz, hx, hcell, hwz⟩
  · simp only [Value.cells, List.cons.injEq, Value.slice.injEq, and_true] at hcs
    obtain ⟨rfl, rfl, rfl⟩ := hcs
    exact ⟨[], SeesF.nil W⟩
  · simp only [Value.cells, List.cons.injEq, Value.slice.injEq, and_true] at hcs
    obtain ⟨rfl, rfl, rfl⟩ := hcs
    simp only [if_true] at hz
    have hd : d = .slice (lits .i64 (zs.take len)) (lits .i64 (zs.drop len)) := congrArg Prod.fst hx
    have hsz2 := hsz _ _ hd
    rw [bytes_int] at hsz2
    simp only [lits, List.length_map, List.length_take, List.length_drop, reachBytes] at hsz2
    have hlen : (zs.take len).length = len := by simp; omega
    refine ⟨zs.take len, some a, cap, by rw [hlen], by omega, by omega, (fun e => by cases e), fun hp => ?_⟩
    obtain ⟨b, off, rfl, hc⟩ := at_index (f := fun i => .int .i64 (zs.getD i 0)) (n := zs.length) (by omega) hcell
    refine ⟨b, off, rfl, fun i hi => ?_⟩
    rw [hc i (by omega)]
    show some (Value.int .i64 (zs.getD i 0)) = some (Value.int .i64 ((zs.take len).getD i 0))
    rw [List.getD_eq_getElem?_getD, List.getD_eq_getElem?_getD, List.getElem?_take_of_lt (by omega)]

/-- The names of a ring that came in. -/
theorem open_names {H : Type} {enc : TypeId × Value → H} {W : World} {v : Value} {d : DataW H} {ps : List MemPlace} {fuel : Nat}
    (hf : DataW.trod enc Try.prog W 0 (fun _ => true) true fuel 22 [v] = some (d, ps)) (hsz : ∀ elems spare, d = .slice elems spare → (elems.length + spare.length) * Try.prog.bytesOf 9 ≤ reachBytes) :
    ∃ l, SeesS W v l := by
  rcases open_strings Try.underlying22 Try.underlying9 cells_str hf with ⟨hcs, hx⟩ | ⟨a, len, cap, ss, hcs, _, hl, hm, hz, hx, hcell, hwz⟩
  · simp only [List.cons.injEq, and_true] at hcs
    subst hcs
    exact ⟨[], SeesF.nil W⟩
  · simp only [List.cons.injEq, and_true] at hcs
    subst hcs
    simp only [if_true] at hz
    have hd : d = .slice (strs (ss.take len)) (strs (ss.drop len)) := congrArg Prod.fst hx
    have hsz2 := hsz _ _ hd
    rw [bytes_str] at hsz2
    simp only [strs, List.length_map, List.length_take, List.length_drop, reachBytes] at hsz2
    have hlen : (ss.take len).length = len := by simp; omega
    refine ⟨ss.take len, some a, cap, by rw [hlen], by omega, by omega, (fun e => by cases e), fun hp => ?_⟩
    obtain ⟨b, off, rfl, hc⟩ := at_index (f := fun i => .string (ss.getD i ByteArray.empty)) (n := ss.length) (by omega) hcell
    refine ⟨b, off, rfl, fun i hi => ?_⟩
    rw [hc i (by omega)]
    show some (Value.string (ss.getD i ByteArray.empty)) = some (Value.string ((ss.take len).getD i ByteArray.empty))
    rw [List.getD_eq_getElem?_getD, List.getD_eq_getElem?_getD, List.getElem?_take_of_lt (by omega)]

/-- The size of a list in a field. -/
theorem sized_part {H : Type} {P : Program} {ts : List TypeId} {ds : List (DataW H)} (h : (DataW.weightsEach P ts ds).all (· ≤ reachBytes) = true) {j : Nat} {t : TypeId} {parts : List (DataW H)} (ht : ts[j]? = some t) (hd : ds[j]? = some (.agg parts))
    (fs : Array Field) (hu : P.underlying t = some (.struct fs)) (k : Nat) (tf e : TypeId) (hk : (fs.toList.map (·.type))[k]? = some tf) (he : P.underlying tf = some (.slice e)) (elems spare : List (DataW H)) (hp : parts[k]? = some (.slice elems spare)) :
    (elems.length + spare.length) * P.bytesOf e ≤ reachBytes := by
  have hw : (elems.length + spare.length) * P.bytesOf e ∈ DataW.weightsEach P (fs.toList.map (·.type)) parts :=
    DataW.weights_mem_each hk hp _ (by simp [DataW.weights, he])
  have := List.all_eq_true.1 h _ (DataW.weights_mem_each ht hd _ (by simp [DataW.weights, hu]; exact hw))
  simpa using this

theorem fields_ring : ∃ f0 f1 f2 : Field, Try.prog.underlying 24 = some (.struct #[f0, f1, f2]) ∧ Go.Deep.oneCellFields Try.prog #[f0, f1, f2] = true ∧ Try.prog.cellsOf 24 = 3 ∧ f0.type = 22 ∧ f1.type = 3 ∧ f2.type = 3 :=
  ⟨_, _, _, Try.underlying24, by kernel_rfl, by kernel_rfl, rfl, rfl, rfl⟩

set_option maxRecDepth 100000 in
/-- A ring that came in. -/
theorem open_ring {H : Type} {enc : TypeId × Value → H} {W : World} {base : Nat} {v : Value} {d : DataW H} {ps : List MemPlace}
    (hval : Value.okWide Try.prog W .any base 24 v) (h : DataW.Trod enc Try.prog W 0 (fun _ => true) true 24 v d ps)
    (hsz : ∀ parts, d = .agg parts → ∀ (fs : Array Field), Try.prog.underlying 24 = some (.struct fs) → ∀ (k : Nat) (tf e : TypeId), (fs.toList.map (·.type))[k]? = some tf → Try.prog.underlying tf = some (.slice e) → ∀ elems spare, parts[k]? = some (.slice elems spare) → (elems.length + spare.length) * Try.prog.bytesOf e ≤ reachBytes) :
    ∃ l o f, SeesR W v l o f := by
  obtain ⟨f0, f1, f2, hu, hone, hC, ht0, ht1, ht2⟩ := fields_ring
  obtain ⟨v0, v1, v2, y0, y1, y2, n, rfl, rfl, rfl, t0, t1, t2⟩ := open_agg3 hu hone hC hval h
  rw [ht0] at t0
  rw [ht1] at t1
  rw [ht2] at t2
  obtain ⟨o, ho, -⟩ := DataW.trod_int Try.underlying3 t1
  obtain ⟨f, hf, -⟩ := DataW.trod_int Try.underlying3 t2
  simp only [List.cons.injEq, and_true] at ho hf
  subst ho hf
  obtain ⟨l, hs⟩ := open_names (d := y0.1) (ps := y0.2) t0 (fun elems spare e => hsz _ rfl _ hu 0 22 9 (by simp [ht0]) Try.underlying22 elems spare (by simp [e]))
  exact ⟨l, o, f, v0, rfl, hs⟩

theorem same_true {a b : Value} {l : List Int} {w : World} (ha : SeesI w a l) (hb : SeesI w b l) :
    Calls Try.prog 25 #[a, b] w fun e w' => e = .returned (.bool true) ∧ Below w.heap.size w w' := by
  refine (ref_Same ha hb).mono ?_
  rintro e w' ⟨he, d, rfl⟩
  exact ⟨by rw [he, decide_eq_true rfl], below_drewN (Below.refl _ _) _⟩
theorem same_dec {a b : Value} {l m : List Int} {w : World} (ha : SeesI w a l) (hb : SeesI w b m) :
    Calls Try.prog 25 #[a, b] w fun e w' => e = .returned (.bool (decide (l = m))) ∧ Below w.heap.size w w' := by
  refine (ref_Same ha hb).mono ?_
  rintro e w' ⟨he, d, rfl⟩
  exact ⟨he, below_drewN (Below.refl _ _) _⟩
end Go.Proofs.Ythlldjknmdndoaa
