/- A fraction that came in reads as a sign and limbs over limbs. -/
import Derived.Test.YtjnbonellgpjnaaGreatKK
set_option linter.unusedVariables false
set_option linter.unusedSimpArgs false
namespace Go.Proofs.YtjnbonellgpjnaaGreat
open Go.ChangeShapes Go.WideShapes Go.ChangeAt Go.RowKit Go.Joins

/-- The size of what one argument reads as. -/
theorem sized_arg {H : Type} {P : Program} {ts : List TypeId} {ds : List (DataW H)} (h : (DataW.weightsEach P ts ds).all (· ≤ reachBytes) = true) {j : Nat} {t : TypeId} {d : DataW H} (ht : ts[j]? = some t) (hd : ds[j]? = some d) :
    ∀ x ∈ DataW.weights P t d, x ≤ reachBytes := fun x hx => by
  have := List.all_eq_true.1 h _ (DataW.weights_mem_each ht hd _ hx)
  simpa using this

theorem fields_q : ∃ f0 f1 : Field, Tryz.prog.underlying 26 = some (.struct #[f0, f1]) ∧ Tryz.prog.cellsOf 26 = 3 ∧ Tryz.prog.cellsOf 22 = 1 ∧ f0.type = 24 ∧ f1.type = 22 ∧ f0.offset = 0 ∧ f1.offset = 2 :=
  ⟨_, _, Tryz.underlying26, by kernel_rfl, by kernel_rfl, rfl, rfl, rfl, rfl⟩
theorem fields_z2 : ∃ f0 f1 : Field, Tryz.prog.underlying 24 = some (.struct #[f0, f1]) ∧ Tryz.prog.cellsOf 24 = 2 ∧ Tryz.prog.cellsOf 4 = 1 ∧ f0.type = 4 ∧ f1.type = 22 ∧ f0.offset = 0 ∧ f1.offset = 1 :=
  ⟨_, _, Tryz.underlying24, by kernel_rfl, by kernel_rfl, rfl, rfl, rfl, rfl⟩

set_option maxRecDepth 100000 in
/-- A fraction that came in. -/
theorem open_q {H : Type} {enc : TypeId × Value → H} {W : World} {base : Nat} {v : Value} {d : DataW H} {ps : List MemPlace}
    (hval : Value.okWide Tryz.prog W .any base 26 v) (h : DataW.Trod enc Tryz.prog W 0 (fun _ => true) true 26 v d ps)
    (hsz : ∀ x ∈ DataW.weights Tryz.prog 26 d, x ≤ reachBytes) :
    ∃ n l m, SeesQ W v n l m ∧ l.length ≤ 35184372087808 ∧ m.length ≤ 35184372087808 := by
  obtain ⟨f0, f1, hu, hC, hS, ht0, ht1, ho0, ho1⟩ := fields_q
  obtain ⟨e0, e1, hu2, hC2, hB, kt0, kt1, ko0, ko1⟩ := fields_z2
  obtain ⟨cs, rfl, hcs⟩ := okWide_struct hu hval
  obtain ⟨c0, c1, c2, rfl⟩ := array3 (hcs.trans hC)
  obtain ⟨fuel, hf⟩ := h
  obtain ⟨y0, y1, n, hx, -, t0, t1⟩ := trod_struct2 hu hf
  rw [ht0, ho0, hC2] at t0
  rw [ht1, ho1, hS] at t1
  simp only [Value.cells, List.drop_zero, List.take_succ_cons, List.take_zero, List.drop_succ_cons] at t0 t1
  obtain ⟨z0, z1, k, hy, -, u0, u1⟩ := trod_struct2 hu2 t0
  rw [kt0, ko0, hB] at u0
  rw [kt1, ko1, hS] at u1
  simp only [List.drop_zero, List.take_succ_cons, List.take_zero, List.drop_succ_cons] at u0 u1
  obtain ⟨b, hb, -⟩ := DataW.trod_bool Tryz.underlying4 u0
  simp only [List.cons.injEq, and_true] at hb
  subst hb
  simp only [Prod.mk.injEq] at hx
  obtain ⟨rfl, -⟩ := hx
  have hy1 : y0.1 = .agg [z0.1, z1.1] := congrArg Prod.fst hy
  have w0 : ∀ elems spare, z1.1 = .slice elems spare → (elems.length + spare.length) * Tryz.prog.bytesOf 98 ≤ reachBytes := fun elems spare e => by
    refine hsz _ ?_
    have i1 : (elems.length + spare.length) * Tryz.prog.bytesOf 98 ∈ DataW.weights Tryz.prog 22 z1.1 := by rw [e]; simp [DataW.weights, Tryz.underlying22]
    have i2 : (elems.length + spare.length) * Tryz.prog.bytesOf 98 ∈ DataW.weights Tryz.prog 24 y0.1 := by
      rw [hy1]; simp only [DataW.weights, hu2]
      exact DataW.weights_mem_each (j := 1) (t := 22) (by simp [kt1]) rfl _ i1
    simp only [DataW.weights, hu]
    exact DataW.weights_mem_each (j := 0) (t := 24) (by simp [ht0]) rfl _ i2
  have w1 : ∀ elems spare, y1.1 = .slice elems spare → (elems.length + spare.length) * Tryz.prog.bytesOf 98 ≤ reachBytes := fun elems spare e => by
    refine hsz _ ?_
    have i1 : (elems.length + spare.length) * Tryz.prog.bytesOf 98 ∈ DataW.weights Tryz.prog 22 y1.1 := by rw [e]; simp [DataW.weights, Tryz.underlying22]
    simp only [DataW.weights, hu]
    exact DataW.weights_mem_each (j := 1) (t := 22) (by simp [ht1]) rfl _ i1
  obtain ⟨l, hs, hl⟩ := open_cells (d := z1.1) (ps := z1.2) u1 w0
  obtain ⟨m, hs2, hm⟩ := open_cells (d := y1.1) (ps := y1.2) t1 w1
  exact ⟨b, l, m, ⟨c1, c2, rfl, hs, hs2⟩, hl, hm⟩
end Go.Proofs.YtjnbonellgpjnaaGreat
