/- What every right program of layer 10 answers (awake); a prime for any number (Pick); slices of ints that came in. -/
import Derived.Test.YtokdcgmjpnanoaaJaS
import Derived.Test.YtokdcgmjpnanoaaJaY
import Derived.Test.YtokdcgmjpnanoaaPr5
import Derived.ProofKit
import Derived.OpenShut
import Derived.SizedLaws
import Derived.Lay
import Derived.LaidOnce
import Derived.SliceStrings
import Derived.Lib.SmallJoins
import Derived.ChangeArms
import Derived.HandedShaped
import Derived.Laws.Bits128

set_option linter.unusedVariables false
set_option linter.unusedSimpArgs false
namespace Go.Proofs.Ytokdcgmjpnanoaa
open Go.ChangeShapes Go.WideShapes Go.ChangeAt Go.RowKit Go.Joins

theorem cells_int : Try.prog.cellsOf 3 = 1 := by kernel_rfl
theorem bytes_int : Try.prog.bytesOf 3 = 8 := by kernel_rfl
theorem at_index {a : Addr} {w : World} {n : Nat} {f : Nat → Value} (hp : 0 < n) (h : ∀ i, i < n → w.cell? (a.add i) = some (f i)) : ∃ b o, a = ⟨b, o, none⟩ ∧ ∀ i, i < n → w.cell? ⟨b, o + i, none⟩ = some (f i) := by
  obtain ⟨b, off, spot⟩ := a
  have hspot : spot = none := by simpa [Addr.add] using World.cell?_spot (h 0 hp)
  subst hspot
  exact ⟨b, off, rfl, fun j hj => by rw [← Go.WideShapes.add_plain]; exact h j hj⟩

set_option maxRecDepth 100000 in
/-- A slice of ints that came in. -/
theorem open_il {H : Type} {enc : TypeId × Value → H} {W : World} {base : Nat} {v : Value} {d : DataW H} {ps : List MemPlace}
    (hval : Value.okWide Try.prog W .any base 22 v) (h : DataW.Trod enc Try.prog W 0 (fun _ => true) true 22 v d ps) (hsz : ∀ elems spare, d = .slice elems spare → (elems.length + spare.length) * Try.prog.bytesOf 3 ≤ reachBytes) :
    ∃ l, SeesI W v l := by
  obtain ⟨a0, len, cap, rfl⟩ := okWide_slice Try.underlying22 hval
  obtain ⟨fuel, hf⟩ := h
  rcases open_ints Try.underlying22 Try.underlying3 cells_int hf with ⟨hcs, hx⟩ | ⟨a, len', cap', zs, hcs, _, hl, hm, hz, hx, hcell, hwz⟩
  · simp only [Value.cells, List.cons.injEq, Value.slice.injEq, and_true] at hcs
    obtain ⟨rfl, rfl, rfl⟩ := hcs
    exact ⟨[], SeesF.nil W⟩
  · simp only [Value.cells, List.cons.injEq, Value.slice.injEq, and_true] at hcs
    obtain ⟨rfl, rfl, rfl⟩ := hcs
    simp only [if_true] at hz
    have hd : d = .slice (lits .i64 (zs.take len)) (lits .i64 (zs.drop len)) := congrArg Prod.fst hx
    have hsz2 := hsz _ _ hd
    rw [bytes_int] at hsz2
    simp only [lits, List.length_map, List.length_take, List.length_drop, reachBytes] at hsz2
    have hlen : (zs.take len).length = len := by simp; omega
    refine ⟨zs.take len, some a, cap, by rw [hlen], by omega, by omega, (fun e => by cases e), fun hp => ?_⟩
    obtain ⟨b, off, rfl, hc⟩ := at_index (f := fun i => .int .i64 (zs.getD i 0)) (n := zs.length) (by omega) hcell
    refine ⟨b, off, rfl, fun i hi => ?_⟩
    rw [hc i (by omega)]
    show some (Value.int .i64 (zs.getD i 0)) = some (Value.int .i64 ((zs.take len).getD i 0))
    rw [List.getD_eq_getElem?_getD, List.getD_eq_getElem?_getD, List.getElem?_take_of_lt (by omega)]


theorem lits32 (w : World) (x y z a b : Int) : Below w.heap.size w ((w.alloc (.cells #[.int .i64 x, .int .i64 y, .int .i64 z] 3)).alloc (.cells #[.int .i64 a, .int .i64 b] 3)) ∧
    SeesI ((w.alloc (.cells #[.int .i64 x, .int .i64 y, .int .i64 z] 3)).alloc (.cells #[.int .i64 a, .int .i64 b] 3)) (.slice (some ⟨w.heap.size, 0, none⟩) 3 3) [x, y, z] ∧
    SeesI ((w.alloc (.cells #[.int .i64 x, .int .i64 y, .int .i64 z] 3)).alloc (.cells #[.int .i64 a, .int .i64 b] 3)) (.slice (some ⟨w.heap.size + 1, 0, none⟩) 2 2) [a, b] := by
  refine ⟨((Below.refl _ w).alloc (Nat.le_refl _) _).alloc (by simp) _, ?_, ?_⟩
  · have h := SeesF.lit (f := vI) (d := 0) w 3 [x, y, z] (by simp)
    exact SeesF.below h ((Below.refl _ _).alloc (Nat.le_refl _) _)
  · have h := SeesF.lit (f := vI) (d := 0) (w.alloc (.cells #[.int .i64 x, .int .i64 y, .int .i64 z] 3)) 3 [a, b] (by simp)
    rw [Deep.nblk_alloc] at h
    exact h
theorem lits23 (w : World) (a b x y z : Int) : Below w.heap.size w ((w.alloc (.cells #[.int .i64 a, .int .i64 b] 3)).alloc (.cells #[.int .i64 x, .int .i64 y, .int .i64 z] 3)) ∧
    SeesI ((w.alloc (.cells #[.int .i64 a, .int .i64 b] 3)).alloc (.cells #[.int .i64 x, .int .i64 y, .int .i64 z] 3)) (.slice (some ⟨w.heap.size, 0, none⟩) 2 2) [a, b] ∧
    SeesI ((w.alloc (.cells #[.int .i64 a, .int .i64 b] 3)).alloc (.cells #[.int .i64 x, .int .i64 y, .int .i64 z] 3)) (.slice (some ⟨w.heap.size + 1, 0, none⟩) 3 3) [x, y, z] := by
  refine ⟨((Below.refl _ w).alloc (Nat.le_refl _) _).alloc (by simp) _, ?_, ?_⟩
  · have h := SeesF.lit (f := vI) (d := 0) w 3 [a, b] (by simp)
    exact SeesF.below h ((Below.refl _ _).alloc (Nat.le_refl _) _)
  · have h := SeesF.lit (f := vI) (d := 0) (w.alloc (.cells #[.int .i64 a, .int .i64 b] 3)) 3 [x, y, z] (by simp)
    rw [Deep.nblk_alloc] at h
    exact h
theorem lits2 (w : World) (a b : Int) : Below w.heap.size w (w.alloc (.cells #[.int .i64 a, .int .i64 b] 3)) ∧ SeesI (w.alloc (.cells #[.int .i64 a, .int .i64 b] 3)) (.slice (some ⟨w.heap.size, 0, none⟩) 2 2) [a, b] :=
  ⟨(Below.refl _ w).alloc (Nat.le_refl _) _, SeesF.lit (f := vI) (d := 0) w 3 [a, b] (by simp)⟩

theorem p5 : IsP 5 := by decide
theorem plain5 (l : List Int) (h : ∀ i, i < l.length → 0 ≤ l.getD i 0 ∧ l.getD i 0 < 5) (h2 : l ≠ [] → l.getD (l.length - 1) 0 ≠ 0) : Plain 5 l :=
  ⟨fun i => by
    rcases Nat.lt_or_ge i l.length with h1 | h1
    · exact h i h1
    · rw [getD_over' l i h1]; omega, h2⟩
theorem div5 : DivIs 5 [4, 0, 1] [4, 1] [1, 1] [] := by
  refine ⟨⟨[0, -1], fun x => by simp only [ev_padd, ev_pmul, ev]; grind⟩, plain5 _ (by decide) (by decide), Plain.nil 5 (by omega), ?_⟩
  decide +kernel
theorem rest5 : RestIs 5 (ppow [0, 1] 5) [1, 0, 1] [0, 1] := by
  refine ⟨⟨[0, -1, 0, 1], [], fun x => ?_⟩, plain5 _ (by decide) (by decide), by decide +kernel⟩
  rw [ev_ppow]
  simp only [ev]
  grind
theorem awake_div {a b : Value} {w : World} (ha : SeesI w a [4, 0, 1]) (hb : SeesI w b [4, 1]) :
    Calls Try.prog 39 #[a, b, .int .i64 5] w fun e w' => ∃ vq vr, e = .returned (.tuple #[vq, vr, .int .i64 0]) ∧ SeesI w' vq [1, 1] ∧ SeesI w' vr [] ∧ Below w.heap.size w w' := by
  refine (mod_DivMod (q := 5) ha hb (by decide) (by decide) p5).mono ?_
  rintro e w' (⟨h, -, -⟩ | ⟨vq, vr, Q, R, he, hd, h1, h2, h3⟩)
  · exact absurd h (by decide +kernel)
  · obtain ⟨rfl, rfl⟩ := hd.unique p5 div5
    exact ⟨vq, vr, he, h1, h2, h3⟩
theorem awake_pow {a b : Value} {w : World} (ha : SeesI w a [0, 1]) (hb : SeesI w b [1, 0, 1]) :
    Calls Try.prog 33 #[a, .int .i64 5, b, .int .i64 5] w fun e w' => ∃ v, e = .returned (.tuple #[v, .int .i64 0]) ∧ SeesI w' v [0, 1] ∧ Below w.heap.size w w' := by
  refine (mod_Pow (q := 5) (n := 5) ha hb (by decide) (by decide) (by decide) p5).mono ?_
  rintro e w' (⟨h, -, -⟩ | ⟨v, R, he, h1, hr, h3⟩)
  · exact absurd h (by decide +kernel)
  · have := hr.unique p5 rest5 (M.of_ev fun x => rfl)
    subst this
    exact ⟨v, he, h1, h3⟩
theorem i64_and7 (n : Int) : bits .and .i64 n 7 = n % 8 := by
  have h1 : (BitVec.ofInt 64 7).toNat = 2 ^ 3 - 1 := by decide
  have key : (BitVec.ofInt 64 n &&& BitVec.ofInt 64 7).toNat = (n % ((2 ^ 64 : Nat) : Int)).toNat % 2 ^ 3 := by
    rw [BitVec.toNat_and, BitVec.toNat_ofInt, h1, Nat.and_two_pow_sub_one_eq_mod]
  show IntKind.i64.wrap ((BitVec.ofInt 64 n &&& BitVec.ofInt 64 7).toNat : Nat) = n % 8
  rw [key, IntKind.wrap_i64]
  omega
theorem int_bounds5 {n : Int} (wn : (Lit.int .i64 n).wf = true) : -9223372036854775808 ≤ n ∧ n < 9223372036854775808 := by
  simp [Lit.wf, IntKind.min, IntKind.max, IntKind.signed, IntKind.bits] at wn; omega
/-- What may be picked. -/
theorem picks (r : Nat) (h : r ≤ 7) : ∃ q : Nat, IsP q ∧ q < 1048577 ∧ ([2, 3, 5, 7, 11, 101, 65537, 1048573] : List Int).getD r 0 = (q : Int) := by
  have h8 : r = 0 ∨ r = 1 ∨ r = 2 ∨ r = 3 ∨ r = 4 ∨ r = 5 ∨ r = 6 ∨ r = 7 := by omega
  rcases h8 with rfl | rfl | rfl | rfl | rfl | rfl | rfl | rfl
  · exact ⟨2, by decide, by decide, rfl⟩
  · exact ⟨3, by decide, by decide, rfl⟩
  · exact ⟨5, by decide, by decide, rfl⟩
  · exact ⟨7, by decide, by decide, rfl⟩
  · exact ⟨11, by decide, by decide, rfl⟩
  · exact ⟨101, isP_of_small (k := 11) (by decide) (by decide) (by decide) (by decide +kernel), by decide, rfl⟩
  · exact ⟨65537, isP_of_small (k := 257) (by decide) (by decide) (by decide) (by decide +kernel), by decide, rfl⟩
  · exact ⟨1048573, isP_of_small (k := 1025) (by decide) (by decide) (by decide) (by decide +kernel), by decide, rfl⟩

set_option maxRecDepth 100000 in
set_option maxHeartbeats 2000000 in
theorem law_Pick (p : Int) (h1 : -9223372036854775808 ≤ p) (h2 : p < 9223372036854775808) (w : World) :
    Calls Try.prog 11 #[.int .i64 p] w fun e w' => ∃ q : Nat, e = .returned (.int .i64 q) ∧ IsP q ∧ Below w.heap.size w w' := by
  have HI := hidP (ref_isP p h1 h2)
  obtain ⟨r, hr, hr7⟩ : ∃ r : Nat, bits .and .i64 p 7 = r ∧ r ≤ 7 := by
    rw [i64_and7]; exact ⟨(p % 8).toNat, by omega, by omega⟩
  obtain ⟨q, hq, -, hv⟩ := picks r hr7
  have HL : Hid (∀ w, Below w.heap.size w (w.alloc (.cells #[.int .i64 2, .int .i64 3, .int .i64 5, .int .i64 7, .int .i64 11, .int .i64 101, .int .i64 65537, .int .i64 1048573] 3)) ∧ (w.alloc (.cells #[.int .i64 2, .int .i64 3, .int .i64 5, .int .i64 7, .int .i64 11, .int .i64 101, .int .i64 65537, .int .i64 1048573] 3)).cell? ⟨w.heap.size, r, none⟩ = some (.int .i64 q)) := fun w => by
    refine ⟨(Below.refl _ w).alloc (Nat.le_refl _) _, ?_⟩
    have h := SeesF.lit (f := vI) (d := 0) w 3 [2, 3, 5, 7, 11, 101, 65537, 1048573] (by simp)
    obtain ⟨b, o, ha, hc⟩ := SeesI.at (l := [2, 3, 5, 7, 11, 101, 65537, 1048573]) h (by simp)
    cases ha
    have h3 := hc r (by simp; omega)
    rw [Nat.zero_add, hv] at h3
    exact h3
  have HQ := hidP hq
  have ri : (r : Int) < 8 := by omega
  clear hq hv
  by_cases hlt : p < 1048576
  · cases hp : isP p with
    | true =>
      rw [hp] at HI
      obtain ⟨q2, rfl, hq2⟩ := isP_true hp
      have HQ2 := hidP hq2
      clear hp hq2 h1 h2 hr hr7 ri HL
      go_enter Try.func11, Try.ntmps11
      go_wp2_with fail
      refine (HI.out _).mono ?_
      rintro e w0 ⟨rfl, hb0⟩
      have B0 := hidP hb0
      clear hb0
      go_wp2_with fail
      go_ret
      exact ⟨q2, rfl, HQ2.out, B0.out⟩
    | false =>
      rw [hp] at HI
      clear hp h1 h2
      go_enter Try.func11, Try.ntmps11
      go_wp2_with fail
      refine (HI.out _).mono ?_
      rintro e w0 ⟨rfl, hb0⟩
      have B0 := hidP hb0
      obtain ⟨hbl, hcl⟩ := HL.out w0
      have B1 := hidP (step_below B0.out hbl)
      have h0r : 0 + r = r := Nat.zero_add r
      clear hb0 hbl
      go_wp2_with fail
      go_ret
      exact ⟨q, rfl, HQ.out, B1.out⟩
  · obtain ⟨hbl, hcl⟩ := HL.out w
    have B1 := hidP hbl
    have h0r : 0 + r = r := Nat.zero_add r
    clear h1 h2 hbl HI
    go_enter Try.func11, Try.ntmps11
    go_wp2_with fail
    go_ret
    exact ⟨q, rfl, HQ.out, B1.out⟩
end Go.Proofs.Ytokdcgmjpnanoaa
