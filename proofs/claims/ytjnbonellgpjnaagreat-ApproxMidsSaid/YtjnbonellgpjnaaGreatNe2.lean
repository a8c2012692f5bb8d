/- Distances between a fraction and floats, as fractions; a cell of a box stored. -/
import Derived.Test.YtjnbonellgpjnaaGreatNe
import Derived.Test.YtjnbonellgpjnaaGreatDc
import Derived.Test.YtjnbonellgpjnaaGreatKS
set_option linter.unusedVariables false
set_option linter.unusedSimpArgs false
namespace Go.Proofs.YtjnbonellgpjnaaGreat
open Go.RowKit

theorem cross_step {A B z S C D U dd : Int} (hD : D ≠ 0) (h1 : B * U = S * D) (h2 : z * (C*D) = (A*D + -B*C) * dd) : z * (C * U) = (A*U - S*C) * dd := by
  apply Int.eq_of_mul_eq_mul_right hD; grind
theorem cross_le {z1 z2 P1 P2 d1 d2 K : Nat} (hK : 0 < K) (h1 : z1 * K = P1 * d1) (h2 : z2 * K = P2 * d2) (h : P1 ≤ P2) : z1 * d2 ≤ z2 * d1 := by
  have h3 := Nat.mul_le_mul_right (d1 * d2) h
  have e1 : P1 * (d1 * d2) = z1 * d2 * K := by rw [← Nat.mul_assoc, ← h1]; exact Nat.mul_right_comm ..
  have e2 : P2 * (d1 * d2) = z2 * d1 * K := by rw [Nat.mul_comm d1, ← Nat.mul_assoc, ← h2]; exact Nat.mul_right_comm ..
  rw [e1, e2] at h3
  exact Nat.le_of_mul_le_mul_right h3 hK
theorem cross_end {a b : Int} {z1 z2 d1 d2 c d : Nat} (h1 : a * d1 = z1 * c) (h2 : b * d2 = z2 * d) (hd1 : 0 < d1) (hd2 : 0 < d2) (h : z1 * d2 ≤ z2 * d1) : a * d + -b * c ≤ 0 := by
  have hp : (0 : Int) < (d1 : Int) * (d2 : Int) := Int.mul_pos (by omega) (by omega)
  have h3 := Nat.mul_le_mul_right (c * d) h
  have h4 : ((z1 * d2 * (c * d) : Nat) : Int) ≤ ((z2 * d1 * (c * d) : Nat) : Int) := by omega
  simp only [Int.natCast_mul] at h4
  have e1 : (z1 : Int) * d2 * (c * d) = a * d * (d1 * d2) := by
    rw [show (z1 : Int) * d2 * (c * d) = (z1 * c) * d2 * d by ac_rfl, ← h1]; ac_rfl
  have e2 : (z2 : Int) * d1 * (c * d) = b * c * (d1 * d2) := by
    rw [show (z2 : Int) * d1 * (c * d) = (z2 * d) * d1 * c by ac_rfl, ← h2]; ac_rfl
  rw [e1, e2] at h4
  have k : a * d ≤ b * c := Int.le_of_mul_le_mul_right h4 hp
  rw [Int.neg_mul]; omega

theorem qd_pos (z : Int) (d : Nat) : 0 < qden z d := Nat.pos_of_ne_zero (qden_ne z d)
theorem fden_pos (b : Nat) : 0 < fdenom b := qd_pos _ _
theorem from_units (b : Nat) : fnumer b * (units : Int) = smag b * (fdenom b : Int) := q_crossD (smag b) (Nat.pos_iff_ne_zero.1 units_pos)
theorem from_plainN (b : Nat) : qnum (fnumer b) (fdenom b) = fnumer b ∧ qden (fnumer b) (fdenom b) = fdenom b := by
  unfold fnumer fdenom
  exact ⟨qnum_plain _ _, qden_plain _ _⟩

/-- The difference between A/C and a float. -/
theorem dist {A : Int} {C : Nat} (hC : 0 < C) (b : Nat) {z : Int} {d : Nat} (hz : qnum (A * (fdenom b : Int) + -(fnumer b) * (C : Int)) (C * fdenom b) = z) (hd : qden (A * (fdenom b : Int) + -(fnumer b) * (C : Int)) (C * fdenom b) = d) :
    z.natAbs * (C * units) = (A * (units : Int) - smag b * (C : Int)).natAbs * d := by
  have hp := fden_pos b
  have h2 := q_crossD (A * (fdenom b : Int) + -(fnumer b) * (C : Int)) (d := C * fdenom b) (Nat.pos_iff_ne_zero.1 (Nat.mul_pos hC hp))
  rw [hz, hd, Int.natCast_mul] at h2
  have h3 := cross_step (by omega) (from_units b) h2
  have h4 := congrArg Int.natAbs h3
  rw [Int.natAbs_mul, Int.natAbs_mul, Int.natAbs_mul, Int.natAbs_natCast, Int.natAbs_natCast, Int.natAbs_natCast] at h4
  exact h4

/-- No float is nearer than the one that A/C becomes. -/
theorem near_cmp {A : Int} {C : Nat} (hC : 0 < C) (hr : rung (tq A C) < 9218868437227405312) (f : Nat) {z1 z2 : Int} {d1 d2 : Nat}
    (hz1 : qnum (A * (fdenom (tq A C) : Int) + -(fnumer (tq A C)) * (C : Int)) (C * fdenom (tq A C)) = z1) (hd1 : qden (A * (fdenom (tq A C) : Int) + -(fnumer (tq A C)) * (C : Int)) (C * fdenom (tq A C)) = d1)
    (hz2 : qnum (A * (fdenom f : Int) + -(fnumer f) * (C : Int)) (C * fdenom f) = z2) (hd2 : qden (A * (fdenom f : Int) + -(fnumer f) * (C : Int)) (C * fdenom f) = d2) :
    sgnI (qnum (qnum (z1.natAbs : Int) d1 * (qden (z2.natAbs : Int) d2 : Int) + -(qnum (z2.natAbs : Int) d2) * (qden (z1.natAbs : Int) d1 : Int)) (qden (z1.natAbs : Int) d1 * qden (z2.natAbs : Int) d2)) ≤ 0 := by
  have k1 := dist hC _ hz1 hd1
  have k2 := dist hC _ hz2 hd2
  have k3 := cross_le (Nat.mul_pos hC units_pos) k1 k2 (near_signed hC hr f)
  have p1 : 0 < d1 := by rw [← hd1]; exact qd_pos _ _
  have p2 : 0 < d2 := by rw [← hd2]; exact qd_pos _ _
  rw [sgnI_qnum (Nat.mul_pos (qd_pos _ _) (qd_pos _ _))]
  have k4 := cross_end (q_crossD (z1.natAbs : Int) (Nat.pos_iff_ne_zero.1 p1)) (q_crossD (z2.natAbs : Int) (Nat.pos_iff_ne_zero.1 p2)) p1 p2 k3
  unfold sgnI
  split
  · decide
  · split
    · decide
    · omega

theorem zval_mag (z : Int) : zval false (zlim z) = (z.natAbs : Int) := by
  unfold zval zlim; rw [val_limbs]; simp

/-! ### One cell stored -/
theorem Blk.set0 {w : World} {g : Nat} {a b c : Value} (h : Blk w g #[a, b, c]) (x : Value) : Blk (w.setCell ⟨g, 0, none⟩ x) g #[x, b, c] := by
  obtain ⟨t, h⟩ := h
  refine ⟨t, ?_⟩
  simp [World.setCell, Array.getElem?_modify, h]
theorem Blk.set0o {w : World} {g k : Nat} {cs : Array Value} (h : Blk w g cs) (hne : g ≠ k) (x : Value) : Blk (w.setCell ⟨k, 0, none⟩ x) g cs :=
  h.grown (grownBy_set (World.grownBy.refl _ _) _ _) hne
theorem SeesQ.set0 {w : World} {v : Value} {n : Bool} {a d : List Nat} (h : SeesQ w v n a d) {g : Nat} {n0 : Bool} {p q : Option Addr} {i j k l : Nat} (hy : Blk w g #[.bool n0, .slice p i j, .slice q k l]) (x : Value) : SeesQ (w.setCell ⟨g, 0, none⟩ x) v n a d := by
  obtain ⟨m, u, rfl, hm, hu⟩ := h
  exact ⟨m, u, rfl, hm.store hy (NoInt.three _ _ _ _ _ _ _) (grownBy_set (World.grownBy.refl _ _) _ _), hu.store hy (NoInt.three _ _ _ _ _ _ _) (grownBy_set (World.grownBy.refl _ _) _ _)⟩
theorem below_set0 {w W : World} {g : Nat} (h : Below w.heap.size w W) (hg : w.heap.size ≤ g) (x : Value) : Below w.heap.size w (W.setCell ⟨g, 0, none⟩ x) := h.grown (grownBy_set (World.grownBy.refl W (some g)) _ _) h.size (fun k e => by simp at e; omega)
theorem SeesQ.unsigned {w : World} {b n : Bool} {m u : Value} {l d : List Nat} (h : SeesQ w (.agg #[.bool b, m, u]) n l d) : SeesQ w (.agg #[.bool false, m, u]) false l d := by
  obtain ⟨m', u', e, hm, hu⟩ := h
  simp only [Value.agg.injEq, Array.mk.injEq, List.cons.injEq, and_true] at e
  obtain ⟨-, e1, e2⟩ := e
  subst e1; subst e2
  exact ⟨_, _, rfl, hm, hu⟩
end Go.Proofs.YtjnbonellgpjnaaGreat
