/- The contracts of layer 1's sums, for whatever value reads as a list of limbs. -/
import Derived.Test.YtfjanomjmlcgaaaDoorFrame
import Derived.Test.YtfjanomjmlcgaaaDoorSub
set_option linter.unusedVariables false
set_option linter.unusedSimpArgs false
namespace Go.Proofs.YtfjanomjmlcgaaaDoor
open Go.RowKit

theorem nat_add' {a b : Value} {l m : List Nat} {w : World} (ha : Sees w a l) (hb : Sees w b m) (hl : l.length ≤ 35184372088832) (hm : m.length ≤ 35184372088832) :
    Calls Tryd.prog 23 #[a, b] w fun e w' => ∃ v, e = .returned v ∧ Sees w' v (limbs (val l + val m)) ∧ Below w.heap.size w w' := by
  have hA := ha; have hB := hb
  obtain ⟨A, ca, rfl, -, -, -, -, -⟩ := ha
  obtain ⟨B, cb, rfl, -, -, -, -, -⟩ := hb
  exact nat_add _ _ _ _ _ _ _ _ _ hA hB hl hm
theorem nat_cmp' {a b : Value} {l m : List Nat} {w : World} (ha : Sees w a l) (hb : Sees w b m) :
    Calls Tryd.prog 22 #[a, b] w fun e w' => e = .returned (.int .i64 (cmpI (val l) (val m))) ∧ Below w.heap.size w w' := by
  have hA := ha; have hB := hb
  obtain ⟨A, ca, rfl, -, -, -, -, -⟩ := ha
  obtain ⟨B, cb, rfl, -, -, -, -, -⟩ := hb
  exact nat_cmp _ _ _ _ _ _ _ _ _ hA hB
theorem nat_bits' {a : Value} {l : List Nat} {w : World} (ha : Sees w a l) :
    Calls Tryd.prog 20 #[a] w fun e w' => e = .returned (.int .i64 (bitsN (val l) : Nat)) ∧ w = w' := by
  have hA := ha
  obtain ⟨A, ca, rfl, -, -, -, -, -⟩ := ha
  exact nat_bits _ _ _ _ _ hA
theorem nat_sub_no' {a b : Value} {l m : List Nat} {w : World} (ha : Sees w a l) (hb : Sees w b m) (hlt : val l < val m) :
    Calls Tryd.prog 81 #[a, b] w fun e w' => e = .returned (.tuple #[.slice none 0 0, .bool false]) ∧ Below w.heap.size w w' := by
  have hA := ha; have hB := hb
  obtain ⟨A, ca, rfl, -, -, -, -, -⟩ := ha
  obtain ⟨B, cb, rfl, -, -, -, -, -⟩ := hb
  exact nat_sub_no _ _ _ _ _ _ _ _ _ hA hB hlt
theorem nat_sub_ok' {a b : Value} {l m : List Nat} {w : World} (ha : Sees w a l) (hb : Sees w b m) (hl : l.length ≤ 35184372088832) (hle : val m ≤ val l) :
    Calls Tryd.prog 81 #[a, b] w fun e w' => ∃ v, e = .returned (.tuple #[v, .bool true]) ∧ Sees w' v (limbs (val l - val m)) ∧ Below w.heap.size w w' := by
  have hA := ha; have hB := hb
  obtain ⟨A, ca, rfl, -, -, -, -, -⟩ := ha
  obtain ⟨B, cb, rfl, -, -, -, -, -⟩ := hb
  exact nat_sub_ok _ _ _ _ _ _ _ _ _ hA hB hl hle
theorem nat_plain' {a : Value} {l : List Nat} {w : World} (ha : Sees w a l) (hl : l.length ≤ 35184372088832) :
    Calls Tryd.prog 24 #[a] w fun e w' => ∃ v, e = .returned v ∧ Sees w' v (limbs (val l)) ∧ Below w.heap.size w w' :=
  (plain_any a l w ha hl).mono fun _ _ h => h.sees (by have := (limbs_prefix ha.ok).2; omega)

theorem val_lt' {l : List Nat} (h : Ok l) (k : Nat) (hk : l.length ≤ k) : val l < 4294967296 ^ k :=
  Nat.lt_of_lt_of_le (val_lt h) (Nat.pow_le_pow_right (by decide) hk)
/-- A sum is a limb longer at most. -/
theorem sum_length {l m : List Nat} (hl : Ok l) (hm : Ok m) (k : Nat) (h1 : l.length ≤ k) (h2 : m.length ≤ k) : (limbs (val l + val m)).length ≤ k + 1 := by
  apply limbs_length_le
  have := val_lt' hl k h1
  have := val_lt' hm k h2
  rw [Nat.pow_succ]
  omega
/-- A difference is no longer. -/
theorem sub_length {l : List Nat} (hl : Ok l) (k : Nat) (h1 : l.length ≤ k) (y : Nat) : (limbs (val l - y)).length ≤ k := by
  apply limbs_length_le
  have := val_lt' hl k h1
  omega
end Go.Proofs.YtfjanomjmlcgaaaDoor
