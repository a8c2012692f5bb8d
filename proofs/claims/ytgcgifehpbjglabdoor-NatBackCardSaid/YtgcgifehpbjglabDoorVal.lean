/- The contracts of layer 1's sums, for whatever value reads as a list of limbs. -/
import Derived.Test.YtgcgifehpbjglabDoorFrame
import Derived.Test.YtgcgifehpbjglabDoorAdd
set_option linter.unusedVariables false
set_option linter.unusedSimpArgs false
namespace Go.Proofs.YtgcgifehpbjglabDoor
open Go.RowKit

theorem nat_add' {a b : Value} {l m : List Nat} {w : World} (ha : Sees w a l) (hb : Sees w b m) (hl : l.length ≤ 35184372088832) (hm : m.length ≤ 35184372088832) :
    Calls Tryd.prog 17 #[a, b] w fun e w' => ∃ v, e = .returned v ∧ Sees w' v (limbs (val l + val m)) ∧ Below w.heap.size w w' := by
  have hA := ha; have hB := hb
  obtain ⟨A, ca, rfl, -, -, -, -, -⟩ := ha
  obtain ⟨B, cb, rfl, -, -, -, -, -⟩ := hb
  exact nat_add _ _ _ _ _ _ _ _ _ hA hB hl hm
theorem nat_bits' {a : Value} {l : List Nat} {w : World} (ha : Sees w a l) :
    Calls Tryd.prog 9 #[a] w fun e w' => e = .returned (.int .i64 (bitsN (val l) : Nat)) ∧ w = w' := by
  have hA := ha
  obtain ⟨A, ca, rfl, -, -, -, -, -⟩ := ha
  exact nat_bits _ _ _ _ _ hA
theorem nat_plain' {a : Value} {l : List Nat} {w : World} (ha : Sees w a l) (hl : l.length ≤ 35184372088832) :
    Calls Tryd.prog 15 #[a] w fun e w' => ∃ v, e = .returned v ∧ Sees w' v (limbs (val l)) ∧ Below w.heap.size w w' :=
  (plain_any a l w ha hl).mono fun _ _ h => h.sees (by have := (limbs_prefix ha.ok).2; omega)

end Go.Proofs.YtgcgifehpbjglabDoor
