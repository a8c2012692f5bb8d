/- The statements' three: by its contract. -/
import Derived.Test.YthlldjknmdndoaaMoQ
import Derived.Test.YthlldjknmdndoaaMoT
import Derived.Test.YthlldjknmdndoaaMoTa
import Derived.Test.YthlldjknmdndoaaMoTb
import Derived.Test.YthlldjknmdndoaaMoTc
import Derived.Test.YthlldjknmdndoaaMoTd
set_option linter.unusedVariables false
set_option linter.unusedSimpArgs false
namespace Go.Proofs.Ythlldjknmdndoaa
open Go.RowKit

/-- The names x, y, z. -/
def names3 : List ByteArray := [⟨#[120]⟩, ⟨#[121]⟩, ⟨#[122]⟩]

/-- Three names in a new block, between two others. -/
theorem three_sees (w : World) (A R : Obj) (t : TypeId) (o f : Int) : SeesR (((w.alloc A).alloc (.cells #[.string ⟨#[120]⟩, .string ⟨#[121]⟩, .string ⟨#[122]⟩] t)).alloc R) (.agg #[.slice (some ⟨w.heap.size + 1, 0, none⟩) 3 3, .int .i64 o, .int .i64 f]) names3 o f := by
  refine ⟨_, rfl, ?_⟩
  have h := SeesF.lit (f := Value.string) (d := ByteArray.empty) (w.alloc A) t names3 (by decide)
  rw [Deep.nblk_alloc] at h
  exact SeesF.below h ((Below.refl _ _).alloc (Nat.le_refl _) R)
theorem three_below (w : World) (A N R : Obj) : Below w.heap.size w (((w.alloc A).alloc N).alloc R) :=
  ((((Below.refl _ w).alloc (Nat.le_refl _) A).alloc (by simp) N).alloc (by simp; omega) R)

set_option maxHeartbeats 1000000 in
theorem law_three (o : Int) (w : World) :
    Calls Try.prog 30 #[.int .i64 o] w fun e w' => ∃ v, e = .returned v ∧ SeesR w' v names3 o (if o = 3 then 1 else 0) ∧ Below w.heap.size w w' := by
  by_cases h : o = 3
  · subst h
    rw [if_pos rfl]
    go_enter Try.func30, Try.ntmps30
    go_wp2
    refine bodyPost_ret (v := .agg #[.slice (some ⟨w.heap.size + 1, 0, none⟩) 3 3, .int .i64 3, .int .i64 1]) ?_ rfl ⟨_, rfl, three_sees w _ _ _ _ _, three_below w _ _ _⟩
    simp [results, Try.results30, go_sem]
  · rw [if_neg h]
    go_enter Try.func30, Try.ntmps30
    go_wp2
    refine bodyPost_ret (v := .agg #[.slice (some ⟨w.heap.size + 1, 0, none⟩) 3 3, .int .i64 o, .int .i64 0]) ?_ rfl ⟨_, rfl, three_sees w _ _ _ _ _, three_below w _ _ _⟩
    simp [results, Try.results30, go_sem]
end Go.Proofs.Ythlldjknmdndoaa
