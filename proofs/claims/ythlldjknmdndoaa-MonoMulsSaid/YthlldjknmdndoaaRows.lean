/-
  No cell of these rows narrows 'for every input' (looked for: loops, veiled, ifaces, maps, wideKeys, modest, calm, conditions, laid).
  DERIVED. THE GIVEN ROWS OF THIS SEAT. 9 by the template 'for every input the law returns true; each argument reads behind the call as it read before'; 0 by the template 'total and deterministic' (their statements: YthlldjknmdndoaaTotals.lean).
  GIVEN WITH THE SEED: the statements are not yours to turn. If you find one false, say at which input.
  Laid BY PROGRAM, IN A SANDBOX (cutbox-rows.mjs): the forced cells as the released guide's own fill.sh prints them over the translation 3c0f8d3860f1f315… (all of the seat's roots in one cut). By AI agents, Wed Nov 11 2026. No macro, syntax, notation, axiom, sorry.
-/
import Derived.Test.YthlldjknmdndoaaChecked
import GoSem.Claim
import GoSem.ClaimJoined
import GoSem.ClaimMapViews
import Derived.JoinedTies
import Derived.KernelRfl
namespace Go.Proofs.Ythlldjknmdndoaa
/- THE CELL 'sum', in the pinned program and in every row, IS THE sha256 OF THE DUMP (.gsa) THAT YthlldjknmdndoaaProg.lean LOADS. Nothing in Lean hashes anything: it is a label: what it is worth is what the hold of that sum in a sandbox is worth. -/
noncomputable def Try.pinned : Pinned := { name := "ythlldjknmdndoaa", sum := "3c0f8d3860f1f3153ee75899c974639131b0797f08c04c202cb434eef7859aba", checked := Try.checked }
namespace Rows
def none {H : Type} : Left H := { results := [], args := [] }

/-- 'primroselaw06.MonoChecks': WHATEVER THE INPUT: true; the input reads as it did. -/
def monoChecksSpec : ChangeSpec := { name := "monoChecks", fn := fun _ => fun
  | [d1, d2] => { results := [.lit (.bool true)], args := [d1, d2] }
  | _ => none }
def monoChecksRow : OpenClaim := { program := "ythlldjknmdndoaa", sum := "3c0f8d3860f1f3153ee75899c974639131b0797f08c04c202cb434eef7859aba", func := "primrose/primroselaw06.MonoChecks", spec := "monoChecks", unfollowed := true, recurses := true, apart := false }
def MonoChecksSaid : Prop := monoChecksRow.holds Try.pinned (OpenSpec.ofChange monoChecksSpec)

/-- ITS FALSE NEIGHBOUR: 'it returns false'. Refute it at one input. -/
def monoChecksWrong : ChangeSpec := { name := "monoChecks", fn := fun _ => fun
  | [d1, d2] => { results := [.lit (.bool false)], args := [d1, d2] }
  | _ => none }
def MonoChecksWrongFalsely : Prop := monoChecksRow.holds Try.pinned (OpenSpec.ofChange monoChecksWrong)

/-- 'primroselaw06.MonoCmps': WHATEVER THE INPUT: true; the input reads as it did. -/
def monoCmpsSpec : ChangeSpec := { name := "monoCmps", fn := fun _ => fun
  | [d1, d2, d3] => { results := [.lit (.bool true)], args := [d1, d2, d3] }
  | _ => none }
def monoCmpsRow : OpenClaim := { program := "ythlldjknmdndoaa", sum := "3c0f8d3860f1f3153ee75899c974639131b0797f08c04c202cb434eef7859aba", func := "primrose/primroselaw06.MonoCmps", spec := "monoCmps", unfollowed := true, recurses := true, apart := false }
def MonoCmpsSaid : Prop := monoCmpsRow.holds Try.pinned (OpenSpec.ofChange monoCmpsSpec)

/-- ITS FALSE NEIGHBOUR: 'it returns false'. Refute it at one input. -/
def monoCmpsWrong : ChangeSpec := { name := "monoCmps", fn := fun _ => fun
  | [d1, d2, d3] => { results := [.lit (.bool false)], args := [d1, d2, d3] }
  | _ => none }
def MonoCmpsWrongFalsely : Prop := monoCmpsRow.holds Try.pinned (OpenSpec.ofChange monoCmpsWrong)

/-- 'primroselaw06.MonoMuls': WHATEVER THE INPUT: true; the input reads as it did. -/
def monoMulsSpec : ChangeSpec := { name := "monoMuls", fn := fun _ => fun
  | [d1, d2] => { results := [.lit (.bool true)], args := [d1, d2] }
  | _ => none }
def monoMulsRow : OpenClaim := { program := "ythlldjknmdndoaa", sum := "3c0f8d3860f1f3153ee75899c974639131b0797f08c04c202cb434eef7859aba", func := "primrose/primroselaw06.MonoMuls", spec := "monoMuls", unfollowed := true, recurses := true, apart := false }
def MonoMulsSaid : Prop := monoMulsRow.holds Try.pinned (OpenSpec.ofChange monoMulsSpec)

/-- ITS FALSE NEIGHBOUR: 'it returns false'. Refute it at one input. -/
def monoMulsWrong : ChangeSpec := { name := "monoMuls", fn := fun _ => fun
  | [d1, d2] => { results := [.lit (.bool false)], args := [d1, d2] }
  | _ => none }
def MonoMulsWrongFalsely : Prop := monoMulsRow.holds Try.pinned (OpenSpec.ofChange monoMulsWrong)

/-- 'primroselaw06.MonoLcms': WHATEVER THE INPUT: true; the input reads as it did. -/
def monoLcmsSpec : ChangeSpec := { name := "monoLcms", fn := fun _ => fun
  | [d1, d2] => { results := [.lit (.bool true)], args := [d1, d2] }
  | _ => none }
def monoLcmsRow : OpenClaim := { program := "ythlldjknmdndoaa", sum := "3c0f8d3860f1f3153ee75899c974639131b0797f08c04c202cb434eef7859aba", func := "primrose/primroselaw06.MonoLcms", spec := "monoLcms", unfollowed := true, recurses := true, apart := false }
def MonoLcmsSaid : Prop := monoLcmsRow.holds Try.pinned (OpenSpec.ofChange monoLcmsSpec)

/-- ITS FALSE NEIGHBOUR: 'it returns false'. Refute it at one input. -/
def monoLcmsWrong : ChangeSpec := { name := "monoLcms", fn := fun _ => fun
  | [d1, d2] => { results := [.lit (.bool false)], args := [d1, d2] }
  | _ => none }
def MonoLcmsWrongFalsely : Prop := monoLcmsRow.holds Try.pinned (OpenSpec.ofChange monoLcmsWrong)

/-- 'primroselaw06.MonoOrders': WHATEVER THE INPUT: true; the input reads as it did. -/
def monoOrdersSpec : ChangeSpec := { name := "monoOrders", fn := fun _ => fun
  | [d1, d2, d3, d4] => { results := [.lit (.bool true)], args := [d1, d2, d3, d4] }
  | _ => none }
def monoOrdersRow : OpenClaim := { program := "ythlldjknmdndoaa", sum := "3c0f8d3860f1f3153ee75899c974639131b0797f08c04c202cb434eef7859aba", func := "primrose/primroselaw06.MonoOrders", spec := "monoOrders", unfollowed := true, recurses := true, apart := false }
def MonoOrdersSaid : Prop := monoOrdersRow.holds Try.pinned (OpenSpec.ofChange monoOrdersSpec)

/-- ITS FALSE NEIGHBOUR: 'it returns false'. Refute it at one input. -/
def monoOrdersWrong : ChangeSpec := { name := "monoOrders", fn := fun _ => fun
  | [d1, d2, d3, d4] => { results := [.lit (.bool false)], args := [d1, d2, d3, d4] }
  | _ => none }
def MonoOrdersWrongFalsely : Prop := monoOrdersRow.holds Try.pinned (OpenSpec.ofChange monoOrdersWrong)

/-- 'primroselaw06.MonoKeeps': WHATEVER THE INPUT: true; the input reads as it did. -/
def monoKeepsSpec : ChangeSpec := { name := "monoKeeps", fn := fun _ => fun
  | [d1, d2, d3, d4] => { results := [.lit (.bool true)], args := [d1, d2, d3, d4] }
  | _ => none }
def monoKeepsRow : OpenClaim := { program := "ythlldjknmdndoaa", sum := "3c0f8d3860f1f3153ee75899c974639131b0797f08c04c202cb434eef7859aba", func := "primrose/primroselaw06.MonoKeeps", spec := "monoKeeps", unfollowed := true, recurses := true, apart := false }
def MonoKeepsSaid : Prop := monoKeepsRow.holds Try.pinned (OpenSpec.ofChange monoKeepsSpec)

/-- ITS FALSE NEIGHBOUR: 'it returns false'. Refute it at one input. -/
def monoKeepsWrong : ChangeSpec := { name := "monoKeeps", fn := fun _ => fun
  | [d1, d2, d3, d4] => { results := [.lit (.bool false)], args := [d1, d2, d3, d4] }
  | _ => none }
def MonoKeepsWrongFalsely : Prop := monoKeepsRow.holds Try.pinned (OpenSpec.ofChange monoKeepsWrong)

/-- 'primroselaw06.MonoBack': WHATEVER THE INPUT: true; the input reads as it did. -/
def monoBackSpec : ChangeSpec := { name := "monoBack", fn := fun _ => fun
  | [d1, d2] => { results := [.lit (.bool true)], args := [d1, d2] }
  | _ => none }
def monoBackRow : OpenClaim := { program := "ythlldjknmdndoaa", sum := "3c0f8d3860f1f3153ee75899c974639131b0797f08c04c202cb434eef7859aba", func := "primrose/primroselaw06.MonoBack", spec := "monoBack", unfollowed := true, recurses := true, apart := false }
def MonoBackSaid : Prop := monoBackRow.holds Try.pinned (OpenSpec.ofChange monoBackSpec)

/-- ITS FALSE NEIGHBOUR: 'it returns false'. Refute it at one input. -/
def monoBackWrong : ChangeSpec := { name := "monoBack", fn := fun _ => fun
  | [d1, d2] => { results := [.lit (.bool false)], args := [d1, d2] }
  | _ => none }
def MonoBackWrongFalsely : Prop := monoBackRow.holds Try.pinned (OpenSpec.ofChange monoBackWrong)

/-- 'primroselaw06.MonoShares': WHATEVER THE INPUT: true; the input reads as it did. -/
def monoSharesSpec : ChangeSpec := { name := "monoShares", fn := fun _ => fun
  | [d1, d2] => { results := [.lit (.bool true)], args := [d1, d2] }
  | _ => none }
def monoSharesRow : OpenClaim := { program := "ythlldjknmdndoaa", sum := "3c0f8d3860f1f3153ee75899c974639131b0797f08c04c202cb434eef7859aba", func := "primrose/primroselaw06.MonoShares", spec := "monoShares", unfollowed := true, recurses := true, apart := false }
def MonoSharesSaid : Prop := monoSharesRow.holds Try.pinned (OpenSpec.ofChange monoSharesSpec)

/-- ITS FALSE NEIGHBOUR: 'it returns false'. Refute it at one input. -/
def monoSharesWrong : ChangeSpec := { name := "monoShares", fn := fun _ => fun
  | [d1, d2] => { results := [.lit (.bool false)], args := [d1, d2] }
  | _ => none }
def MonoSharesWrongFalsely : Prop := monoSharesRow.holds Try.pinned (OpenSpec.ofChange monoSharesWrong)

/-- 'primroselaw06.MonoDegrees': WHATEVER THE INPUT: true; the input reads as it did. -/
def monoDegreesSpec : ChangeSpec := { name := "monoDegrees", fn := fun _ => fun
  | [d1, d2, d3, d4, d5, d6] => { results := [.lit (.bool true)], args := [d1, d2, d3, d4, d5, d6] }
  | _ => none }
def monoDegreesRow : OpenClaim := { program := "ythlldjknmdndoaa", sum := "3c0f8d3860f1f3153ee75899c974639131b0797f08c04c202cb434eef7859aba", func := "primrose/primroselaw06.MonoDegrees", spec := "monoDegrees", unfollowed := true, recurses := true, apart := false }
def MonoDegreesSaid : Prop := monoDegreesRow.holds Try.pinned (OpenSpec.ofChange monoDegreesSpec)

/-- ITS FALSE NEIGHBOUR: 'it returns false'. Refute it at one input. -/
def monoDegreesWrong : ChangeSpec := { name := "monoDegrees", fn := fun _ => fun
  | [d1, d2, d3, d4, d5, d6] => { results := [.lit (.bool false)], args := [d1, d2, d3, d4, d5, d6] }
  | _ => none }
def MonoDegreesWrongFalsely : Prop := monoDegreesRow.holds Try.pinned (OpenSpec.ofChange monoDegreesWrong)

/- THE SECOND FORM. 'bulk': how many values and letters a reading holds, each counted each time it is reached (what is shared counts as often as it is met; a slice's spare places count too). A statement '..UptoSaid' is the law's where the arguments, and the package variables that the reading takes, are together of bulk at most 1048576: NARROWER than '..Said'. Prove '..Said' where nothing that the law and all that it calls make is longer than what came in: it says more and counts as full. Else prove '..UptoSaid'. A law counts once. -/
mutual
def uptoBulk {H : Type} : DataW H → Nat
  | .lit (.string bytes) => bytes.length + 1
  | .lit _ => 1
  | .nil => 1
  | .ptr d => uptoBulk d + 1
  | .slice elems spare => uptoBulkAll elems + uptoBulkAll spare + 1
  | .agg parts => uptoBulkAll parts + 1
  | .iface _ d => uptoBulk d + 1
  | .map entries => uptoBulkEntries entries + 1
  | .held _ => 1
def uptoBulkAll {H : Type} : List (DataW H) → Nat
  | [] => 0
  | d :: r => uptoBulk d + uptoBulkAll r
def uptoBulkEntries {H : Type} : List (Lit × DataW H) → Nat
  | [] => 0
  | x :: r => uptoBulkEntry x + uptoBulkEntries r
def uptoBulkEntry {H : Type} : Lit × DataW H → Nat
  | (.string bytes, d) => bytes.length + uptoBulk d + 1
  | (_, d) => uptoBulk d + 1
 end
def uptoSmall : (H : Type) → List (DataW H) → Bool := fun _ ds => decide (uptoBulkAll ds ≤ 1048576)
def OpenSpec.upto (s : _root_.Go.ChangeSpec) : _root_.Go.OpenSpec := { _root_.Go.OpenSpec.ofChange s with cond := some uptoSmall }

/-- 'primroselaw06.MonoChecks', WHERE WHAT IT READS IS OF BULK AT MOST 1048576: true; the input reads as it did. -/
def monoChecksUptoRow : OpenClaim := { program := "ythlldjknmdndoaa", sum := "3c0f8d3860f1f3153ee75899c974639131b0797f08c04c202cb434eef7859aba", func := "primrose/primroselaw06.MonoChecks", spec := "monoChecks", unfollowed := true, recurses := true, apart := false, narrowed := true }
def MonoChecksUptoSaid : Prop := monoChecksUptoRow.holds Try.pinned (OpenSpec.upto monoChecksSpec)

/-- 'primroselaw06.MonoCmps', WHERE WHAT IT READS IS OF BULK AT MOST 1048576: true; the input reads as it did. -/
def monoCmpsUptoRow : OpenClaim := { program := "ythlldjknmdndoaa", sum := "3c0f8d3860f1f3153ee75899c974639131b0797f08c04c202cb434eef7859aba", func := "primrose/primroselaw06.MonoCmps", spec := "monoCmps", unfollowed := true, recurses := true, apart := false, narrowed := true }
def MonoCmpsUptoSaid : Prop := monoCmpsUptoRow.holds Try.pinned (OpenSpec.upto monoCmpsSpec)

/-- 'primroselaw06.MonoMuls', WHERE WHAT IT READS IS OF BULK AT MOST 1048576: true; the input reads as it did. -/
def monoMulsUptoRow : OpenClaim := { program := "ythlldjknmdndoaa", sum := "3c0f8d3860f1f3153ee75899c974639131b0797f08c04c202cb434eef7859aba", func := "primrose/primroselaw06.MonoMuls", spec := "monoMuls", unfollowed := true, recurses := true, apart := false, narrowed := true }
def MonoMulsUptoSaid : Prop := monoMulsUptoRow.holds Try.pinned (OpenSpec.upto monoMulsSpec)

/-- 'primroselaw06.MonoLcms', WHERE WHAT IT READS IS OF BULK AT MOST 1048576: true; the input reads as it did. -/
def monoLcmsUptoRow : OpenClaim := { program := "ythlldjknmdndoaa", sum := "3c0f8d3860f1f3153ee75899c974639131b0797f08c04c202cb434eef7859aba", func := "primrose/primroselaw06.MonoLcms", spec := "monoLcms", unfollowed := true, recurses := true, apart := false, narrowed := true }
def MonoLcmsUptoSaid : Prop := monoLcmsUptoRow.holds Try.pinned (OpenSpec.upto monoLcmsSpec)

/-- 'primroselaw06.MonoOrders', WHERE WHAT IT READS IS OF BULK AT MOST 1048576: true; the input reads as it did. -/
def monoOrdersUptoRow : OpenClaim := { program := "ythlldjknmdndoaa", sum := "3c0f8d3860f1f3153ee75899c974639131b0797f08c04c202cb434eef7859aba", func := "primrose/primroselaw06.MonoOrders", spec := "monoOrders", unfollowed := true, recurses := true, apart := false, narrowed := true }
def MonoOrdersUptoSaid : Prop := monoOrdersUptoRow.holds Try.pinned (OpenSpec.upto monoOrdersSpec)

/-- 'primroselaw06.MonoKeeps', WHERE WHAT IT READS IS OF BULK AT MOST 1048576: true; the input reads as it did. -/
def monoKeepsUptoRow : OpenClaim := { program := "ythlldjknmdndoaa", sum := "3c0f8d3860f1f3153ee75899c974639131b0797f08c04c202cb434eef7859aba", func := "primrose/primroselaw06.MonoKeeps", spec := "monoKeeps", unfollowed := true, recurses := true, apart := false, narrowed := true }
def MonoKeepsUptoSaid : Prop := monoKeepsUptoRow.holds Try.pinned (OpenSpec.upto monoKeepsSpec)

/-- 'primroselaw06.MonoBack', WHERE WHAT IT READS IS OF BULK AT MOST 1048576: true; the input reads as it did. -/
def monoBackUptoRow : OpenClaim := { program := "ythlldjknmdndoaa", sum := "3c0f8d3860f1f3153ee75899c974639131b0797f08c04c202cb434eef7859aba", func := "primrose/primroselaw06.MonoBack", spec := "monoBack", unfollowed := true, recurses := true, apart := false, narrowed := true }
def MonoBackUptoSaid : Prop := monoBackUptoRow.holds Try.pinned (OpenSpec.upto monoBackSpec)

/-- 'primroselaw06.MonoShares', WHERE WHAT IT READS IS OF BULK AT MOST 1048576: true; the input reads as it did. -/
def monoSharesUptoRow : OpenClaim := { program := "ythlldjknmdndoaa", sum := "3c0f8d3860f1f3153ee75899c974639131b0797f08c04c202cb434eef7859aba", func := "primrose/primroselaw06.MonoShares", spec := "monoShares", unfollowed := true, recurses := true, apart := false, narrowed := true }
def MonoSharesUptoSaid : Prop := monoSharesUptoRow.holds Try.pinned (OpenSpec.upto monoSharesSpec)

/-- 'primroselaw06.MonoDegrees', WHERE WHAT IT READS IS OF BULK AT MOST 1048576: true; the input reads as it did. -/
def monoDegreesUptoRow : OpenClaim := { program := "ythlldjknmdndoaa", sum := "3c0f8d3860f1f3153ee75899c974639131b0797f08c04c202cb434eef7859aba", func := "primrose/primroselaw06.MonoDegrees", spec := "monoDegrees", unfollowed := true, recurses := true, apart := false, narrowed := true }
def MonoDegreesUptoSaid : Prop := monoDegreesUptoRow.holds Try.pinned (OpenSpec.upto monoDegreesSpec)

end Rows
end Go.Proofs.Ythlldjknmdndoaa
