/-
  No cell of these rows narrows 'for every input' (looked for: loops, veiled, ifaces, maps, wideKeys, modest, calm, conditions, laid).
  DERIVED. THE GIVEN ROWS OF THIS SEAT. 3 by the template 'for every input the law returns true; each argument reads behind the call as it read before'; 0 by the template 'total and deterministic' (their statements: YtokdcgmjpnanoaaTotals.lean).
  GIVEN WITH THE SEED: the statements are not yours to turn. If you find one false, say at which input.
  Laid BY PROGRAM, IN A SANDBOX (cutbox-rows.mjs): the forced cells as the released guide's own fill.sh prints them over the translation db46cc8d1a150163… (all of the seat's roots in one cut). By AI agents, Wed Nov 11 2026. No macro, syntax, notation, axiom, sorry.
-/
import Derived.Test.YtokdcgmjpnanoaaChecked
import GoSem.Claim
import GoSem.ClaimJoined
import GoSem.ClaimMapViews
import Derived.JoinedTies
import Derived.KernelRfl
namespace Go.Proofs.Ytokdcgmjpnanoaa
/- THE CELL 'sum', in the pinned program and in every row, IS THE sha256 OF THE DUMP (.gsa) THAT YtokdcgmjpnanoaaProg.lean LOADS. Nothing in Lean hashes anything: it is a label: what it is worth is what the hold of that sum in a sandbox is worth. -/
noncomputable def Try.pinned : Pinned := { name := "ytokdcgmjpnanoaa", sum := "db46cc8d1a150163598a4627ae02cf6f81db9c1e08dfc742bb2fa6f334c2bbcf", checked := Try.checked }
namespace Rows
def none {H : Type} : Left H := { results := [], args := [] }

/-- 'primroselaw11.SplitFactors': WHATEVER THE INPUT: true; the input reads as it did. -/
def splitFactorsSpec : ChangeSpec := { name := "splitFactors", fn := fun _ => fun
  | [d1, d2, d3] => { results := [.lit (.bool true)], args := [d1, d2, d3] }
  | _ => none }
def splitFactorsRow : OpenClaim := { program := "ytokdcgmjpnanoaa", sum := "db46cc8d1a150163598a4627ae02cf6f81db9c1e08dfc742bb2fa6f334c2bbcf", func := "primrose/primroselaw11.SplitFactors", spec := "splitFactors", unfollowed := true, recurses := true, apart := false }
def SplitFactorsSaid : Prop := splitFactorsRow.holds Try.pinned (OpenSpec.ofChange splitFactorsSpec)

/-- ITS FALSE NEIGHBOUR: 'it returns false'. Refute it at one input. -/
def splitFactorsWrong : ChangeSpec := { name := "splitFactors", fn := fun _ => fun
  | [d1, d2, d3] => { results := [.lit (.bool false)], args := [d1, d2, d3] }
  | _ => none }
def SplitFactorsWrongFalsely : Prop := splitFactorsRow.holds Try.pinned (OpenSpec.ofChange splitFactorsWrong)

/-- 'primroselaw11.SplitTests': WHATEVER THE INPUT: true; the input reads as it did. -/
def splitTestsSpec : ChangeSpec := { name := "splitTests", fn := fun _ => fun
  | [d1, d2] => { results := [.lit (.bool true)], args := [d1, d2] }
  | _ => none }
def splitTestsRow : OpenClaim := { program := "ytokdcgmjpnanoaa", sum := "db46cc8d1a150163598a4627ae02cf6f81db9c1e08dfc742bb2fa6f334c2bbcf", func := "primrose/primroselaw11.SplitTests", spec := "splitTests", unfollowed := true, recurses := true, apart := false }
def SplitTestsSaid : Prop := splitTestsRow.holds Try.pinned (OpenSpec.ofChange splitTestsSpec)

/-- ITS FALSE NEIGHBOUR: 'it returns false'. Refute it at one input. -/
def splitTestsWrong : ChangeSpec := { name := "splitTests", fn := fun _ => fun
  | [d1, d2] => { results := [.lit (.bool false)], args := [d1, d2] }
  | _ => none }
def SplitTestsWrongFalsely : Prop := splitTestsRow.holds Try.pinned (OpenSpec.ofChange splitTestsWrong)

/-- 'primroselaw11.SplitRefuses': WHATEVER THE INPUT: true; the input reads as it did. -/
def splitRefusesSpec : ChangeSpec := { name := "splitRefuses", fn := fun _ => fun
  | [d1, d2, d3] => { results := [.lit (.bool true)], args := [d1, d2, d3] }
  | _ => none }
def splitRefusesRow : OpenClaim := { program := "ytokdcgmjpnanoaa", sum := "db46cc8d1a150163598a4627ae02cf6f81db9c1e08dfc742bb2fa6f334c2bbcf", func := "primrose/primroselaw11.SplitRefuses", spec := "splitRefuses", unfollowed := true, recurses := true, apart := false }
def SplitRefusesSaid : Prop := splitRefusesRow.holds Try.pinned (OpenSpec.ofChange splitRefusesSpec)

/-- ITS FALSE NEIGHBOUR: 'it returns false'. Refute it at one input. -/
def splitRefusesWrong : ChangeSpec := { name := "splitRefuses", fn := fun _ => fun
  | [d1, d2, d3] => { results := [.lit (.bool false)], args := [d1, d2, d3] }
  | _ => none }
def SplitRefusesWrongFalsely : Prop := splitRefusesRow.holds Try.pinned (OpenSpec.ofChange splitRefusesWrong)

/- THE SECOND FORM. 'bulk': how many values and letters a reading holds, each counted each time it is reached (what is shared counts as often as it is met; a slice's spare places count too). A statement '..UptoSaid' is the law's where the arguments, and the package variables that the reading takes, are together of bulk at most 1048576: NARROWER than '..Said'. Prove '..Said' where nothing that the law and all that it calls make is longer than what came in: it says more and counts as full. Else prove '..UptoSaid'. A law counts once. -/
mutual
def uptoBulk {H : Type} : DataW H → Nat
  | .lit (.string bytes) => bytes.length + 1
  | .lit _ => 1
  | .nil => 1
  | .ptr d => uptoBulk d + 1
  | .slice elems spare => uptoBulkAll elems + uptoBulkAll spare + 1
  | .agg parts => uptoBulkAll parts + 1
  | .iface _ d => uptoBulk d + 1
  | .map entries => uptoBulkEntries entries + 1
  | .held _ => 1
def uptoBulkAll {H : Type} : List (DataW H) → Nat
  | [] => 0
  | d :: r => uptoBulk d + uptoBulkAll r
def uptoBulkEntries {H : Type} : List (Lit × DataW H) → Nat
  | [] => 0
  | x :: r => uptoBulkEntry x + uptoBulkEntries r
def uptoBulkEntry {H : Type} : Lit × DataW H → Nat
  | (.string bytes, d) => bytes.length + uptoBulk d + 1
  | (_, d) => uptoBulk d + 1
 end
def uptoSmall : (H : Type) → List (DataW H) → Bool := fun _ ds => decide (uptoBulkAll ds ≤ 1048576)
def OpenSpec.upto (s : _root_.Go.ChangeSpec) : _root_.Go.OpenSpec := { _root_.Go.OpenSpec.ofChange s with cond := some uptoSmall }

/-- 'primroselaw11.SplitFactors', WHERE WHAT IT READS IS OF BULK AT MOST 1048576: true; the input reads as it did. -/
def splitFactorsUptoRow : OpenClaim := { program := "ytokdcgmjpnanoaa", sum := "db46cc8d1a150163598a4627ae02cf6f81db9c1e08dfc742bb2fa6f334c2bbcf", func := "primrose/primroselaw11.SplitFactors", spec := "splitFactors", unfollowed := true, recurses := true, apart := false, narrowed := true }
def SplitFactorsUptoSaid : Prop := splitFactorsUptoRow.holds Try.pinned (OpenSpec.upto splitFactorsSpec)

/-- 'primroselaw11.SplitTests', WHERE WHAT IT READS IS OF BULK AT MOST 1048576: true; the input reads as it did. -/
def splitTestsUptoRow : OpenClaim := { program := "ytokdcgmjpnanoaa", sum := "db46cc8d1a150163598a4627ae02cf6f81db9c1e08dfc742bb2fa6f334c2bbcf", func := "primrose/primroselaw11.SplitTests", spec := "splitTests", unfollowed := true, recurses := true, apart := false, narrowed := true }
def SplitTestsUptoSaid : Prop := splitTestsUptoRow.holds Try.pinned (OpenSpec.upto splitTestsSpec)

/-- 'primroselaw11.SplitRefuses', WHERE WHAT IT READS IS OF BULK AT MOST 1048576: true; the input reads as it did. -/
def splitRefusesUptoRow : OpenClaim := { program := "ytokdcgmjpnanoaa", sum := "db46cc8d1a150163598a4627ae02cf6f81db9c1e08dfc742bb2fa6f334c2bbcf", func := "primrose/primroselaw11.SplitRefuses", spec := "splitRefuses", unfollowed := true, recurses := true, apart := false, narrowed := true }
def SplitRefusesUptoSaid : Prop := splitRefusesUptoRow.holds Try.pinned (OpenSpec.upto splitRefusesSpec)

end Rows
end Go.Proofs.Ytokdcgmjpnanoaa
