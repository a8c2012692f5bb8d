/-
  No cell of these rows narrows 'for every input' (looked for: loops, veiled, ifaces, maps, wideKeys, modest, calm, conditions, laid).
  DERIVED. THE GIVEN ROWS OF THIS SEAT. 11 by the template 'for every input the law returns true; each argument reads behind the call as it read before'; 0 by the template 'total and deterministic' (their statements: YtbmneibliekfdaaTotals.lean).
  GIVEN WITH THE SEED: the statements are not yours to turn. If you find one false, say at which input.
  Laid BY PROGRAM, IN A SANDBOX (cutbox-rows.mjs): the forced cells as the released guide's own fill.sh prints them over the translation 19422d7f08d2b7a3… (all of the seat's roots in one cut). By AI agents, Wed Nov 11 2026. No macro, syntax, notation, axiom, sorry.
-/
import Derived.Test.YtbmneibliekfdaaChecked
import GoSem.Claim
import GoSem.ClaimJoined
import GoSem.ClaimMapViews
import Derived.JoinedTies
import Derived.KernelRfl
namespace Go.Proofs.Ytbmneibliekfdaa
/- THE CELL 'sum', in the pinned program and in every row, IS THE sha256 OF THE DUMP (.gsa) THAT YtbmneibliekfdaaProg.lean LOADS. Nothing in Lean hashes anything: it is a label: what it is worth is what the hold of that sum in a sandbox is worth. -/
noncomputable def Try.pinned : Pinned := { name := "ytbmneibliekfdaa", sum := "19422d7f08d2b7a39ba197c35174e424e65783add1570a53041005d8665a4dea", checked := Try.checked }
namespace Rows
def none {H : Type} : Left H := { results := [], args := [] }

/-- 'primroselaw10.ModularAdds': WHATEVER THE INPUT: true; the input reads as it did. -/
def modularAddsSpec : ChangeSpec := { name := "modularAdds", fn := fun _ => fun
  | [d1, d2, d3, d4] => { results := [.lit (.bool true)], args := [d1, d2, d3, d4] }
  | _ => none }
def modularAddsRow : OpenClaim := { program := "ytbmneibliekfdaa", sum := "19422d7f08d2b7a39ba197c35174e424e65783add1570a53041005d8665a4dea", func := "primrose/primroselaw10.ModularAdds", spec := "modularAdds", unfollowed := true, recurses := true, apart := false }
def ModularAddsSaid : Prop := modularAddsRow.holds Try.pinned (OpenSpec.ofChange modularAddsSpec)

/-- ITS FALSE NEIGHBOUR: 'it returns false'. Refute it at one input. -/
def modularAddsWrong : ChangeSpec := { name := "modularAdds", fn := fun _ => fun
  | [d1, d2, d3, d4] => { results := [.lit (.bool false)], args := [d1, d2, d3, d4] }
  | _ => none }
def ModularAddsWrongFalsely : Prop := modularAddsRow.holds Try.pinned (OpenSpec.ofChange modularAddsWrong)

/-- 'primroselaw10.ModularMuls': WHATEVER THE INPUT: true; the input reads as it did. -/
def modularMulsSpec : ChangeSpec := { name := "modularMuls", fn := fun _ => fun
  | [d1, d2, d3] => { results := [.lit (.bool true)], args := [d1, d2, d3] }
  | _ => none }
def modularMulsRow : OpenClaim := { program := "ytbmneibliekfdaa", sum := "19422d7f08d2b7a39ba197c35174e424e65783add1570a53041005d8665a4dea", func := "primrose/primroselaw10.ModularMuls", spec := "modularMuls", unfollowed := true, recurses := true, apart := false }
def ModularMulsSaid : Prop := modularMulsRow.holds Try.pinned (OpenSpec.ofChange modularMulsSpec)

/-- ITS FALSE NEIGHBOUR: 'it returns false'. Refute it at one input. -/
def modularMulsWrong : ChangeSpec := { name := "modularMuls", fn := fun _ => fun
  | [d1, d2, d3] => { results := [.lit (.bool false)], args := [d1, d2, d3] }
  | _ => none }
def ModularMulsWrongFalsely : Prop := modularMulsRow.holds Try.pinned (OpenSpec.ofChange modularMulsWrong)

/-- 'primroselaw10.ModularNone': WHATEVER THE INPUT: true; the input reads as it did. -/
def modularNoneSpec : ChangeSpec := { name := "modularNone", fn := fun _ => fun
  | [d1, d2, d3, d4] => { results := [.lit (.bool true)], args := [d1, d2, d3, d4] }
  | _ => none }
def modularNoneRow : OpenClaim := { program := "ytbmneibliekfdaa", sum := "19422d7f08d2b7a39ba197c35174e424e65783add1570a53041005d8665a4dea", func := "primrose/primroselaw10.ModularNone", spec := "modularNone", unfollowed := true, recurses := true, apart := false }
def ModularNoneSaid : Prop := modularNoneRow.holds Try.pinned (OpenSpec.ofChange modularNoneSpec)

/-- ITS FALSE NEIGHBOUR: 'it returns false'. Refute it at one input. -/
def modularNoneWrong : ChangeSpec := { name := "modularNone", fn := fun _ => fun
  | [d1, d2, d3, d4] => { results := [.lit (.bool false)], args := [d1, d2, d3, d4] }
  | _ => none }
def ModularNoneWrongFalsely : Prop := modularNoneRow.holds Try.pinned (OpenSpec.ofChange modularNoneWrong)

/-- 'primroselaw10.ModularGcds': WHATEVER THE INPUT: true; the input reads as it did. -/
def modularGcdsSpec : ChangeSpec := { name := "modularGcds", fn := fun _ => fun
  | [d1, d2, d3] => { results := [.lit (.bool true)], args := [d1, d2, d3] }
  | _ => none }
def modularGcdsRow : OpenClaim := { program := "ytbmneibliekfdaa", sum := "19422d7f08d2b7a39ba197c35174e424e65783add1570a53041005d8665a4dea", func := "primrose/primroselaw10.ModularGcds", spec := "modularGcds", unfollowed := true, recurses := true, apart := false }
def ModularGcdsSaid : Prop := modularGcdsRow.holds Try.pinned (OpenSpec.ofChange modularGcdsSpec)

/-- ITS FALSE NEIGHBOUR: 'it returns false'. Refute it at one input. -/
def modularGcdsWrong : ChangeSpec := { name := "modularGcds", fn := fun _ => fun
  | [d1, d2, d3] => { results := [.lit (.bool false)], args := [d1, d2, d3] }
  | _ => none }
def ModularGcdsWrongFalsely : Prop := modularGcdsRow.holds Try.pinned (OpenSpec.ofChange modularGcdsWrong)

/-- 'primroselaw10.ModularEvals': WHATEVER THE INPUT: true; the input reads as it did. -/
def modularEvalsSpec : ChangeSpec := { name := "modularEvals", fn := fun _ => fun
  | [d1, d2, d3] => { results := [.lit (.bool true)], args := [d1, d2, d3] }
  | _ => none }
def modularEvalsRow : OpenClaim := { program := "ytbmneibliekfdaa", sum := "19422d7f08d2b7a39ba197c35174e424e65783add1570a53041005d8665a4dea", func := "primrose/primroselaw10.ModularEvals", spec := "modularEvals", unfollowed := true, recurses := true, apart := false }
def ModularEvalsSaid : Prop := modularEvalsRow.holds Try.pinned (OpenSpec.ofChange modularEvalsSpec)

/-- ITS FALSE NEIGHBOUR: 'it returns false'. Refute it at one input. -/
def modularEvalsWrong : ChangeSpec := { name := "modularEvals", fn := fun _ => fun
  | [d1, d2, d3] => { results := [.lit (.bool false)], args := [d1, d2, d3] }
  | _ => none }
def ModularEvalsWrongFalsely : Prop := modularEvalsRow.holds Try.pinned (OpenSpec.ofChange modularEvalsWrong)

/-- 'primroselaw10.ModularPows': WHATEVER THE INPUT: true; the input reads as it did. -/
def modularPowsSpec : ChangeSpec := { name := "modularPows", fn := fun _ => fun
  | [d1, d2, d3, d4] => { results := [.lit (.bool true)], args := [d1, d2, d3, d4] }
  | _ => none }
def modularPowsRow : OpenClaim := { program := "ytbmneibliekfdaa", sum := "19422d7f08d2b7a39ba197c35174e424e65783add1570a53041005d8665a4dea", func := "primrose/primroselaw10.ModularPows", spec := "modularPows", unfollowed := true, recurses := true, apart := false }
def ModularPowsSaid : Prop := modularPowsRow.holds Try.pinned (OpenSpec.ofChange modularPowsSpec)

/-- ITS FALSE NEIGHBOUR: 'it returns false'. Refute it at one input. -/
def modularPowsWrong : ChangeSpec := { name := "modularPows", fn := fun _ => fun
  | [d1, d2, d3, d4] => { results := [.lit (.bool false)], args := [d1, d2, d3, d4] }
  | _ => none }
def ModularPowsWrongFalsely : Prop := modularPowsRow.holds Try.pinned (OpenSpec.ofChange modularPowsWrong)

/-- 'primroselaw10.ModularRing': WHATEVER THE INPUT: true; the input reads as it did. -/
def modularRingSpec : ChangeSpec := { name := "modularRing", fn := fun _ => fun
  | [d1, d2, d3, d4] => { results := [.lit (.bool true)], args := [d1, d2, d3, d4] }
  | _ => none }
def modularRingRow : OpenClaim := { program := "ytbmneibliekfdaa", sum := "19422d7f08d2b7a39ba197c35174e424e65783add1570a53041005d8665a4dea", func := "primrose/primroselaw10.ModularRing", spec := "modularRing", unfollowed := true, recurses := true, apart := false }
def ModularRingSaid : Prop := modularRingRow.holds Try.pinned (OpenSpec.ofChange modularRingSpec)

/-- ITS FALSE NEIGHBOUR: 'it returns false'. Refute it at one input. -/
def modularRingWrong : ChangeSpec := { name := "modularRing", fn := fun _ => fun
  | [d1, d2, d3, d4] => { results := [.lit (.bool false)], args := [d1, d2, d3, d4] }
  | _ => none }
def ModularRingWrongFalsely : Prop := modularRingRow.holds Try.pinned (OpenSpec.ofChange modularRingWrong)

/-- 'primroselaw10.ModularRests': WHATEVER THE INPUT: true; the input reads as it did. -/
def modularRestsSpec : ChangeSpec := { name := "modularRests", fn := fun _ => fun
  | [d1, d2, d3] => { results := [.lit (.bool true)], args := [d1, d2, d3] }
  | _ => none }
def modularRestsRow : OpenClaim := { program := "ytbmneibliekfdaa", sum := "19422d7f08d2b7a39ba197c35174e424e65783add1570a53041005d8665a4dea", func := "primrose/primroselaw10.ModularRests", spec := "modularRests", unfollowed := true, recurses := true, apart := false }
def ModularRestsSaid : Prop := modularRestsRow.holds Try.pinned (OpenSpec.ofChange modularRestsSpec)

/-- ITS FALSE NEIGHBOUR: 'it returns false'. Refute it at one input. -/
def modularRestsWrong : ChangeSpec := { name := "modularRests", fn := fun _ => fun
  | [d1, d2, d3] => { results := [.lit (.bool false)], args := [d1, d2, d3] }
  | _ => none }
def ModularRestsWrongFalsely : Prop := modularRestsRow.holds Try.pinned (OpenSpec.ofChange modularRestsWrong)

/-- 'primroselaw10.ModularShares': WHATEVER THE INPUT: true; the input reads as it did. -/
def modularSharesSpec : ChangeSpec := { name := "modularShares", fn := fun _ => fun
  | [d1, d2, d3, d4] => { results := [.lit (.bool true)], args := [d1, d2, d3, d4] }
  | _ => none }
def modularSharesRow : OpenClaim := { program := "ytbmneibliekfdaa", sum := "19422d7f08d2b7a39ba197c35174e424e65783add1570a53041005d8665a4dea", func := "primrose/primroselaw10.ModularShares", spec := "modularShares", unfollowed := true, recurses := true, apart := false }
def ModularSharesSaid : Prop := modularSharesRow.holds Try.pinned (OpenSpec.ofChange modularSharesSpec)

/-- ITS FALSE NEIGHBOUR: 'it returns false'. Refute it at one input. -/
def modularSharesWrong : ChangeSpec := { name := "modularShares", fn := fun _ => fun
  | [d1, d2, d3, d4] => { results := [.lit (.bool false)], args := [d1, d2, d3, d4] }
  | _ => none }
def ModularSharesWrongFalsely : Prop := modularSharesRow.holds Try.pinned (OpenSpec.ofChange modularSharesWrong)

/-- 'primroselaw10.ModularFrobenius': WHATEVER THE INPUT: true; the input reads as it did. -/
def modularFrobeniusSpec : ChangeSpec := { name := "modularFrobenius", fn := fun _ => fun
  | [d1, d2, d3, d4, d5, d6] => { results := [.lit (.bool true)], args := [d1, d2, d3, d4, d5, d6] }
  | _ => none }
def modularFrobeniusRow : OpenClaim := { program := "ytbmneibliekfdaa", sum := "19422d7f08d2b7a39ba197c35174e424e65783add1570a53041005d8665a4dea", func := "primrose/primroselaw10.ModularFrobenius", spec := "modularFrobenius", unfollowed := true, recurses := true, apart := false }
def ModularFrobeniusSaid : Prop := modularFrobeniusRow.holds Try.pinned (OpenSpec.ofChange modularFrobeniusSpec)

/-- ITS FALSE NEIGHBOUR: 'it returns false'. Refute it at one input. -/
def modularFrobeniusWrong : ChangeSpec := { name := "modularFrobenius", fn := fun _ => fun
  | [d1, d2, d3, d4, d5, d6] => { results := [.lit (.bool false)], args := [d1, d2, d3, d4, d5, d6] }
  | _ => none }
def ModularFrobeniusWrongFalsely : Prop := modularFrobeniusRow.holds Try.pinned (OpenSpec.ofChange modularFrobeniusWrong)

/-- 'primroselaw10.ModularValues': WHATEVER THE INPUT: true; the input reads as it did. -/
def modularValuesSpec : ChangeSpec := { name := "modularValues", fn := fun _ => fun
  | [d1, d2, d3, d4] => { results := [.lit (.bool true)], args := [d1, d2, d3, d4] }
  | _ => none }
def modularValuesRow : OpenClaim := { program := "ytbmneibliekfdaa", sum := "19422d7f08d2b7a39ba197c35174e424e65783add1570a53041005d8665a4dea", func := "primrose/primroselaw10.ModularValues", spec := "modularValues", unfollowed := true, recurses := true, apart := false }
def ModularValuesSaid : Prop := modularValuesRow.holds Try.pinned (OpenSpec.ofChange modularValuesSpec)

/-- ITS FALSE NEIGHBOUR: 'it returns false'. Refute it at one input. -/
def modularValuesWrong : ChangeSpec := { name := "modularValues", fn := fun _ => fun
  | [d1, d2, d3, d4] => { results := [.lit (.bool false)], args := [d1, d2, d3, d4] }
  | _ => none }
def ModularValuesWrongFalsely : Prop := modularValuesRow.holds Try.pinned (OpenSpec.ofChange modularValuesWrong)

/- THE SECOND FORM. 'bulk': how many values and letters a reading holds, each counted each time it is reached (what is shared counts as often as it is met; a slice's spare places count too). A statement '..UptoSaid' is the law's where the arguments, and the package variables that the reading takes, are together of bulk at most 1048576: NARROWER than '..Said'. Prove '..Said' where nothing that the law and all that it calls make is longer than what came in: it says more and counts as full. Else prove '..UptoSaid'. A law counts once. -/
mutual
def uptoBulk {H : Type} : DataW H → Nat
  | .lit (.string bytes) => bytes.length + 1
  | .lit _ => 1
  | .nil => 1
  | .ptr d => uptoBulk d + 1
  | .slice elems spare => uptoBulkAll elems + uptoBulkAll spare + 1
  | .agg parts => uptoBulkAll parts + 1
  | .iface _ d => uptoBulk d + 1
  | .map entries => uptoBulkEntries entries + 1
  | .held _ => 1
def uptoBulkAll {H : Type} : List (DataW H) → Nat
  | [] => 0
  | d :: r => uptoBulk d + uptoBulkAll r
def uptoBulkEntries {H : Type} : List (Lit × DataW H) → Nat
  | [] => 0
  | x :: r => uptoBulkEntry x + uptoBulkEntries r
def uptoBulkEntry {H : Type} : Lit × DataW H → Nat
  | (.string bytes, d) => bytes.length + uptoBulk d + 1
  | (_, d) => uptoBulk d + 1
 end
def uptoSmall : (H : Type) → List (DataW H) → Bool := fun _ ds => decide (uptoBulkAll ds ≤ 1048576)
def OpenSpec.upto (s : _root_.Go.ChangeSpec) : _root_.Go.OpenSpec := { _root_.Go.OpenSpec.ofChange s with cond := some uptoSmall }

/-- 'primroselaw10.ModularAdds', WHERE WHAT IT READS IS OF BULK AT MOST 1048576: true; the input reads as it did. -/
def modularAddsUptoRow : OpenClaim := { program := "ytbmneibliekfdaa", sum := "19422d7f08d2b7a39ba197c35174e424e65783add1570a53041005d8665a4dea", func := "primrose/primroselaw10.ModularAdds", spec := "modularAdds", unfollowed := true, recurses := true, apart := false, narrowed := true }
def ModularAddsUptoSaid : Prop := modularAddsUptoRow.holds Try.pinned (OpenSpec.upto modularAddsSpec)

/-- 'primroselaw10.ModularMuls', WHERE WHAT IT READS IS OF BULK AT MOST 1048576: true; the input reads as it did. -/
def modularMulsUptoRow : OpenClaim := { program := "ytbmneibliekfdaa", sum := "19422d7f08d2b7a39ba197c35174e424e65783add1570a53041005d8665a4dea", func := "primrose/primroselaw10.ModularMuls", spec := "modularMuls", unfollowed := true, recurses := true, apart := false, narrowed := true }
def ModularMulsUptoSaid : Prop := modularMulsUptoRow.holds Try.pinned (OpenSpec.upto modularMulsSpec)

/-- 'primroselaw10.ModularNone', WHERE WHAT IT READS IS OF BULK AT MOST 1048576: true; the input reads as it did. -/
def modularNoneUptoRow : OpenClaim := { program := "ytbmneibliekfdaa", sum := "19422d7f08d2b7a39ba197c35174e424e65783add1570a53041005d8665a4dea", func := "primrose/primroselaw10.ModularNone", spec := "modularNone", unfollowed := true, recurses := true, apart := false, narrowed := true }
def ModularNoneUptoSaid : Prop := modularNoneUptoRow.holds Try.pinned (OpenSpec.upto modularNoneSpec)

/-- 'primroselaw10.ModularGcds', WHERE WHAT IT READS IS OF BULK AT MOST 1048576: true; the input reads as it did. -/
def modularGcdsUptoRow : OpenClaim := { program := "ytbmneibliekfdaa", sum := "19422d7f08d2b7a39ba197c35174e424e65783add1570a53041005d8665a4dea", func := "primrose/primroselaw10.ModularGcds", spec := "modularGcds", unfollowed := true, recurses := true, apart := false, narrowed := true }
def ModularGcdsUptoSaid : Prop := modularGcdsUptoRow.holds Try.pinned (OpenSpec.upto modularGcdsSpec)

/-- 'primroselaw10.ModularEvals', WHERE WHAT IT READS IS OF BULK AT MOST 1048576: true; the input reads as it did. -/
def modularEvalsUptoRow : OpenClaim := { program := "ytbmneibliekfdaa", sum := "19422d7f08d2b7a39ba197c35174e424e65783add1570a53041005d8665a4dea", func := "primrose/primroselaw10.ModularEvals", spec := "modularEvals", unfollowed := true, recurses := true, apart := false, narrowed := true }
def ModularEvalsUptoSaid : Prop := modularEvalsUptoRow.holds Try.pinned (OpenSpec.upto modularEvalsSpec)

/-- 'primroselaw10.ModularPows', WHERE WHAT IT READS IS OF BULK AT MOST 1048576: true; the input reads as it did. -/
def modularPowsUptoRow : OpenClaim := { program := "ytbmneibliekfdaa", sum := "19422d7f08d2b7a39ba197c35174e424e65783add1570a53041005d8665a4dea", func := "primrose/primroselaw10.ModularPows", spec := "modularPows", unfollowed := true, recurses := true, apart := false, narrowed := true }
def ModularPowsUptoSaid : Prop := modularPowsUptoRow.holds Try.pinned (OpenSpec.upto modularPowsSpec)

/-- 'primroselaw10.ModularRing', WHERE WHAT IT READS IS OF BULK AT MOST 1048576: true; the input reads as it did. -/
def modularRingUptoRow : OpenClaim := { program := "ytbmneibliekfdaa", sum := "19422d7f08d2b7a39ba197c35174e424e65783add1570a53041005d8665a4dea", func := "primrose/primroselaw10.ModularRing", spec := "modularRing", unfollowed := true, recurses := true, apart := false, narrowed := true }
def ModularRingUptoSaid : Prop := modularRingUptoRow.holds Try.pinned (OpenSpec.upto modularRingSpec)

/-- 'primroselaw10.ModularRests', WHERE WHAT IT READS IS OF BULK AT MOST 1048576: true; the input reads as it did. -/
def modularRestsUptoRow : OpenClaim := { program := "ytbmneibliekfdaa", sum := "19422d7f08d2b7a39ba197c35174e424e65783add1570a53041005d8665a4dea", func := "primrose/primroselaw10.ModularRests", spec := "modularRests", unfollowed := true, recurses := true, apart := false, narrowed := true }
def ModularRestsUptoSaid : Prop := modularRestsUptoRow.holds Try.pinned (OpenSpec.upto modularRestsSpec)

/-- 'primroselaw10.ModularShares', WHERE WHAT IT READS IS OF BULK AT MOST 1048576: true; the input reads as it did. -/
def modularSharesUptoRow : OpenClaim := { program := "ytbmneibliekfdaa", sum := "19422d7f08d2b7a39ba197c35174e424e65783add1570a53041005d8665a4dea", func := "primrose/primroselaw10.ModularShares", spec := "modularShares", unfollowed := true, recurses := true, apart := false, narrowed := true }
def ModularSharesUptoSaid : Prop := modularSharesUptoRow.holds Try.pinned (OpenSpec.upto modularSharesSpec)

/-- 'primroselaw10.ModularFrobenius', WHERE WHAT IT READS IS OF BULK AT MOST 1048576: true; the input reads as it did. -/
def modularFrobeniusUptoRow : OpenClaim := { program := "ytbmneibliekfdaa", sum := "19422d7f08d2b7a39ba197c35174e424e65783add1570a53041005d8665a4dea", func := "primrose/primroselaw10.ModularFrobenius", spec := "modularFrobenius", unfollowed := true, recurses := true, apart := false, narrowed := true }
def ModularFrobeniusUptoSaid : Prop := modularFrobeniusUptoRow.holds Try.pinned (OpenSpec.upto modularFrobeniusSpec)

/-- 'primroselaw10.ModularValues', WHERE WHAT IT READS IS OF BULK AT MOST 1048576: true; the input reads as it did. -/
def modularValuesUptoRow : OpenClaim := { program := "ytbmneibliekfdaa", sum := "19422d7f08d2b7a39ba197c35174e424e65783add1570a53041005d8665a4dea", func := "primrose/primroselaw10.ModularValues", spec := "modularValues", unfollowed := true, recurses := true, apart := false, narrowed := true }
def ModularValuesUptoSaid : Prop := modularValuesUptoRow.holds Try.pinned (OpenSpec.upto modularValuesSpec)

end Rows
end Go.Proofs.Ytbmneibliekfdaa
