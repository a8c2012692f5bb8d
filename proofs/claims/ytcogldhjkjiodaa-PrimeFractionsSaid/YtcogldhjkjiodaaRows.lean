/-
  No cell of these rows narrows 'for every input' (looked for: loops, veiled, ifaces, maps, wideKeys, modest, calm, conditions, laid).
  DERIVED. THE GIVEN ROWS OF THIS SEAT. 3 by the template 'for every input the law returns true; each argument reads behind the call as it read before'; 0 by the template 'total and deterministic' (their statements: YtcogldhjkjiodaaTotals.lean).
  GIVEN WITH THE SEED: the statements are not yours to turn. If you find one false, say at which input.
  Laid BY PROGRAM, IN A SANDBOX (cutbox-rows.mjs): the forced cells as the released guide's own fill.sh prints them over the translation 7f17fb84796619a6… (all of the seat's roots in one cut). By AI agents, Wed Nov 11 2026. No macro, syntax, notation, axiom, sorry.
-/
import Derived.Test.YtcogldhjkjiodaaChecked
import GoSem.Claim
import GoSem.ClaimJoined
import GoSem.ClaimMapViews
import Derived.JoinedTies
import Derived.KernelRfl
namespace Go.Proofs.Ytcogldhjkjiodaa
/- THE CELL 'sum', in the pinned program and in every row, IS THE sha256 OF THE DUMP (.gsa) THAT YtcogldhjkjiodaaProg.lean LOADS. Nothing in Lean hashes anything: it is a label: what it is worth is what the hold of that sum in a sandbox is worth. -/
noncomputable def Try.pinned : Pinned := { name := "ytcogldhjkjiodaa", sum := "7f17fb84796619a68dfa3f82ab54bf3da23a786a640fe7a79d8ec16e3d119586", checked := Try.checked }
namespace Rows
def none {H : Type} : Left H := { results := [], args := [] }

/-- 'primroselaw05.PrimeMods': WHATEVER THE INPUT: true; the input reads as it did. -/
def primeModsSpec : ChangeSpec := { name := "primeMods", fn := fun _ => fun
  | [d1, d2, d3] => { results := [.lit (.bool true)], args := [d1, d2, d3] }
  | _ => none }
def primeModsRow : OpenClaim := { program := "ytcogldhjkjiodaa", sum := "7f17fb84796619a68dfa3f82ab54bf3da23a786a640fe7a79d8ec16e3d119586", func := "primrose/primroselaw05.PrimeMods", spec := "primeMods", apart := false }
def PrimeModsSaid : Prop := primeModsRow.holds Try.pinned (OpenSpec.ofChange primeModsSpec)

/-- ITS FALSE NEIGHBOUR: 'it returns false'. Refute it at one input. -/
def primeModsWrong : ChangeSpec := { name := "primeMods", fn := fun _ => fun
  | [d1, d2, d3] => { results := [.lit (.bool false)], args := [d1, d2, d3] }
  | _ => none }
def PrimeModsWrongFalsely : Prop := primeModsRow.holds Try.pinned (OpenSpec.ofChange primeModsWrong)

/-- 'primroselaw05.PrimeRests': WHATEVER THE INPUT: true; the input reads as it did. -/
def primeRestsSpec : ChangeSpec := { name := "primeRests", fn := fun _ => fun
  | [d1, d2, d3] => { results := [.lit (.bool true)], args := [d1, d2, d3] }
  | _ => none }
def primeRestsRow : OpenClaim := { program := "ytcogldhjkjiodaa", sum := "7f17fb84796619a68dfa3f82ab54bf3da23a786a640fe7a79d8ec16e3d119586", func := "primrose/primroselaw05.PrimeRests", spec := "primeRests", apart := false }
def PrimeRestsSaid : Prop := primeRestsRow.holds Try.pinned (OpenSpec.ofChange primeRestsSpec)

/-- ITS FALSE NEIGHBOUR: 'it returns false'. Refute it at one input. -/
def primeRestsWrong : ChangeSpec := { name := "primeRests", fn := fun _ => fun
  | [d1, d2, d3] => { results := [.lit (.bool false)], args := [d1, d2, d3] }
  | _ => none }
def PrimeRestsWrongFalsely : Prop := primeRestsRow.holds Try.pinned (OpenSpec.ofChange primeRestsWrong)

/-- 'primroselaw05.PrimeFractions': WHATEVER THE INPUT: true; the input reads as it did. -/
def primeFractionsSpec : ChangeSpec := { name := "primeFractions", fn := fun _ => fun
  | [d1, d2, d3] => { results := [.lit (.bool true)], args := [d1, d2, d3] }
  | _ => none }
def primeFractionsRow : OpenClaim := { program := "ytcogldhjkjiodaa", sum := "7f17fb84796619a68dfa3f82ab54bf3da23a786a640fe7a79d8ec16e3d119586", func := "primrose/primroselaw05.PrimeFractions", spec := "primeFractions", apart := false }
def PrimeFractionsSaid : Prop := primeFractionsRow.holds Try.pinned (OpenSpec.ofChange primeFractionsSpec)

/-- ITS FALSE NEIGHBOUR: 'it returns false'. Refute it at one input. -/
def primeFractionsWrong : ChangeSpec := { name := "primeFractions", fn := fun _ => fun
  | [d1, d2, d3] => { results := [.lit (.bool false)], args := [d1, d2, d3] }
  | _ => none }
def PrimeFractionsWrongFalsely : Prop := primeFractionsRow.holds Try.pinned (OpenSpec.ofChange primeFractionsWrong)

/- THE SECOND FORM. 'bulk': how many values and letters a reading holds, each counted each time it is reached (what is shared counts as often as it is met; a slice's spare places count too). A statement '..UptoSaid' is the law's where the arguments, and the package variables that the reading takes, are together of bulk at most 1048576: NARROWER than '..Said'. Prove '..Said' where nothing that the law and all that it calls make is longer than what came in: it says more and counts as full. Else prove '..UptoSaid'. A law counts once. -/
mutual
def uptoBulk {H : Type} : DataW H → Nat
  | .lit (.string bytes) => bytes.length + 1
  | .lit _ => 1
  | .nil => 1
  | .ptr d => uptoBulk d + 1
  | .slice elems spare => uptoBulkAll elems + uptoBulkAll spare + 1
  | .agg parts => uptoBulkAll parts + 1
  | .iface _ d => uptoBulk d + 1
  | .map entries => uptoBulkEntries entries + 1
  | .held _ => 1
def uptoBulkAll {H : Type} : List (DataW H) → Nat
  | [] => 0
  | d :: r => uptoBulk d + uptoBulkAll r
def uptoBulkEntries {H : Type} : List (Lit × DataW H) → Nat
  | [] => 0
  | x :: r => uptoBulkEntry x + uptoBulkEntries r
def uptoBulkEntry {H : Type} : Lit × DataW H → Nat
  | (.string bytes, d) => bytes.length + uptoBulk d + 1
  | (_, d) => uptoBulk d + 1
 end
def uptoSmall : (H : Type) → List (DataW H) → Bool := fun _ ds => decide (uptoBulkAll ds ≤ 1048576)
def OpenSpec.upto (s : _root_.Go.ChangeSpec) : _root_.Go.OpenSpec := { _root_.Go.OpenSpec.ofChange s with cond := some uptoSmall }

/-- 'primroselaw05.PrimeMods', WHERE WHAT IT READS IS OF BULK AT MOST 1048576: true; the input reads as it did. -/
def primeModsUptoRow : OpenClaim := { program := "ytcogldhjkjiodaa", sum := "7f17fb84796619a68dfa3f82ab54bf3da23a786a640fe7a79d8ec16e3d119586", func := "primrose/primroselaw05.PrimeMods", spec := "primeMods", apart := false, narrowed := true }
def PrimeModsUptoSaid : Prop := primeModsUptoRow.holds Try.pinned (OpenSpec.upto primeModsSpec)

/-- 'primroselaw05.PrimeRests', WHERE WHAT IT READS IS OF BULK AT MOST 1048576: true; the input reads as it did. -/
def primeRestsUptoRow : OpenClaim := { program := "ytcogldhjkjiodaa", sum := "7f17fb84796619a68dfa3f82ab54bf3da23a786a640fe7a79d8ec16e3d119586", func := "primrose/primroselaw05.PrimeRests", spec := "primeRests", apart := false, narrowed := true }
def PrimeRestsUptoSaid : Prop := primeRestsUptoRow.holds Try.pinned (OpenSpec.upto primeRestsSpec)

/-- 'primroselaw05.PrimeFractions', WHERE WHAT IT READS IS OF BULK AT MOST 1048576: true; the input reads as it did. -/
def primeFractionsUptoRow : OpenClaim := { program := "ytcogldhjkjiodaa", sum := "7f17fb84796619a68dfa3f82ab54bf3da23a786a640fe7a79d8ec16e3d119586", func := "primrose/primroselaw05.PrimeFractions", spec := "primeFractions", apart := false, narrowed := true }
def PrimeFractionsUptoSaid : Prop := primeFractionsUptoRow.holds Try.pinned (OpenSpec.upto primeFractionsSpec)

end Rows
end Go.Proofs.Ytcogldhjkjiodaa
