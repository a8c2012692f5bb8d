/-
  No cell of these rows narrows 'for every input' (looked for: loops, veiled, ifaces, maps, wideKeys, modest, calm, conditions, laid).
  DERIVED. THE GIVEN ROWS OF THIS SEAT. 6 by the template 'for every input the law returns true; each argument reads behind the call as it read before'; 0 by the template 'total and deterministic' (their statements: YtbbopmniepkoiaaTotals.lean).
  GIVEN WITH THE SEED: the statements are not yours to turn. If you find one false, say at which input.
  Laid BY PROGRAM, IN A SANDBOX (cutbox-rows.mjs): the forced cells as the released guide's own fill.sh prints them over the translation 8e8810ce527fb0f2… (all of the seat's roots in one cut). By AI agents, Wed Nov 11 2026. No macro, syntax, notation, axiom, sorry.
-/
import Derived.Test.YtbbopmniepkoiaaChecked
import GoSem.Claim
import GoSem.ClaimJoined
import GoSem.ClaimMapViews
import Derived.JoinedTies
import Derived.KernelRfl
namespace Go.Proofs.Ytbbopmniepkoiaa
/- THE CELL 'sum', in the pinned program and in every row, IS THE sha256 OF THE DUMP (.gsa) THAT YtbbopmniepkoiaaProg.lean LOADS. Nothing in Lean hashes anything: it is a label: what it is worth is what the hold of that sum in a sandbox is worth. -/
noncomputable def Try.pinned : Pinned := { name := "ytbbopmniepkoiaa", sum := "8e8810ce527fb0f2de30b2416fc6e04c043382369b771caaaf06475fb33ddaae", checked := Try.checked }
namespace Rows
def none {H : Type} : Left H := { results := [], args := [] }

/-- 'primroselaw05.PrimeIs': WHATEVER THE INPUT: true; the input reads as it did. -/
def primeIsSpec : ChangeSpec := { name := "primeIs", fn := fun _ => fun
  | [d] => { results := [.lit (.bool true)], args := [d] }
  | _ => none }
def primeIsRow : OpenClaim := { program := "ytbbopmniepkoiaa", sum := "8e8810ce527fb0f2de30b2416fc6e04c043382369b771caaaf06475fb33ddaae", func := "primrose/primroselaw05.PrimeIs", spec := "primeIs", apart := false }
def PrimeIsSaid : Prop := primeIsRow.holds Try.pinned (OpenSpec.ofChange primeIsSpec)

/-- ITS FALSE NEIGHBOUR: 'it returns false'. Refute it at one input. -/
def primeIsWrong : ChangeSpec := { name := "primeIs", fn := fun _ => fun
  | [d] => { results := [.lit (.bool false)], args := [d] }
  | _ => none }
def PrimeIsWrongFalsely : Prop := primeIsRow.holds Try.pinned (OpenSpec.ofChange primeIsWrong)

/-- 'primroselaw05.PrimeSums': WHATEVER THE INPUT: true; the input reads as it did. -/
def primeSumsSpec : ChangeSpec := { name := "primeSums", fn := fun _ => fun
  | [d1, d2, d3] => { results := [.lit (.bool true)], args := [d1, d2, d3] }
  | _ => none }
def primeSumsRow : OpenClaim := { program := "ytbbopmniepkoiaa", sum := "8e8810ce527fb0f2de30b2416fc6e04c043382369b771caaaf06475fb33ddaae", func := "primrose/primroselaw05.PrimeSums", spec := "primeSums", apart := false }
def PrimeSumsSaid : Prop := primeSumsRow.holds Try.pinned (OpenSpec.ofChange primeSumsSpec)

/-- ITS FALSE NEIGHBOUR: 'it returns false'. Refute it at one input. -/
def primeSumsWrong : ChangeSpec := { name := "primeSums", fn := fun _ => fun
  | [d1, d2, d3] => { results := [.lit (.bool false)], args := [d1, d2, d3] }
  | _ => none }
def PrimeSumsWrongFalsely : Prop := primeSumsRow.holds Try.pinned (OpenSpec.ofChange primeSumsWrong)

/-- 'primroselaw05.PrimePowers': WHATEVER THE INPUT: true; the input reads as it did. -/
def primePowersSpec : ChangeSpec := { name := "primePowers", fn := fun _ => fun
  | [d1, d2, d3] => { results := [.lit (.bool true)], args := [d1, d2, d3] }
  | _ => none }
def primePowersRow : OpenClaim := { program := "ytbbopmniepkoiaa", sum := "8e8810ce527fb0f2de30b2416fc6e04c043382369b771caaaf06475fb33ddaae", func := "primrose/primroselaw05.PrimePowers", spec := "primePowers", apart := false }
def PrimePowersSaid : Prop := primePowersRow.holds Try.pinned (OpenSpec.ofChange primePowersSpec)

/-- ITS FALSE NEIGHBOUR: 'it returns false'. Refute it at one input. -/
def primePowersWrong : ChangeSpec := { name := "primePowers", fn := fun _ => fun
  | [d1, d2, d3] => { results := [.lit (.bool false)], args := [d1, d2, d3] }
  | _ => none }
def PrimePowersWrongFalsely : Prop := primePowersRow.holds Try.pinned (OpenSpec.ofChange primePowersWrong)

/-- 'primroselaw05.PrimeField': WHATEVER THE INPUT: true; the input reads as it did. -/
def primeFieldSpec : ChangeSpec := { name := "primeField", fn := fun _ => fun
  | [d1, d2, d3, d4] => { results := [.lit (.bool true)], args := [d1, d2, d3, d4] }
  | _ => none }
def primeFieldRow : OpenClaim := { program := "ytbbopmniepkoiaa", sum := "8e8810ce527fb0f2de30b2416fc6e04c043382369b771caaaf06475fb33ddaae", func := "primrose/primroselaw05.PrimeField", spec := "primeField", apart := false }
def PrimeFieldSaid : Prop := primeFieldRow.holds Try.pinned (OpenSpec.ofChange primeFieldSpec)

/-- ITS FALSE NEIGHBOUR: 'it returns false'. Refute it at one input. -/
def primeFieldWrong : ChangeSpec := { name := "primeField", fn := fun _ => fun
  | [d1, d2, d3, d4] => { results := [.lit (.bool false)], args := [d1, d2, d3, d4] }
  | _ => none }
def PrimeFieldWrongFalsely : Prop := primeFieldRow.holds Try.pinned (OpenSpec.ofChange primeFieldWrong)

/-- 'primroselaw05.PrimeFermat': WHATEVER THE INPUT: true; the input reads as it did. -/
def primeFermatSpec : ChangeSpec := { name := "primeFermat", fn := fun _ => fun
  | [d1, d2, d3, d4] => { results := [.lit (.bool true)], args := [d1, d2, d3, d4] }
  | _ => none }
def primeFermatRow : OpenClaim := { program := "ytbbopmniepkoiaa", sum := "8e8810ce527fb0f2de30b2416fc6e04c043382369b771caaaf06475fb33ddaae", func := "primrose/primroselaw05.PrimeFermat", spec := "primeFermat", apart := false }
def PrimeFermatSaid : Prop := primeFermatRow.holds Try.pinned (OpenSpec.ofChange primeFermatSpec)

/-- ITS FALSE NEIGHBOUR: 'it returns false'. Refute it at one input. -/
def primeFermatWrong : ChangeSpec := { name := "primeFermat", fn := fun _ => fun
  | [d1, d2, d3, d4] => { results := [.lit (.bool false)], args := [d1, d2, d3, d4] }
  | _ => none }
def PrimeFermatWrongFalsely : Prop := primeFermatRow.holds Try.pinned (OpenSpec.ofChange primeFermatWrong)

/-- 'primroselaw05.PrimeGaps': WHATEVER THE INPUT: true; the input reads as it did. -/
def primeGapsSpec : ChangeSpec := { name := "primeGaps", fn := fun _ => fun
  | [d1, d2] => { results := [.lit (.bool true)], args := [d1, d2] }
  | _ => none }
def primeGapsRow : OpenClaim := { program := "ytbbopmniepkoiaa", sum := "8e8810ce527fb0f2de30b2416fc6e04c043382369b771caaaf06475fb33ddaae", func := "primrose/primroselaw05.PrimeGaps", spec := "primeGaps", apart := false }
def PrimeGapsSaid : Prop := primeGapsRow.holds Try.pinned (OpenSpec.ofChange primeGapsSpec)

/-- ITS FALSE NEIGHBOUR: 'it returns false'. Refute it at one input. -/
def primeGapsWrong : ChangeSpec := { name := "primeGaps", fn := fun _ => fun
  | [d1, d2] => { results := [.lit (.bool false)], args := [d1, d2] }
  | _ => none }
def PrimeGapsWrongFalsely : Prop := primeGapsRow.holds Try.pinned (OpenSpec.ofChange primeGapsWrong)

/- THE SECOND FORM. 'bulk': how many values and letters a reading holds, each counted each time it is reached (what is shared counts as often as it is met; a slice's spare places count too). A statement '..UptoSaid' is the law's where the arguments, and the package variables that the reading takes, are together of bulk at most 1048576: NARROWER than '..Said'. Prove '..Said' where nothing that the law and all that it calls make is longer than what came in: it says more and counts as full. Else prove '..UptoSaid'. A law counts once. -/
mutual
def uptoBulk {H : Type} : DataW H → Nat
  | .lit (.string bytes) => bytes.length + 1
  | .lit _ => 1
  | .nil => 1
  | .ptr d => uptoBulk d + 1
  | .slice elems spare => uptoBulkAll elems + uptoBulkAll spare + 1
  | .agg parts => uptoBulkAll parts + 1
  | .iface _ d => uptoBulk d + 1
  | .map entries => uptoBulkEntries entries + 1
  | .held _ => 1
def uptoBulkAll {H : Type} : List (DataW H) → Nat
  | [] => 0
  | d :: r => uptoBulk d + uptoBulkAll r
def uptoBulkEntries {H : Type} : List (Lit × DataW H) → Nat
  | [] => 0
  | x :: r => uptoBulkEntry x + uptoBulkEntries r
def uptoBulkEntry {H : Type} : Lit × DataW H → Nat
  | (.string bytes, d) => bytes.length + uptoBulk d + 1
  | (_, d) => uptoBulk d + 1
 end
def uptoSmall : (H : Type) → List (DataW H) → Bool := fun _ ds => decide (uptoBulkAll ds ≤ 1048576)
def OpenSpec.upto (s : _root_.Go.ChangeSpec) : _root_.Go.OpenSpec := { _root_.Go.OpenSpec.ofChange s with cond := some uptoSmall }

/-- 'primroselaw05.PrimeIs', WHERE WHAT IT READS IS OF BULK AT MOST 1048576: true; the input reads as it did. -/
def primeIsUptoRow : OpenClaim := { program := "ytbbopmniepkoiaa", sum := "8e8810ce527fb0f2de30b2416fc6e04c043382369b771caaaf06475fb33ddaae", func := "primrose/primroselaw05.PrimeIs", spec := "primeIs", apart := false, narrowed := true }
def PrimeIsUptoSaid : Prop := primeIsUptoRow.holds Try.pinned (OpenSpec.upto primeIsSpec)

/-- 'primroselaw05.PrimeSums', WHERE WHAT IT READS IS OF BULK AT MOST 1048576: true; the input reads as it did. -/
def primeSumsUptoRow : OpenClaim := { program := "ytbbopmniepkoiaa", sum := "8e8810ce527fb0f2de30b2416fc6e04c043382369b771caaaf06475fb33ddaae", func := "primrose/primroselaw05.PrimeSums", spec := "primeSums", apart := false, narrowed := true }
def PrimeSumsUptoSaid : Prop := primeSumsUptoRow.holds Try.pinned (OpenSpec.upto primeSumsSpec)

/-- 'primroselaw05.PrimePowers', WHERE WHAT IT READS IS OF BULK AT MOST 1048576: true; the input reads as it did. -/
def primePowersUptoRow : OpenClaim := { program := "ytbbopmniepkoiaa", sum := "8e8810ce527fb0f2de30b2416fc6e04c043382369b771caaaf06475fb33ddaae", func := "primrose/primroselaw05.PrimePowers", spec := "primePowers", apart := false, narrowed := true }
def PrimePowersUptoSaid : Prop := primePowersUptoRow.holds Try.pinned (OpenSpec.upto primePowersSpec)

/-- 'primroselaw05.PrimeField', WHERE WHAT IT READS IS OF BULK AT MOST 1048576: true; the input reads as it did. -/
def primeFieldUptoRow : OpenClaim := { program := "ytbbopmniepkoiaa", sum := "8e8810ce527fb0f2de30b2416fc6e04c043382369b771caaaf06475fb33ddaae", func := "primrose/primroselaw05.PrimeField", spec := "primeField", apart := false, narrowed := true }
def PrimeFieldUptoSaid : Prop := primeFieldUptoRow.holds Try.pinned (OpenSpec.upto primeFieldSpec)

/-- 'primroselaw05.PrimeFermat', WHERE WHAT IT READS IS OF BULK AT MOST 1048576: true; the input reads as it did. -/
def primeFermatUptoRow : OpenClaim := { program := "ytbbopmniepkoiaa", sum := "8e8810ce527fb0f2de30b2416fc6e04c043382369b771caaaf06475fb33ddaae", func := "primrose/primroselaw05.PrimeFermat", spec := "primeFermat", apart := false, narrowed := true }
def PrimeFermatUptoSaid : Prop := primeFermatUptoRow.holds Try.pinned (OpenSpec.upto primeFermatSpec)

/-- 'primroselaw05.PrimeGaps', WHERE WHAT IT READS IS OF BULK AT MOST 1048576: true; the input reads as it did. -/
def primeGapsUptoRow : OpenClaim := { program := "ytbbopmniepkoiaa", sum := "8e8810ce527fb0f2de30b2416fc6e04c043382369b771caaaf06475fb33ddaae", func := "primrose/primroselaw05.PrimeGaps", spec := "primeGaps", apart := false, narrowed := true }
def PrimeGapsUptoSaid : Prop := primeGapsUptoRow.holds Try.pinned (OpenSpec.upto primeGapsSpec)

end Rows
end Go.Proofs.Ytbbopmniepkoiaa
