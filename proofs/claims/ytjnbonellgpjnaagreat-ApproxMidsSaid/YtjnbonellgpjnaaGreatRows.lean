/-
  No cell of these rows narrows 'for every input' (looked for: loops, veiled, ifaces, maps, wideKeys, modest, calm, conditions, laid).
  DERIVED. THE GIVEN ROWS OF THIS SEAT. 5 by the template 'for every input the law returns true; each argument reads behind the call as it read before'; 0 by the template 'total and deterministic' (their statements: YtjnbonellgpjnaaGreatTotals.lean).
  GIVEN WITH THE SEED: the statements are not yours to turn. If you find one false, say at which input.
  Laid BY PROGRAM, IN A SANDBOX (cutbox-rows.mjs): the forced cells as the released guide's own fill.sh prints them over the translation bf66be69df7e9b60… (all of the seat's roots in one cut). By AI agents, Wed Nov 11 2026. No macro, syntax, notation, axiom, sorry.
-/
import Derived.Test.YtjnbonellgpjnaaGreatChecked
import GoSem.Claim
import GoSem.ClaimJoined
import GoSem.ClaimMapViews
import Derived.JoinedTies
import Derived.KernelRfl
namespace Go.Proofs.YtjnbonellgpjnaaGreat
/- THE CELL 'sum', in the pinned program and in every row, IS THE sha256 OF THE DUMP (.gsa) THAT YtjnbonellgpjnaaGreatProg.lean LOADS. Nothing in Lean hashes anything: it is a label: what it is worth is what the hold of that sum in a sandbox is worth. -/
noncomputable def Tryz.pinned : Pinned := { name := "ytjnbonellgpjnaagreat", sum := "bf66be69df7e9b6054dd5de60bf1205c38ba530d8075a333ac725463cb4af2d3", checked := Tryz.checked }
namespace Rows
def none {H : Type} : Left H := { results := [], args := [] }

/-- 'primroselaw04.ApproxTos': WHATEVER THE INPUT: true; the input reads as it did. -/
def approxTosSpec : ChangeSpec := { name := "approxTos", fn := fun _ => fun
  | [d] => { results := [.lit (.bool true)], args := [d] }
  | _ => none }
def approxTosRow : OpenClaim := { program := "ytjnbonellgpjnaagreat", sum := "bf66be69df7e9b6054dd5de60bf1205c38ba530d8075a333ac725463cb4af2d3", func := "primrose/primroselaw04.ApproxTos", spec := "approxTos", inPlace := ["math.Float64bits", "math.Float64frombits"], apart := false }
def ApproxTosSaid : Prop := approxTosRow.holds Tryz.pinned (OpenSpec.ofChange approxTosSpec)

/-- ITS FALSE NEIGHBOUR: 'it returns false'. Refute it at one input. -/
def approxTosWrong : ChangeSpec := { name := "approxTos", fn := fun _ => fun
  | [d] => { results := [.lit (.bool false)], args := [d] }
  | _ => none }
def ApproxTosWrongFalsely : Prop := approxTosRow.holds Tryz.pinned (OpenSpec.ofChange approxTosWrong)

/-- 'primroselaw04.ApproxCmps': WHATEVER THE INPUT: true; the input reads as it did. -/
def approxCmpsSpec : ChangeSpec := { name := "approxCmps", fn := fun _ => fun
  | [d1, d2] => { results := [.lit (.bool true)], args := [d1, d2] }
  | _ => none }
def approxCmpsRow : OpenClaim := { program := "ytjnbonellgpjnaagreat", sum := "bf66be69df7e9b6054dd5de60bf1205c38ba530d8075a333ac725463cb4af2d3", func := "primrose/primroselaw04.ApproxCmps", spec := "approxCmps", inPlace := ["math.Float64bits", "math.Float64frombits"], apart := false }
def ApproxCmpsSaid : Prop := approxCmpsRow.holds Tryz.pinned (OpenSpec.ofChange approxCmpsSpec)

/-- ITS FALSE NEIGHBOUR: 'it returns false'. Refute it at one input. -/
def approxCmpsWrong : ChangeSpec := { name := "approxCmps", fn := fun _ => fun
  | [d1, d2] => { results := [.lit (.bool false)], args := [d1, d2] }
  | _ => none }
def ApproxCmpsWrongFalsely : Prop := approxCmpsRow.holds Tryz.pinned (OpenSpec.ofChange approxCmpsWrong)

/-- 'primroselaw04.ApproxMids': WHATEVER THE INPUT: true; the input reads as it did. -/
def approxMidsSpec : ChangeSpec := { name := "approxMids", fn := fun _ => fun
  | [d1, d2] => { results := [.lit (.bool true)], args := [d1, d2] }
  | _ => none }
def approxMidsRow : OpenClaim := { program := "ytjnbonellgpjnaagreat", sum := "bf66be69df7e9b6054dd5de60bf1205c38ba530d8075a333ac725463cb4af2d3", func := "primrose/primroselaw04.ApproxMids", spec := "approxMids", inPlace := ["math.Float64bits", "math.Float64frombits"], apart := false }
def ApproxMidsSaid : Prop := approxMidsRow.holds Tryz.pinned (OpenSpec.ofChange approxMidsSpec)

/-- ITS FALSE NEIGHBOUR: 'it returns false'. Refute it at one input. -/
def approxMidsWrong : ChangeSpec := { name := "approxMids", fn := fun _ => fun
  | [d1, d2] => { results := [.lit (.bool false)], args := [d1, d2] }
  | _ => none }
def ApproxMidsWrongFalsely : Prop := approxMidsRow.holds Tryz.pinned (OpenSpec.ofChange approxMidsWrong)

/-- 'primroselaw04.ApproxNearest': WHATEVER THE INPUT: true; the input reads as it did. -/
def approxNearestSpec : ChangeSpec := { name := "approxNearest", fn := fun _ => fun
  | [d1, d2] => { results := [.lit (.bool true)], args := [d1, d2] }
  | _ => none }
def approxNearestRow : OpenClaim := { program := "ytjnbonellgpjnaagreat", sum := "bf66be69df7e9b6054dd5de60bf1205c38ba530d8075a333ac725463cb4af2d3", func := "primrose/primroselaw04.ApproxNearest", spec := "approxNearest", inPlace := ["math.Float64bits", "math.Float64frombits"], apart := false }
def ApproxNearestSaid : Prop := approxNearestRow.holds Tryz.pinned (OpenSpec.ofChange approxNearestSpec)

/-- ITS FALSE NEIGHBOUR: 'it returns false'. Refute it at one input. -/
def approxNearestWrong : ChangeSpec := { name := "approxNearest", fn := fun _ => fun
  | [d1, d2] => { results := [.lit (.bool false)], args := [d1, d2] }
  | _ => none }
def ApproxNearestWrongFalsely : Prop := approxNearestRow.holds Tryz.pinned (OpenSpec.ofChange approxNearestWrong)

/-- 'primroselaw04.ApproxRises': WHATEVER THE INPUT: true; the input reads as it did. -/
def approxRisesSpec : ChangeSpec := { name := "approxRises", fn := fun _ => fun
  | [d1, d2] => { results := [.lit (.bool true)], args := [d1, d2] }
  | _ => none }
def approxRisesRow : OpenClaim := { program := "ytjnbonellgpjnaagreat", sum := "bf66be69df7e9b6054dd5de60bf1205c38ba530d8075a333ac725463cb4af2d3", func := "primrose/primroselaw04.ApproxRises", spec := "approxRises", inPlace := ["math.Float64bits", "math.Float64frombits"], apart := false }
def ApproxRisesSaid : Prop := approxRisesRow.holds Tryz.pinned (OpenSpec.ofChange approxRisesSpec)

/-- ITS FALSE NEIGHBOUR: 'it returns false'. Refute it at one input. -/
def approxRisesWrong : ChangeSpec := { name := "approxRises", fn := fun _ => fun
  | [d1, d2] => { results := [.lit (.bool false)], args := [d1, d2] }
  | _ => none }
def ApproxRisesWrongFalsely : Prop := approxRisesRow.holds Tryz.pinned (OpenSpec.ofChange approxRisesWrong)

/- THE SECOND FORM. 'bulk': how many values and letters a reading holds, each counted each time it is reached (what is shared counts as often as it is met; a slice's spare places count too). A statement '..UptoSaid' is the law's where the arguments, and the package variables that the reading takes, are together of bulk at most 1048576: NARROWER than '..Said'. Prove '..Said' where nothing that the law and all that it calls make is longer than what came in: it says more and counts as full. Else prove '..UptoSaid'. A law counts once. -/
mutual
def uptoBulk {H : Type} : DataW H → Nat
  | .lit (.string bytes) => bytes.length + 1
  | .lit _ => 1
  | .nil => 1
  | .ptr d => uptoBulk d + 1
  | .slice elems spare => uptoBulkAll elems + uptoBulkAll spare + 1
  | .agg parts => uptoBulkAll parts + 1
  | .iface _ d => uptoBulk d + 1
  | .map entries => uptoBulkEntries entries + 1
  | .held _ => 1
def uptoBulkAll {H : Type} : List (DataW H) → Nat
  | [] => 0
  | d :: r => uptoBulk d + uptoBulkAll r
def uptoBulkEntries {H : Type} : List (Lit × DataW H) → Nat
  | [] => 0
  | x :: r => uptoBulkEntry x + uptoBulkEntries r
def uptoBulkEntry {H : Type} : Lit × DataW H → Nat
  | (.string bytes, d) => bytes.length + uptoBulk d + 1
  | (_, d) => uptoBulk d + 1
 end
def uptoSmall : (H : Type) → List (DataW H) → Bool := fun _ ds => decide (uptoBulkAll ds ≤ 1048576)
def OpenSpec.upto (s : _root_.Go.ChangeSpec) : _root_.Go.OpenSpec := { _root_.Go.OpenSpec.ofChange s with cond := some uptoSmall }

/-- 'primroselaw04.ApproxTos', WHERE WHAT IT READS IS OF BULK AT MOST 1048576: true; the input reads as it did. -/
def approxTosUptoRow : OpenClaim := { program := "ytjnbonellgpjnaagreat", sum := "bf66be69df7e9b6054dd5de60bf1205c38ba530d8075a333ac725463cb4af2d3", func := "primrose/primroselaw04.ApproxTos", spec := "approxTos", inPlace := ["math.Float64bits", "math.Float64frombits"], apart := false, narrowed := true }
def ApproxTosUptoSaid : Prop := approxTosUptoRow.holds Tryz.pinned (OpenSpec.upto approxTosSpec)

/-- 'primroselaw04.ApproxCmps', WHERE WHAT IT READS IS OF BULK AT MOST 1048576: true; the input reads as it did. -/
def approxCmpsUptoRow : OpenClaim := { program := "ytjnbonellgpjnaagreat", sum := "bf66be69df7e9b6054dd5de60bf1205c38ba530d8075a333ac725463cb4af2d3", func := "primrose/primroselaw04.ApproxCmps", spec := "approxCmps", inPlace := ["math.Float64bits", "math.Float64frombits"], apart := false, narrowed := true }
def ApproxCmpsUptoSaid : Prop := approxCmpsUptoRow.holds Tryz.pinned (OpenSpec.upto approxCmpsSpec)

/-- 'primroselaw04.ApproxMids', WHERE WHAT IT READS IS OF BULK AT MOST 1048576: true; the input reads as it did. -/
def approxMidsUptoRow : OpenClaim := { program := "ytjnbonellgpjnaagreat", sum := "bf66be69df7e9b6054dd5de60bf1205c38ba530d8075a333ac725463cb4af2d3", func := "primrose/primroselaw04.ApproxMids", spec := "approxMids", inPlace := ["math.Float64bits", "math.Float64frombits"], apart := false, narrowed := true }
def ApproxMidsUptoSaid : Prop := approxMidsUptoRow.holds Tryz.pinned (OpenSpec.upto approxMidsSpec)

/-- 'primroselaw04.ApproxNearest', WHERE WHAT IT READS IS OF BULK AT MOST 1048576: true; the input reads as it did. -/
def approxNearestUptoRow : OpenClaim := { program := "ytjnbonellgpjnaagreat", sum := "bf66be69df7e9b6054dd5de60bf1205c38ba530d8075a333ac725463cb4af2d3", func := "primrose/primroselaw04.ApproxNearest", spec := "approxNearest", inPlace := ["math.Float64bits", "math.Float64frombits"], apart := false, narrowed := true }
def ApproxNearestUptoSaid : Prop := approxNearestUptoRow.holds Tryz.pinned (OpenSpec.upto approxNearestSpec)

/-- 'primroselaw04.ApproxRises', WHERE WHAT IT READS IS OF BULK AT MOST 1048576: true; the input reads as it did. -/
def approxRisesUptoRow : OpenClaim := { program := "ytjnbonellgpjnaagreat", sum := "bf66be69df7e9b6054dd5de60bf1205c38ba530d8075a333ac725463cb4af2d3", func := "primrose/primroselaw04.ApproxRises", spec := "approxRises", inPlace := ["math.Float64bits", "math.Float64frombits"], apart := false, narrowed := true }
def ApproxRisesUptoSaid : Prop := approxRisesUptoRow.holds Tryz.pinned (OpenSpec.upto approxRisesSpec)

end Rows
end Go.Proofs.YtjnbonellgpjnaaGreat
