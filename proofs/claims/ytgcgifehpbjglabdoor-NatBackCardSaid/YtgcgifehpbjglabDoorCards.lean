/-
  DERIVED. GIVEN WITH THE SEED: THE CARDS: each row of YtgcgifehpbjglabDoorRows.lean that lists a variable, with what it lists TIED to the program's text (the seventh form; the later family's looks); each row that meets fmt, with fmt's text TOLD by the authors' own Lean function (tested against real Go, not proved from fmt's source: count such statements apart). THE CARD IS WHAT COUNTS. Prove the row's statement (the work); the ties are given (YtgcgifehpbjglabDoorTie.lean); close each card by the builder's one call (the guide's Derived/Test/ToyasCard.lean, 'card_holds'). Laid BY PROGRAM, IN A SANDBOX (cutbox-door.mjs). By AI agents, Wed Nov 11 2026. No macro, syntax, notation, axiom, sorry.
-/
import Derived.Test.YtgcgifehpbjglabDoorRows
import GoSem.ClaimSeven
namespace Go.Proofs.YtgcgifehpbjglabDoor
namespace Rows

/-- THE TIED CARD OF 'primroselaw01.NatShares'. -/
def natSharesCard : Claim7 := { stood := { row := natSharesRow, standIns := [], harness := (true, "e6b80468285e6004693e8f182e3ce58f3fcc4bb38b9de7b90ef6208c071aa5dd"), looks := false }, kinds := [], alts := [], laidByText := true, laidKinds := [.data, .pinned], laidTests := true, laidLooks := .later }
def NatSharesCardSaid : Prop := Claim7.holds Tryd.pinned (.plain (OpenSpec.ofChange natSharesSpec)) natSharesCard

/-- THE TIED CARD OF 'primroselaw01.NatBack'. -/
def natBackCard : Claim7 := { stood := { row := natBackRow, standIns := [], harness := (true, "e6b80468285e6004693e8f182e3ce58f3fcc4bb38b9de7b90ef6208c071aa5dd"), looks := false }, kinds := [], alts := [], laidByText := true, laidKinds := [.data, .pinned], laidTests := true, laidLooks := .later }
def NatBackCardSaid : Prop := Claim7.holds Tryd.pinned (.plain (OpenSpec.ofChange natBackSpec)) natBackCard

/-- THE TIED CARD OF 'primroselaw01.NatHalves'. -/
def natHalvesCard : Claim7 := { stood := { row := natHalvesRow, standIns := [], harness := (true, "e6b80468285e6004693e8f182e3ce58f3fcc4bb38b9de7b90ef6208c071aa5dd"), looks := false }, kinds := [], alts := [], laidByText := true, laidKinds := [.data, .pinned], laidTests := true, laidLooks := .later }
def NatHalvesCardSaid : Prop := Claim7.holds Tryd.pinned (.plain (OpenSpec.ofChange natHalvesSpec)) natHalvesCard

/-- THE SECOND FORM's CARD OF 'primroselaw01.NatShares'. -/
def natSharesUptoCard : Claim7 := { stood := { row := natSharesUptoRow, standIns := [], harness := (true, "e6b80468285e6004693e8f182e3ce58f3fcc4bb38b9de7b90ef6208c071aa5dd"), looks := false }, kinds := [], alts := [], laidByText := true, laidKinds := [.data, .pinned], laidTests := true, laidLooks := .later }
def NatSharesUptoCardSaid : Prop := Claim7.holds Tryd.pinned (.plain (OpenSpec.upto natSharesSpec)) natSharesUptoCard

/-- THE SECOND FORM's CARD OF 'primroselaw01.NatBack'. -/
def natBackUptoCard : Claim7 := { stood := { row := natBackUptoRow, standIns := [], harness := (true, "e6b80468285e6004693e8f182e3ce58f3fcc4bb38b9de7b90ef6208c071aa5dd"), looks := false }, kinds := [], alts := [], laidByText := true, laidKinds := [.data, .pinned], laidTests := true, laidLooks := .later }
def NatBackUptoCardSaid : Prop := Claim7.holds Tryd.pinned (.plain (OpenSpec.upto natBackSpec)) natBackUptoCard

/-- THE SECOND FORM's CARD OF 'primroselaw01.NatHalves'. -/
def natHalvesUptoCard : Claim7 := { stood := { row := natHalvesUptoRow, standIns := [], harness := (true, "e6b80468285e6004693e8f182e3ce58f3fcc4bb38b9de7b90ef6208c071aa5dd"), looks := false }, kinds := [], alts := [], laidByText := true, laidKinds := [.data, .pinned], laidTests := true, laidLooks := .later }
def NatHalvesUptoCardSaid : Prop := Claim7.holds Tryd.pinned (.plain (OpenSpec.upto natHalvesSpec)) natHalvesUptoCard
end Rows
end Go.Proofs.YtgcgifehpbjglabDoor
