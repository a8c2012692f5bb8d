/-
  DERIVED. GIVEN WITH THE SEED: THE CARDS: each row of YtfjanomjmlcgaaaDoorRows.lean that lists a variable, with what it lists TIED to the program's text (the seventh form; the later family's looks); each row that meets fmt, with fmt's text TOLD by the authors' own Lean function (tested against real Go, not proved from fmt's source: count such statements apart). THE CARD IS WHAT COUNTS. Prove the row's statement (the work); the ties are given (YtfjanomjmlcgaaaDoorTie.lean); close each card by the builder's one call (the guide's Derived/Test/ToyasCard.lean, 'card_holds'). Laid BY PROGRAM, IN A SANDBOX (cutbox-door.mjs). By AI agents, Wed Nov 11 2026. No macro, syntax, notation, axiom, sorry.
-/
import Derived.Test.YtfjanomjmlcgaaaDoorRows
import GoSem.ClaimSeven
namespace Go.Proofs.YtfjanomjmlcgaaaDoor
namespace Rows

/-- THE TIED CARD OF 'primroselaw01.NatDivides'. -/
def natDividesCard : Claim7 := { stood := { row := natDividesRow, standIns := [], harness := (true, "d28384a1ba7e9b296eef8e5e3a0a7dd32348e95a258274f20a74bb8b160b736e"), looks := false }, kinds := [], alts := [], laidByText := true, laidKinds := [.data, .pinned], laidTests := true, laidLooks := .later }
def NatDividesCardSaid : Prop := Claim7.holds Tryd.pinned (.plain (OpenSpec.ofChange natDividesSpec)) natDividesCard

/-- THE TIED CARD OF 'primroselaw01.NatGcds'. -/
def natGcdsCard : Claim7 := { stood := { row := natGcdsRow, standIns := [], harness := (true, "d28384a1ba7e9b296eef8e5e3a0a7dd32348e95a258274f20a74bb8b160b736e"), looks := false }, kinds := [], alts := [], laidByText := true, laidKinds := [.data, .pinned], laidTests := true, laidLooks := .later }
def NatGcdsCardSaid : Prop := Claim7.holds Tryd.pinned (.plain (OpenSpec.ofChange natGcdsSpec)) natGcdsCard

/-- THE TIED CARD OF 'primroselaw01.NatRests'. -/
def natRestsCard : Claim7 := { stood := { row := natRestsRow, standIns := [], harness := (true, "d28384a1ba7e9b296eef8e5e3a0a7dd32348e95a258274f20a74bb8b160b736e"), looks := false }, kinds := [], alts := [], laidByText := true, laidKinds := [.data, .pinned], laidTests := true, laidLooks := .later }
def NatRestsCardSaid : Prop := Claim7.holds Tryd.pinned (.plain (OpenSpec.ofChange natRestsSpec)) natRestsCard

/-- THE TIED CARD OF 'primroselaw01.NatShares'. -/
def natSharesCard : Claim7 := { stood := { row := natSharesRow, standIns := [], harness := (true, "d28384a1ba7e9b296eef8e5e3a0a7dd32348e95a258274f20a74bb8b160b736e"), looks := false }, kinds := [], alts := [], laidByText := true, laidKinds := [.data, .pinned], laidTests := true, laidLooks := .later }
def NatSharesCardSaid : Prop := Claim7.holds Tryd.pinned (.plain (OpenSpec.ofChange natSharesSpec)) natSharesCard

/-- THE TIED CARD OF 'primroselaw02.WholePlains'. -/
def wholePlainsCard : Claim7 := { stood := { row := wholePlainsRow, standIns := [], harness := (true, "d28384a1ba7e9b296eef8e5e3a0a7dd32348e95a258274f20a74bb8b160b736e"), looks := false }, kinds := [], alts := [], laidByText := true, laidKinds := [.data, .pinned], laidTests := true, laidLooks := .later }
def WholePlainsCardSaid : Prop := Claim7.holds Tryd.pinned (.plain (OpenSpec.ofChange wholePlainsSpec)) wholePlainsCard

/-- THE TIED CARD OF 'primroselaw02.WholeInts'. -/
def wholeIntsCard : Claim7 := { stood := { row := wholeIntsRow, standIns := [], harness := (true, "d28384a1ba7e9b296eef8e5e3a0a7dd32348e95a258274f20a74bb8b160b736e"), looks := false }, kinds := [], alts := [], laidByText := true, laidKinds := [.data, .pinned], laidTests := true, laidLooks := .later }
def WholeIntsCardSaid : Prop := Claim7.holds Tryd.pinned (.plain (OpenSpec.ofChange wholeIntsSpec)) wholeIntsCard

/-- THE TIED CARD OF 'primroselaw02.WholeMuls'. -/
def wholeMulsCard : Claim7 := { stood := { row := wholeMulsRow, standIns := [], harness := (true, "d28384a1ba7e9b296eef8e5e3a0a7dd32348e95a258274f20a74bb8b160b736e"), looks := false }, kinds := [], alts := [], laidByText := true, laidKinds := [.data, .pinned], laidTests := true, laidLooks := .later }
def WholeMulsCardSaid : Prop := Claim7.holds Tryd.pinned (.plain (OpenSpec.ofChange wholeMulsSpec)) wholeMulsCard

/-- THE TIED CARD OF 'primroselaw02.WholeTexts'. -/
def wholeTextsCard : Claim7 := { stood := { row := wholeTextsRow, standIns := [], harness := (true, "d28384a1ba7e9b296eef8e5e3a0a7dd32348e95a258274f20a74bb8b160b736e"), looks := false }, kinds := [], alts := [], laidByText := true, laidKinds := [.data, .pinned], laidTests := true, laidLooks := .later }
def WholeTextsCardSaid : Prop := Claim7.holds Tryd.pinned (.plain (OpenSpec.ofChange wholeTextsSpec)) wholeTextsCard

/-- THE TIED CARD OF 'primroselaw02.WholeParses'. -/
def wholeParsesCard : Claim7 := { stood := { row := wholeParsesRow, standIns := [], harness := (true, "d28384a1ba7e9b296eef8e5e3a0a7dd32348e95a258274f20a74bb8b160b736e"), looks := false }, kinds := [], alts := [], laidByText := true, laidKinds := [.data, .pinned], laidTests := true, laidLooks := .later }
def WholeParsesCardSaid : Prop := Claim7.holds Tryd.pinned (.plain (OpenSpec.ofChange wholeParsesSpec)) wholeParsesCard

/-- THE TIED CARD OF 'primroselaw02.WholeBack'. -/
def wholeBackCard : Claim7 := { stood := { row := wholeBackRow, standIns := [], harness := (true, "d28384a1ba7e9b296eef8e5e3a0a7dd32348e95a258274f20a74bb8b160b736e"), looks := false }, kinds := [], alts := [], laidByText := true, laidKinds := [.data, .pinned], laidTests := true, laidLooks := .later }
def WholeBackCardSaid : Prop := Claim7.holds Tryd.pinned (.plain (OpenSpec.ofChange wholeBackSpec)) wholeBackCard

/-- THE SECOND FORM's CARD OF 'primroselaw01.NatDivides'. -/
def natDividesUptoCard : Claim7 := { stood := { row := natDividesUptoRow, standIns := [], harness := (true, "d28384a1ba7e9b296eef8e5e3a0a7dd32348e95a258274f20a74bb8b160b736e"), looks := false }, kinds := [], alts := [], laidByText := true, laidKinds := [.data, .pinned], laidTests := true, laidLooks := .later }
def NatDividesUptoCardSaid : Prop := Claim7.holds Tryd.pinned (.plain (OpenSpec.upto natDividesSpec)) natDividesUptoCard

/-- THE SECOND FORM's CARD OF 'primroselaw01.NatGcds'. -/
def natGcdsUptoCard : Claim7 := { stood := { row := natGcdsUptoRow, standIns := [], harness := (true, "d28384a1ba7e9b296eef8e5e3a0a7dd32348e95a258274f20a74bb8b160b736e"), looks := false }, kinds := [], alts := [], laidByText := true, laidKinds := [.data, .pinned], laidTests := true, laidLooks := .later }
def NatGcdsUptoCardSaid : Prop := Claim7.holds Tryd.pinned (.plain (OpenSpec.upto natGcdsSpec)) natGcdsUptoCard

/-- THE SECOND FORM's CARD OF 'primroselaw01.NatRests'. -/
def natRestsUptoCard : Claim7 := { stood := { row := natRestsUptoRow, standIns := [], harness := (true, "d28384a1ba7e9b296eef8e5e3a0a7dd32348e95a258274f20a74bb8b160b736e"), looks := false }, kinds := [], alts := [], laidByText := true, laidKinds := [.data, .pinned], laidTests := true, laidLooks := .later }
def NatRestsUptoCardSaid : Prop := Claim7.holds Tryd.pinned (.plain (OpenSpec.upto natRestsSpec)) natRestsUptoCard

/-- THE SECOND FORM's CARD OF 'primroselaw01.NatShares'. -/
def natSharesUptoCard : Claim7 := { stood := { row := natSharesUptoRow, standIns := [], harness := (true, "d28384a1ba7e9b296eef8e5e3a0a7dd32348e95a258274f20a74bb8b160b736e"), looks := false }, kinds := [], alts := [], laidByText := true, laidKinds := [.data, .pinned], laidTests := true, laidLooks := .later }
def NatSharesUptoCardSaid : Prop := Claim7.holds Tryd.pinned (.plain (OpenSpec.upto natSharesSpec)) natSharesUptoCard

/-- THE SECOND FORM's CARD OF 'primroselaw02.WholePlains'. -/
def wholePlainsUptoCard : Claim7 := { stood := { row := wholePlainsUptoRow, standIns := [], harness := (true, "d28384a1ba7e9b296eef8e5e3a0a7dd32348e95a258274f20a74bb8b160b736e"), looks := false }, kinds := [], alts := [], laidByText := true, laidKinds := [.data, .pinned], laidTests := true, laidLooks := .later }
def WholePlainsUptoCardSaid : Prop := Claim7.holds Tryd.pinned (.plain (OpenSpec.upto wholePlainsSpec)) wholePlainsUptoCard

/-- THE SECOND FORM's CARD OF 'primroselaw02.WholeInts'. -/
def wholeIntsUptoCard : Claim7 := { stood := { row := wholeIntsUptoRow, standIns := [], harness := (true, "d28384a1ba7e9b296eef8e5e3a0a7dd32348e95a258274f20a74bb8b160b736e"), looks := false }, kinds := [], alts := [], laidByText := true, laidKinds := [.data, .pinned], laidTests := true, laidLooks := .later }
def WholeIntsUptoCardSaid : Prop := Claim7.holds Tryd.pinned (.plain (OpenSpec.upto wholeIntsSpec)) wholeIntsUptoCard

/-- THE SECOND FORM's CARD OF 'primroselaw02.WholeMuls'. -/
def wholeMulsUptoCard : Claim7 := { stood := { row := wholeMulsUptoRow, standIns := [], harness := (true, "d28384a1ba7e9b296eef8e5e3a0a7dd32348e95a258274f20a74bb8b160b736e"), looks := false }, kinds := [], alts := [], laidByText := true, laidKinds := [.data, .pinned], laidTests := true, laidLooks := .later }
def WholeMulsUptoCardSaid : Prop := Claim7.holds Tryd.pinned (.plain (OpenSpec.upto wholeMulsSpec)) wholeMulsUptoCard

/-- THE SECOND FORM's CARD OF 'primroselaw02.WholeTexts'. -/
def wholeTextsUptoCard : Claim7 := { stood := { row := wholeTextsUptoRow, standIns := [], harness := (true, "d28384a1ba7e9b296eef8e5e3a0a7dd32348e95a258274f20a74bb8b160b736e"), looks := false }, kinds := [], alts := [], laidByText := true, laidKinds := [.data, .pinned], laidTests := true, laidLooks := .later }
def WholeTextsUptoCardSaid : Prop := Claim7.holds Tryd.pinned (.plain (OpenSpec.upto wholeTextsSpec)) wholeTextsUptoCard

/-- THE SECOND FORM's CARD OF 'primroselaw02.WholeParses'. -/
def wholeParsesUptoCard : Claim7 := { stood := { row := wholeParsesUptoRow, standIns := [], harness := (true, "d28384a1ba7e9b296eef8e5e3a0a7dd32348e95a258274f20a74bb8b160b736e"), looks := false }, kinds := [], alts := [], laidByText := true, laidKinds := [.data, .pinned], laidTests := true, laidLooks := .later }
def WholeParsesUptoCardSaid : Prop := Claim7.holds Tryd.pinned (.plain (OpenSpec.upto wholeParsesSpec)) wholeParsesUptoCard

/-- THE SECOND FORM's CARD OF 'primroselaw02.WholeBack'. -/
def wholeBackUptoCard : Claim7 := { stood := { row := wholeBackUptoRow, standIns := [], harness := (true, "d28384a1ba7e9b296eef8e5e3a0a7dd32348e95a258274f20a74bb8b160b736e"), looks := false }, kinds := [], alts := [], laidByText := true, laidKinds := [.data, .pinned], laidTests := true, laidLooks := .later }
def WholeBackUptoCardSaid : Prop := Claim7.holds Tryd.pinned (.plain (OpenSpec.upto wholeBackSpec)) wholeBackUptoCard
end Rows
end Go.Proofs.YtfjanomjmlcgaaaDoor
