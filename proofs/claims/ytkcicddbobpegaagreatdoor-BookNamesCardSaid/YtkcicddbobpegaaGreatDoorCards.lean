/-
  DERIVED. GIVEN WITH THE SEED: THE CARDS: each row of YtkcicddbobpegaaGreatDoorRows.lean that lists a variable, with what it lists TIED to the program's text (the seventh form; the later family's looks); each row that meets fmt, with fmt's text TOLD by the authors' own Lean function (tested against real Go, not proved from fmt's source: count such statements apart). THE CARD IS WHAT COUNTS. Prove the row's statement (the work); the ties are given (YtkcicddbobpegaaGreatDoorTie.lean); close each card by the builder's one call (the guide's Derived/Test/ToyasCard.lean, 'card_holds'). Laid BY PROGRAM, IN A SANDBOX (cutbox-door.mjs). By AI agents, Wed Nov 11 2026. No macro, syntax, notation, axiom, sorry.
-/
import Derived.Test.YtkcicddbobpegaaGreatDoorRows
import GoSem.ClaimSeven
namespace Go.Proofs.YtkcicddbobpegaaGreatDoor
namespace Rows

/-- THE TIED CARD OF 'erratalaw04.KindsNothings'. -/
def kindsNothingsCard : Claim7 := { stood := { row := kindsNothingsRow, standIns := [], harness := (true, "18c7bae722337894717960eebaf991c5361443e8e026cbe5d6df7345b47d5601"), looks := true }, kinds := [], alts := [], laidByText := true, laidKinds := [.data], laidTests := true, laidLooks := .later }
def KindsNothingsCardSaid : Prop := Claim7.holds Tryz.pinned (.plain (OpenSpec.ofChange kindsNothingsSpec)) kindsNothingsCard

/-- THE TIED CARD OF 'erratalaw04.KindsApart'. -/
def kindsApartCard : Claim7 := { stood := { row := kindsApartRow, standIns := [], harness := (true, "18c7bae722337894717960eebaf991c5361443e8e026cbe5d6df7345b47d5601"), looks := true }, kinds := [], alts := [], laidByText := true, laidKinds := [.data], laidTests := true, laidLooks := .later }
def KindsApartCardSaid : Prop := Claim7.holds Tryz.pinned (.plain (OpenSpec.ofChange kindsApartSpec)) kindsApartCard

/-- THE TIED CARD OF 'erratalaw04.KindsKeeps'. -/
def kindsKeepsCard : Claim7 := { stood := { row := kindsKeepsRow, standIns := [], harness := (true, "18c7bae722337894717960eebaf991c5361443e8e026cbe5d6df7345b47d5601"), looks := true }, kinds := [], alts := [], laidByText := true, laidKinds := [.data], laidTests := true, laidLooks := .later }
def KindsKeepsCardSaid : Prop := Claim7.holds Tryz.pinned (.plain (OpenSpec.ofChange kindsKeepsSpec)) kindsKeepsCard

/-- THE TIED CARD OF 'erratalaw04.KindsOnce'. -/
def kindsOnceCard : Claim7 := { stood := { row := kindsOnceRow, standIns := [], harness := (true, "18c7bae722337894717960eebaf991c5361443e8e026cbe5d6df7345b47d5601"), looks := true }, kinds := [], alts := [], laidByText := true, laidKinds := [.data], laidTests := true, laidLooks := .later }
def KindsOnceCardSaid : Prop := Claim7.holds Tryz.pinned (.plain (OpenSpec.ofChange kindsOnceSpec)) kindsOnceCard

/-- THE TIED CARD OF 'erratalaw04.KindsHand'. -/
def kindsHandCard : Claim7 := { stood := { row := kindsHandRow, standIns := [], harness := (true, "18c7bae722337894717960eebaf991c5361443e8e026cbe5d6df7345b47d5601"), looks := true }, kinds := [], alts := [], laidByText := true, laidKinds := [.data, .data, .data, .data, .data, .pinned, .pinned], laidTests := true, laidLooks := .later }
def KindsHandCardSaid : Prop := Claim7.holds Tryz.pinned (.plain (OpenSpec.ofChange kindsHandSpec)) kindsHandCard

/-- THE TIED CARD OF 'erratalaw05.BookNames'. -/
def bookNamesCard : Claim7 := { stood := { row := bookNamesRow, standIns := [], harness := (true, "18c7bae722337894717960eebaf991c5361443e8e026cbe5d6df7345b47d5601"), looks := true }, kinds := [], alts := [], laidByText := true, laidKinds := [.data, .data, .data, .data, .data, .pinned, .pinned], laidTests := true, laidLooks := .later }
def BookNamesCardSaid : Prop := Claim7.holds Tryz.pinned (.plain (OpenSpec.ofChange bookNamesSpec)) bookNamesCard

/-- THE TIED CARD OF 'erratalaw05.BookLimits'. -/
def bookLimitsCard : Claim7 := { stood := { row := bookLimitsRow, standIns := [], harness := (true, "18c7bae722337894717960eebaf991c5361443e8e026cbe5d6df7345b47d5601"), looks := true }, kinds := [], alts := [], laidByText := true, laidKinds := [.data, .data, .data, .data, .data, .pinned, .pinned], laidTests := true, laidLooks := .later }
def BookLimitsCardSaid : Prop := Claim7.holds Tryz.pinned (.plain (OpenSpec.ofChange bookLimitsSpec)) bookLimitsCard

/-- THE TIED CARD OF 'erratalaw05.BookTypes'. -/
def bookTypesCard : Claim7 := { stood := { row := bookTypesRow, standIns := [], harness := (true, "18c7bae722337894717960eebaf991c5361443e8e026cbe5d6df7345b47d5601"), looks := true }, kinds := [], alts := [], laidByText := true, laidKinds := [.data, .data, .data, .data, .data, .pinned, .pinned], laidTests := true, laidLooks := .later }
def BookTypesCardSaid : Prop := Claim7.holds Tryz.pinned (.plain (OpenSpec.ofChange bookTypesSpec)) bookTypesCard

/-- THE TIED CARD OF 'erratalaw05.BookParts'. -/
def bookPartsCard : Claim7 := { stood := { row := bookPartsRow, standIns := [], harness := (true, "18c7bae722337894717960eebaf991c5361443e8e026cbe5d6df7345b47d5601"), looks := true }, kinds := [], alts := [], laidByText := true, laidKinds := [.data, .data, .data, .data, .data, .pinned, .pinned], laidTests := true, laidLooks := .later }
def BookPartsCardSaid : Prop := Claim7.holds Tryz.pinned (.plain (OpenSpec.ofChange bookPartsSpec)) bookPartsCard

/-- THE TIED CARD OF 'erratalaw05.BookWords'. -/
def bookWordsCard : Claim7 := { stood := { row := bookWordsRow, standIns := [], harness := (true, "18c7bae722337894717960eebaf991c5361443e8e026cbe5d6df7345b47d5601"), looks := true }, kinds := [], alts := [], laidByText := true, laidKinds := [.data, .data, .data, .data, .data, .pinned, .pinned], laidTests := true, laidLooks := .later }
def BookWordsCardSaid : Prop := Claim7.holds Tryz.pinned (.plain (OpenSpec.ofChange bookWordsSpec)) bookWordsCard

/-- THE TIED CARD OF 'erratalaw05.BookCalls'. -/
def bookCallsCard : Claim7 := { stood := { row := bookCallsRow, standIns := [], harness := (true, "18c7bae722337894717960eebaf991c5361443e8e026cbe5d6df7345b47d5601"), looks := true }, kinds := [], alts := [], laidByText := true, laidKinds := [.data, .data, .data, .data, .data, .pinned, .pinned], laidTests := true, laidLooks := .later }
def BookCallsCardSaid : Prop := Claim7.holds Tryz.pinned (.plain (OpenSpec.ofChange bookCallsSpec)) bookCallsCard

/-- THE SECOND FORM's CARD OF 'erratalaw04.KindsNothings'. -/
def kindsNothingsUptoCard : Claim7 := { stood := { row := kindsNothingsUptoRow, standIns := [], harness := (true, "18c7bae722337894717960eebaf991c5361443e8e026cbe5d6df7345b47d5601"), looks := true }, kinds := [], alts := [], laidByText := true, laidKinds := [.data], laidTests := true, laidLooks := .later }
def KindsNothingsUptoCardSaid : Prop := Claim7.holds Tryz.pinned (.plain (OpenSpec.upto kindsNothingsSpec)) kindsNothingsUptoCard

/-- THE SECOND FORM's CARD OF 'erratalaw04.KindsApart'. -/
def kindsApartUptoCard : Claim7 := { stood := { row := kindsApartUptoRow, standIns := [], harness := (true, "18c7bae722337894717960eebaf991c5361443e8e026cbe5d6df7345b47d5601"), looks := true }, kinds := [], alts := [], laidByText := true, laidKinds := [.data], laidTests := true, laidLooks := .later }
def KindsApartUptoCardSaid : Prop := Claim7.holds Tryz.pinned (.plain (OpenSpec.upto kindsApartSpec)) kindsApartUptoCard

/-- THE SECOND FORM's CARD OF 'erratalaw04.KindsKeeps'. -/
def kindsKeepsUptoCard : Claim7 := { stood := { row := kindsKeepsUptoRow, standIns := [], harness := (true, "18c7bae722337894717960eebaf991c5361443e8e026cbe5d6df7345b47d5601"), looks := true }, kinds := [], alts := [], laidByText := true, laidKinds := [.data], laidTests := true, laidLooks := .later }
def KindsKeepsUptoCardSaid : Prop := Claim7.holds Tryz.pinned (.plain (OpenSpec.upto kindsKeepsSpec)) kindsKeepsUptoCard

/-- THE SECOND FORM's CARD OF 'erratalaw04.KindsOnce'. -/
def kindsOnceUptoCard : Claim7 := { stood := { row := kindsOnceUptoRow, standIns := [], harness := (true, "18c7bae722337894717960eebaf991c5361443e8e026cbe5d6df7345b47d5601"), looks := true }, kinds := [], alts := [], laidByText := true, laidKinds := [.data], laidTests := true, laidLooks := .later }
def KindsOnceUptoCardSaid : Prop := Claim7.holds Tryz.pinned (.plain (OpenSpec.upto kindsOnceSpec)) kindsOnceUptoCard

/-- THE SECOND FORM's CARD OF 'erratalaw04.KindsHand'. -/
def kindsHandUptoCard : Claim7 := { stood := { row := kindsHandUptoRow, standIns := [], harness := (true, "18c7bae722337894717960eebaf991c5361443e8e026cbe5d6df7345b47d5601"), looks := true }, kinds := [], alts := [], laidByText := true, laidKinds := [.data, .data, .data, .data, .data, .pinned, .pinned], laidTests := true, laidLooks := .later }
def KindsHandUptoCardSaid : Prop := Claim7.holds Tryz.pinned (.plain (OpenSpec.upto kindsHandSpec)) kindsHandUptoCard

/-- THE SECOND FORM's CARD OF 'erratalaw05.BookNames'. -/
def bookNamesUptoCard : Claim7 := { stood := { row := bookNamesUptoRow, standIns := [], harness := (true, "18c7bae722337894717960eebaf991c5361443e8e026cbe5d6df7345b47d5601"), looks := true }, kinds := [], alts := [], laidByText := true, laidKinds := [.data, .data, .data, .data, .data, .pinned, .pinned], laidTests := true, laidLooks := .later }
def BookNamesUptoCardSaid : Prop := Claim7.holds Tryz.pinned (.plain (OpenSpec.upto bookNamesSpec)) bookNamesUptoCard

/-- THE SECOND FORM's CARD OF 'erratalaw05.BookLimits'. -/
def bookLimitsUptoCard : Claim7 := { stood := { row := bookLimitsUptoRow, standIns := [], harness := (true, "18c7bae722337894717960eebaf991c5361443e8e026cbe5d6df7345b47d5601"), looks := true }, kinds := [], alts := [], laidByText := true, laidKinds := [.data, .data, .data, .data, .data, .pinned, .pinned], laidTests := true, laidLooks := .later }
def BookLimitsUptoCardSaid : Prop := Claim7.holds Tryz.pinned (.plain (OpenSpec.upto bookLimitsSpec)) bookLimitsUptoCard

/-- THE SECOND FORM's CARD OF 'erratalaw05.BookTypes'. -/
def bookTypesUptoCard : Claim7 := { stood := { row := bookTypesUptoRow, standIns := [], harness := (true, "18c7bae722337894717960eebaf991c5361443e8e026cbe5d6df7345b47d5601"), looks := true }, kinds := [], alts := [], laidByText := true, laidKinds := [.data, .data, .data, .data, .data, .pinned, .pinned], laidTests := true, laidLooks := .later }
def BookTypesUptoCardSaid : Prop := Claim7.holds Tryz.pinned (.plain (OpenSpec.upto bookTypesSpec)) bookTypesUptoCard

/-- THE SECOND FORM's CARD OF 'erratalaw05.BookParts'. -/
def bookPartsUptoCard : Claim7 := { stood := { row := bookPartsUptoRow, standIns := [], harness := (true, "18c7bae722337894717960eebaf991c5361443e8e026cbe5d6df7345b47d5601"), looks := true }, kinds := [], alts := [], laidByText := true, laidKinds := [.data, .data, .data, .data, .data, .pinned, .pinned], laidTests := true, laidLooks := .later }
def BookPartsUptoCardSaid : Prop := Claim7.holds Tryz.pinned (.plain (OpenSpec.upto bookPartsSpec)) bookPartsUptoCard

/-- THE SECOND FORM's CARD OF 'erratalaw05.BookWords'. -/
def bookWordsUptoCard : Claim7 := { stood := { row := bookWordsUptoRow, standIns := [], harness := (true, "18c7bae722337894717960eebaf991c5361443e8e026cbe5d6df7345b47d5601"), looks := true }, kinds := [], alts := [], laidByText := true, laidKinds := [.data, .data, .data, .data, .data, .pinned, .pinned], laidTests := true, laidLooks := .later }
def BookWordsUptoCardSaid : Prop := Claim7.holds Tryz.pinned (.plain (OpenSpec.upto bookWordsSpec)) bookWordsUptoCard

/-- THE SECOND FORM's CARD OF 'erratalaw05.BookCalls'. -/
def bookCallsUptoCard : Claim7 := { stood := { row := bookCallsUptoRow, standIns := [], harness := (true, "18c7bae722337894717960eebaf991c5361443e8e026cbe5d6df7345b47d5601"), looks := true }, kinds := [], alts := [], laidByText := true, laidKinds := [.data, .data, .data, .data, .data, .pinned, .pinned], laidTests := true, laidLooks := .later }
def BookCallsUptoCardSaid : Prop := Claim7.holds Tryz.pinned (.plain (OpenSpec.upto bookCallsSpec)) bookCallsUptoCard
end Rows
end Go.Proofs.YtkcicddbobpegaaGreatDoor
