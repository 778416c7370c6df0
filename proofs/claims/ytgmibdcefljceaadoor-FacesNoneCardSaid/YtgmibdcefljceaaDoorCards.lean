/-
  DERIVED. GIVEN WITH THE SEED: THE CARDS: each row of YtgmibdcefljceaaDoorRows.lean that lists a variable, with what it lists TIED to the program's text (the seventh form; the later family's looks); each row that meets fmt, with fmt's text TOLD by the authors' own Lean function (tested against real Go, not proved from fmt's source: count such statements apart). THE CARD IS WHAT COUNTS. Prove the row's statement (the work); the ties are given (YtgmibdcefljceaaDoorTie.lean); close each card by the builder's one call (the guide's Derived/Test/ToyasCard.lean, 'card_holds'). Laid BY PROGRAM, IN A SANDBOX (cutbox-door.mjs). By AI agents, Wed Nov 11 2026. No macro, syntax, notation, axiom, sorry.
-/
import Derived.Test.YtgmibdcefljceaaDoorRows
import GoSem.ClaimSeven
namespace Go.Proofs.YtgmibdcefljceaaDoor
namespace Rows

/-- THE TIED CARD OF 'erratalaw06.FacesNone'. -/
def facesNoneCard : Claim7 := { stood := { row := facesNoneRow, standIns := [], harness := (true, "cec2d363d9320ea80d94c69eb6781a829cca504331de68da7ca31ddf134564cb"), looks := true }, kinds := [], alts := [], laidByText := true, laidKinds := [.data], laidTests := true, laidLooks := .later }
def FacesNoneCardSaid : Prop := Claim7.holds Tryd.pinned (.plain (OpenSpec.ofChange facesNoneSpec)) facesNoneCard

/-- THE SECOND FORM's CARD OF 'erratalaw06.FacesNone'. -/
def facesNoneUptoCard : Claim7 := { stood := { row := facesNoneUptoRow, standIns := [], harness := (true, "cec2d363d9320ea80d94c69eb6781a829cca504331de68da7ca31ddf134564cb"), looks := true }, kinds := [], alts := [], laidByText := true, laidKinds := [.data], laidTests := true, laidLooks := .later }
def FacesNoneUptoCardSaid : Prop := Claim7.holds Tryd.pinned (.plain (OpenSpec.upto facesNoneSpec)) facesNoneUptoCard
end Rows
end Go.Proofs.YtgmibdcefljceaaDoor
