/-
  BookNames returns true: what a nil book tells, call by call, and the numbers of layer 5.
  Conditions: none (a closed statement); the variables of the library hold what their initialisers lay (the card ties them to the program's text; none of them is read).
-/
import Derived.Test.YtkcicddbobpegaaGreatDoorBD
namespace Go.Proofs.YtkcicddbobpegaaGreatDoor.bookNames
open Go.ChangeShapes Go.WideShapes Go.ChangeAt Go.RowKit
set_option linter.unusedVariables false

/-- The statement. -/
theorem proved : Rows.BookNamesCardSaid :=
  Claim7.holds_tied_plain_at .later [] _ _ _ _ said (fun _ h => by cases h) (by as_aux_lemma => kernel_rfl) (fun _ h => by cases h) bookNames_row_tie rfl ⟨rfl, rfl⟩ (by as_aux_lemma => kernel_rfl) rfl (plain_of (g := 8) (fg := Tryz.f8) named Tryz.func8 (by as_aux_lemma => kernel_rfl)) (by as_aux_lemma => kernel_rfl)
#print axioms proved
end Go.Proofs.YtkcicddbobpegaaGreatDoor.bookNames
