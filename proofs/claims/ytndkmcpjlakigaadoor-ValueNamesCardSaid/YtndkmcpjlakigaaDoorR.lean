/-
  ValueNames returns true: the deepest and the longest value may be, one deeper and one longer may not, and two floats' texts.
  Conditions: none (a closed statement); the tables of the library hold what their initialisers lay (the card ties them to the program's text).
-/
import Derived.Test.YtndkmcpjlakigaaDoorQ
namespace Go.Proofs.YtndkmcpjlakigaaDoor.valueNames
open Go.ChangeShapes Go.WideShapes Go.ChangeAt Go.RowKit
set_option linter.unusedVariables false

/-- The statement. -/
theorem proved : Rows.ValueNamesCardSaid :=
  Claim7.holds_tied_plain_at .later [] _ _ _ _ said (fun _ h => by cases h) (by as_aux_lemma => kernel_rfl) (fun _ h => by cases h) valueNames_row_tie rfl ⟨rfl, rfl⟩ (by as_aux_lemma => kernel_rfl) rfl (plain_of (g := 3) (fg := Tryd.f3) named Tryd.func3 (by as_aux_lemma => kernel_rfl)) (by as_aux_lemma => kernel_rfl)
#print axioms proved
end Go.Proofs.YtndkmcpjlakigaaDoor.valueNames
