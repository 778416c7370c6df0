/-
  Carried from another seat.
-/
import Derived.Test.YtfhnhilnjcfpkaaY
import Derived.Carry
/-
  Lists of places and of texts that a row hands in.
-/
namespace Go.Proofs.Ytfhnhilnjcfpkaa
open Go.ChangeShapes Go.WideShapes Go.ChangeAt Go.RowKit Go.Shelf
open Go.Deep (open_slice_pairs open_strs choose_lt)
set_option linter.unusedVariables false
theorem laidOut : laidOutB Try.prog = true := by kernel_rfl
end Go.Proofs.Ytfhnhilnjcfpkaa
