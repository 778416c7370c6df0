/-
  Carried from another seat.
-/
import Derived.Test.YtfhnhilnjcfpkaaQ
import Derived.Lib.SmallJoins
/-
  The place that a text seems to be.
-/
namespace Go.Proofs.Ytfhnhilnjcfpkaa
open Go.ChangeShapes Go.WideShapes Go.ChangeAt Go.RowKit Go.Shelf
set_option linter.unusedVariables false
def acc (l : List UInt8) : Nat := l.foldl (fun a c => 10 * a + c.toNat % 16) 0
end Go.Proofs.Ytfhnhilnjcfpkaa
