/-
  Carried from another seat.
-/
import Derived.Test.YtfhnhilnjcfpkaaH
import Derived.Lib.Strings
import Derived.Lib.Slices
import Derived.Laws.Strings3
import Derived.Laws.AppendOwnNone
import Derived.Lib.SliceRun
/-
  What two stacks have alike: Common, the program's and the document's.
-/
namespace Go.Proofs.Ytfhnhilnjcfpkaa
open Go.ChangeShapes Go.WideShapes Go.ChangeAt Go.RowKit
set_option linter.unusedVariables false
def cm : List Pl → List Pl → Nat
  | p :: l, q :: m => if p = q then cm l m + 1 else 0
  | _, _ => 0
end Go.Proofs.Ytfhnhilnjcfpkaa
