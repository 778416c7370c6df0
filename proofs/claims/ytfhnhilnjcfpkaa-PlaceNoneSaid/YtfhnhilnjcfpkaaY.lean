/-
  Carried from another seat.
-/
import Derived.Test.YtfhnhilnjcfpkaaRows
import Derived.Test.YtfhnhilnjcfpkaaShelf
import Derived.Test.YtfhnhilnjcfpkaaS
import Derived.Test.YtfhnhilnjcfpkaaK
import Derived.RegionTactic
import Derived.BigRegion
import Derived.Deep.DeepMust
import Derived.KernelRfl
import Derived.Lib.LaidIn
import Derived.Lib.LaidTab
import Derived.Lib.LaidU8T
import Derived.Stop.LaidErr
import Derived.PinnedBridge
import Derived.Deep.DeepHandedRow
import Derived.Deep.DeepWitnessRowRef
import Derived.Deep.SlicePairs
import Derived.Deep.Strs
import Derived.SizedLaws
import Derived.ProofKit
import Derived.ShutString
/-
  What the rows' list gives; a world for the witness.
-/
namespace Go.Proofs.Ytfhnhilnjcfpkaa
open Go.ChangeShapes Go.WideShapes Go.ChangeAt Go.RowKit Go.Shelf
set_option linter.unusedVariables false
theorem own : ownKnob Try.prog.godebug = none := by kernel_rfl
end Go.Proofs.Ytfhnhilnjcfpkaa
