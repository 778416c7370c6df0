/-
  Carried from another seat.
-/
import Derived.Test.YtfhnhilnjcfpkaaK
import Derived.Lib.OthersKept
import Derived.RangeFuncNested
import Derived.RangeFuncBound
import Derived.RangeFuncCalls
import Derived.RangeFuncLeaves
import Derived.RangeFuncBox
import Derived.Shelf.Abstract
import Derived.Shelf.RegionOpen
import Derived.OwnWalkIn
import Derived.TacticsInMore
import Derived.LoopNIn
import Derived.LoopIn
import Derived.Laws.EntriesVeiled
import Derived.Lib.IndexBytes
/-
  The iterator of strings.SplitSeq at the three bytes between.
-/
namespace Go.Proofs.Ytfhnhilnjcfpkaa
open Go.ChangeShapes Go.WideShapes Go.ChangeAt Go.RowKit Go.Shelf
set_option linter.unusedVariables false
attribute [local go_sem] Oper.semAt_some
theorem extract_bts (y : ByteArray) (i : Nat) : y.extract 0 i = bts (y.data.toList.take i) := by
  apply ba_ext; rw [bts_list]; simp
end Go.Proofs.Ytfhnhilnjcfpkaa
