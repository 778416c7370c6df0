/-
  Carried from another seat.
-/
import Derived.Test.YtfhnhilnjcfpkaaS
import Derived.Test.YtfhnhilnjcfpkaaK
import Derived.RegionTactic
import Derived.BigRegion
import Derived.Deep.DeepMust
import Derived.KernelRfl
import Derived.Laws.IdiomStrings
import Derived.Test.YtfhnhilnjcfpkaaG
/-
  The document's pieces of a text.
-/
namespace Go.Proofs.Ytfhnhilnjcfpkaa
open Go.ChangeShapes Go.WideShapes Go.ChangeAt Go.RowKit Go.Shelf
set_option linter.unusedVariables false
theorem ext_list (s : ByteArray) (a b : Nat) : (s.extract a b).data.toList = (s.data.toList.drop a).take (b - a) := by simp
theorem ext_bts (s : ByteArray) (a b : Nat) : s.extract a b = bts ((s.data.toList.drop a).take (b - a)) := by apply ba_ext; rw [ext_list, bts_list]
theorem ext_end (s : ByteArray) (a : Nat) : s.extract a s.size = bts (s.data.toList.drop a) := by
  rw [ext_bts]
  congr 1
  exact List.take_of_length_le (by simp)
end Go.Proofs.Ytfhnhilnjcfpkaa
