/-
  Carried from another seat.
-/
import Derived.Test.YtfhnhilnjcfpkaaD
import Derived.Laws.StructEq
/-
  kept and spoil.
-/
namespace Go.Proofs.Ytfhnhilnjcfpkaa
open Go.ChangeShapes Go.WideShapes Go.ChangeAt Go.RowKit
set_option linter.unusedVariables false
theorem below_drewN (B : Nat) (w : World) (n : Nat) (h : B ≤ w.heap.size) : Below B w (w.drewN n) := ⟨rfl, rfl, rfl, Nat.le_refl _, fun _ _ => rfl⟩
end Go.Proofs.Ytfhnhilnjcfpkaa
