/-
  Carried from another seat.
-/
import Derived.Test.YtfhnhilnjcfpkaaE
/-
  The document's own May and Check.
-/
namespace Go.Proofs.Ytfhnhilnjcfpkaa
open Go.ChangeShapes Go.WideShapes Go.ChangeAt Go.RowKit
set_option linter.unusedVariables false
theorem may_out {p : Pl} (h : ¬ (1 ≤ p.1.size ∧ p.1.size ≤ 120 ∧ 0 ≤ p.2 ∧ p.2 ≤ 1048576)) : may p = false := by
  unfold may; rw [decide_eq_false h]; rfl
theorem may_in {p : Pl} (h : 1 ≤ p.1.size ∧ p.1.size ≤ 120 ∧ 0 ≤ p.2 ∧ p.2 ≤ 1048576) : may p = p.1.data.toList.all okB := by
  unfold may; rw [decide_eq_true h]; rfl
end Go.Proofs.Ytfhnhilnjcfpkaa
