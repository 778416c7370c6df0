/-
  Carried from another seat.
-/
import Derived.Test.YtfhnhilnjcfpkaaS
import Derived.Test.YtfhnhilnjcfpkaaK
import Derived.RegionTactic
import Derived.BigRegion
import Derived.Deep.DeepMust
import Derived.KernelRfl
import Derived.Test.YtfhnhilnjcfpkaaSE
/-
  Runs of the call's own: the list of runs that a law hands to Unfold.
-/
namespace Go.Proofs.Ytfhnhilnjcfpkaa
open Go.ChangeShapes Go.WideShapes Go.ChangeAt Go.RowKit Go.Shelf
set_option linter.unusedVariables false
/-- Rows of unlike element types are apart: what is written to one leaves the other. -/
theorem keep_other {W W' : World} {B1 B2 e1 e2 s1 s2 n1 n2 : Nat} {v1 v2 : Value} {x1 x2 : List Value} (h1 : W.ownsRow B1 e1 s1 v1 n1 x1) (h2 : W.ownsRow B2 e2 s2 v2 n2 x2) (he : e1 ≠ e2) (hg : W.grownBy W' v2.ownBlock) : W'.ownsRow B1 e1 s1 v1 n1 x1 := by
  refine h1.kept hg ?_
  rcases h1.2 with ⟨rfl, _⟩ | ⟨g, cap, cur, rfl, _, hb1, _⟩
  · exact .inl rfl
  · refine .inr fun e => ?_
    rcases h2.2 with ⟨rfl, _⟩ | ⟨g', cap', cur', rfl, _, hb2, _⟩
    · simp [Value.ownBlock] at e
    · have : g = g' := by simpa [Value.ownBlock] using e
      subst this
      rw [hb1] at hb2
      simp at hb2
      exact he hb2.2
end Go.Proofs.Ytfhnhilnjcfpkaa
