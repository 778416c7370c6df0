/-
  The world's words for places, and contracts of mayBe and what it calls.
-/
import Derived.Test.YtocdinaomkmcbaaDoorProg
import Derived.Test.YtocdinaomkmcbaaDoorMA
import Derived.WalkKit
import Derived.ProofKit
import Derived.OpenShut
import Derived.IntWalk
import Derived.Lib.Hide
import Derived.WalkLawsBesides
import Derived.WalkSpells
import Derived.Deep.QuietTactic
import Derived.BigQuiet
import Derived.Outline
import Derived.Deep.AppendLies
import Derived.Maps.AppendAt
import Derived.Laws.OwnMore
import Derived.RangeFuncBox
import Derived.Below
namespace Go.Proofs.YtocdinaomkmcbaaDoor
open Go.ChangeShapes Go.WideShapes Go.ChangeAt Go.RowKit
set_option linter.unusedVariables false

theorem none_yes (x : Int) (w : World) (h : x < 33 ∨ 126 < x ∨ x = 58) :
    Calls Tryd.prog 79 #[.int .i32 x] w fun e w' => e = .returned (.bool true) ∧ w = w' := by
  by_cases h1 : x < 33
  · clear h
    go_enter Tryd.func79, Tryd.ntmps79
    go_wp2
    go_ret
    exact ⟨rfl, rfl⟩
  · by_cases h2 : 126 < x
    · clear h
      go_enter Tryd.func79, Tryd.ntmps79
      go_wp2
      go_ret
      exact ⟨rfl, rfl⟩
    · obtain rfl : x = 58 := by omega
      clear h
      go_enter Tryd.func79, Tryd.ntmps79
      go_wp2
      go_ret
      exact ⟨rfl, rfl⟩
theorem none_no (x : Int) (w : World) (h1 : 33 ≤ x) (h2 : x ≤ 126) (h3 : x ≠ 58) :
    Calls Tryd.prog 79 #[.int .i32 x] w fun e w' => e = .returned (.bool false) ∧ w = w' := by
  have h4 : (x == 58) = false := by simpa using h3
  have h5 : decide (x < 33) = false := decide_eq_false (by omega)
  have h6 : decide (126 < x) = false := decide_eq_false (by omega)
  clear h3
  go_enter Tryd.func79, Tryd.ntmps79
  go_wp2
  go_ret
  exact ⟨by simp, rfl⟩

/-- The runes that no name has. -/
def bad (x : Nat) : Bool := decide ((x : Int) < 33 ∨ 126 < (x : Int) ∨ (x : Int) = 58)
theorem none_any (x : Nat) (w : World) : Calls Tryd.prog 79 #[.int .i32 (x : Int)] w fun e w' => e = .returned (.bool (bad x)) ∧ w = w' := by
  by_cases h : (x : Int) < 33 ∨ 126 < (x : Int) ∨ (x : Int) = 58
  · rw [show bad x = true from decide_eq_true h]; exact none_yes _ w h
  · rw [show bad x = false from decide_eq_false h]; exact none_no _ w (by omega) (by omega) (by omega)
end Go.Proofs.YtocdinaomkmcbaaDoor
