/-
  Contracts of may and Coded.
-/
import Derived.Test.YtdfhpblceoaofaaDoorRows
import Derived.WalkKit
import Derived.ProofKit
import Derived.OpenShut
import Derived.IntWalk
import Derived.Lib.Hide
import Derived.WalkLawsBesides
import Derived.WalkSpells
import Derived.Deep.QuietTactic
import Derived.BigQuiet
import Derived.Outline
import Derived.Lib.DecodeN
import Derived.Laws.BytesArg
import Derived.RangeFuncBox
namespace Go.Proofs.YtdfhpblceoaofaaDoor
open Go.ChangeShapes Go.WideShapes Go.ChangeAt Go.RowKit
set_option linter.unusedVariables false

def isR (r : Int) : Prop := 0 ≤ r ∧ r ≤ 1114111 ∧ (r < 55296 ∨ 57343 < r)

theorem may_yes (r : Int) (w : World) (h0 : 0 ≤ r) (h1 : r ≤ 1114111) (h2 : r < 55296 ∨ 57343 < r) :
    Calls Tryd.prog 50 #[.int .i32 r] w fun e w' => e = .returned (.bool true) ∧ w = w' := by
  rcases h2 with h2 | h2
  · go_enter Tryd.func50, Tryd.ntmps50
    go_wp2
    go_ret
    exact ⟨rfl, rfl⟩
  · have h3 : 55296 ≤ r := by omega
    go_enter Tryd.func50, Tryd.ntmps50
    go_wp2
    go_ret
    exact ⟨by simp, rfl⟩

theorem may_no (r : Int) (w : World) (h : ¬ isR r) :
    Calls Tryd.prog 50 #[.int .i32 r] w fun e w' => e = .returned (.bool false) ∧ w = w' := by
  by_cases h0 : r < 0
  · clear h
    go_enter Tryd.func50, Tryd.ntmps50
    go_wp2
    go_ret
    exact ⟨rfl, rfl⟩
  · by_cases h1 : 1114111 < r
    · clear h
      go_enter Tryd.func50, Tryd.ntmps50
      go_wp2
      go_ret
      exact ⟨rfl, rfl⟩
    · have h2 : 55296 ≤ r := by unfold isR at h; omega
      have h3 : r ≤ 57343 := by unfold isR at h; omega
      clear h
      go_enter Tryd.func50, Tryd.ntmps50
      go_wp2
      go_ret
      have e1 : decide (57343 < r) = false := decide_eq_false (by omega)
      exact ⟨by simp [e1, h2], rfl⟩

/-- A row of bytes just made, as a text. -/
theorem conv_new (xs : List Int) (w : World) :
    (convert 55 9 (.slice (some ⟨w.heap.size, 0, none⟩) xs.length xs.length)).run Tryd.prog (w.alloc (.cells (xs.map (Value.int .u8)).toArray 5)) = .ok (.string (strOfNums xs)) (w.alloc (.cells (xs.map (Value.int .u8)).toArray 5)) :=
  run_convert_bytes_arg _ 55 5 Tryd.underlying55 Tryd.underlying5 w.heap.size 0 xs.length xs.length xs rfl (fun i hi => by
    unfold World.cell?; rw [World.alloc_heap_new]; simp [List.getElem?_eq_getElem hi]) 9 Tryd.underlying9

def codedL (r : Int) : List Int :=
  if r < 128 then [r]
  else if r < 2048 then [192 + r / 64, 128 + r % 64]
  else if r < 65536 then [224 + r / 4096, 128 + r / 64 % 64, 128 + r % 64]
  else [240 + r / 262144, 128 + r / 4096 % 64, 128 + r / 64 % 64, 128 + r % 64]

theorem retS {a b : ByteArray} (h : a = b) : Ending.returned (.string a) = .returned (.string b) := by rw [h]

theorem coded_any (r : Int) (w : World) (h0 : 0 ≤ r) (h1 : r ≤ 1114111) :
    Calls Tryd.prog 51 #[.int .i32 r] w fun e w' => e = .returned (.string (strOfNums (codedL r))) ∧ Below w.heap.size w w' := by
  have k1 := fun x1 w => conv_new [x1] w
  have k2 := fun x1 x2 w => conv_new [x1, x2] w
  have k3 := fun x1 x2 x3 w => conv_new [x1, x2, x3] w
  have k4 := fun x1 x2 x3 x4 w => conv_new [x1, x2, x3, x4] w
  simp only [List.map_cons, List.map_nil, List.length_cons, List.length_nil, Nat.zero_add, Nat.reduceAdd] at k1 k2 k3 k4
  by_cases c1 : r < 128
  · have e : codedL r = [r] := by simp [codedL, c1]
    rw [e]; clear e
    go_enter Tryd.func51, Tryd.ntmps51
    go_wp2
    go_ret
    exact ⟨rfl, (Below.refl _ _).alloc (Nat.le_refl _) _⟩
  by_cases c2 : r < 2048
  · have e : codedL r = [192 + r / 64, 128 + r % 64] := by simp [codedL, c1, c2]
    rw [e]; clear e
    go_enter Tryd.func51, Tryd.ntmps51
    go_wp2
    go_ret
    exact ⟨rfl, (Below.refl _ _).alloc (Nat.le_refl _) _⟩
  by_cases c3 : r < 65536
  · have e : codedL r = [224 + r / 4096, 128 + r / 64 % 64, 128 + r % 64] := by simp [codedL, c1, c2, c3]
    rw [e]; clear e
    go_enter Tryd.func51, Tryd.ntmps51
    go_wp2
    go_ret
    exact ⟨rfl, (Below.refl _ _).alloc (Nat.le_refl _) _⟩
  · have e : codedL r = [240 + r / 262144, 128 + r / 4096 % 64, 128 + r / 64 % 64, 128 + r % 64] := by simp [codedL, c1, c2, c3]
    rw [e]; clear e
    go_enter Tryd.func51, Tryd.ntmps51
    go_wp2
    go_ret
    exact ⟨rfl, (Below.refl _ _).alloc (Nat.le_refl _) _⟩
end Go.Proofs.YtdfhpblceoaofaaDoor
