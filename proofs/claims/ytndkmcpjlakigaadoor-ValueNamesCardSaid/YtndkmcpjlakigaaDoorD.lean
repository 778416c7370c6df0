/-
  The digits written out.
-/
import Derived.Test.YtndkmcpjlakigaaDoorC
namespace Go.Proofs.YtndkmcpjlakigaaDoor
set_option linter.unusedVariables false
open Go.ChangeShapes Go.WideShapes Go.ChangeAt Go.RowKit Go.Sort

@[local simp] theorem cell_past (w : World) (b i j : Nat) (v : Value) (h : i ≠ j) : (w.setCell ⟨b, i, none⟩ v).cell? ⟨b, j, none⟩ = w.cell? ⟨b, j, none⟩ :=
  World.cell?_setCell_other _ _ _ _ (by intro e; cases e; exact h rfl)

theorem lt_more1 {b n : Nat} (h : b < n) : (b < n + 1) = True := eq_true (by omega)
theorem lt_more2 {b n : Nat} (h : b < n) : (b < n + 1 + 1) = True := eq_true (by omega)
theorem lt_more3 {b n : Nat} (h : b < n) : (b < n + 1 + 1 + 1) = True := eq_true (by omega)
theorem lt_more4 {b n : Nat} (h : b < n) : (b < n + 1 + 1 + 1 + 1) = True := eq_true (by omega)
theorem lt_more5 {b n : Nat} (h : b < n) : (b < n + 1 + 1 + 1 + 1 + 1) = True := eq_true (by omega)
theorem lt_more6 {b n : Nat} (h : b < n) : (b < n + 1 + 1 + 1 + 1 + 1 + 1) = True := eq_true (by omega)

attribute [local go_sem] cell_past lt_more1 lt_more2 lt_more3 lt_more4 lt_more5 lt_more6

set_option maxRecDepth 100000 in
set_option maxHeartbeats 4000000 in
theorem efg_e (B D n : Nat) (w : World) (hBD : B ≠ D) (hn : n ≤ D) (hb : w.cell? ⟨B, 0, none⟩ = some (.int .u8 49)) (hD : w.heap[D]? = some (.cells (Array.replicate 24 (.int .u8 0)) 5 (0, 0))) :
    Calls Tryd.prog 28 #[.slice (some ⟨D, 0, none⟩) 0 24, .bool false, .slice (some ⟨B, 0, none⟩) 32 32, .int .i64 7, .int .i64 1, .int .i64 1, .int .u8 103, .bool true] w fun e w' => e = .returned (.slice (some ⟨D, 0, none⟩) 5 24) ∧ w'.cell? ⟨D, 0, none⟩ = some (.int .u8 49) ∧ w'.cell? ⟨D, 1, none⟩ = some (.int .u8 101) ∧ w'.cell? ⟨D, 2, none⟩ = some (.int .u8 43) ∧ w'.cell? ⟨D, 3, none⟩ = some (.int .u8 48) ∧ w'.cell? ⟨D, 4, none⟩ = some (.int .u8 54) ∧ Below n w w' := by
  have d0 : w.cell? ⟨D, 0, none⟩ = some (.int .u8 0) := by simp [World.cell?, hD]
  have d1 : w.cell? ⟨D, 1, none⟩ = some (.int .u8 0) := by simp [World.cell?, hD]
  have d2 : w.cell? ⟨D, 2, none⟩ = some (.int .u8 0) := by simp [World.cell?, hD]
  have d3 : w.cell? ⟨D, 3, none⟩ = some (.int .u8 0) := by simp [World.cell?, hD]
  have d4 : w.cell? ⟨D, 4, none⟩ = some (.int .u8 0) := by simp [World.cell?, hD]
  have hf : ∀ j, w.frozen? ⟨D, j, none⟩ = false := fun j => by simp [World.frozen?, hD]
  have f0 := hf 0
  have f1 := hf 1
  have f2 := hf 2
  have f3 := hf 3
  have f4 := hf 4
  have hlt := (Array.getElem?_eq_some_iff.1 hD).1
  have HD := Lib.hid hD
  clear hD hf
  go_enter Tryd.func28, Tryd.ntmps28
  go_wp2
  go_ret
  clear hBD hb f0 f1 f2 f3 f4 HD
  refine ⟨rfl, ?_, ?_, ?_, ?_, ?_, ?_⟩
  iterate 5
    with_reducible refine (World.cell?_alloc_past _ _ _ (by simp; omega)).trans ?_
    with_reducible refine (World.cell?_alloc_past _ _ _ (by simp; omega)).trans ?_
    with_reducible refine (World.cell?_alloc_past _ _ _ (by simp; omega)).trans ?_
    with_reducible refine (World.cell?_alloc_past _ _ _ (by simp; omega)).trans ?_
    repeat with_reducible refine (cell_past _ _ _ _ _ (by decide)).trans ?_
    with_reducible refine World.cell?_setCell_same _ _ _ (u := .int .u8 0) ?_
    repeat with_reducible refine (cell_past _ _ _ _ _ (by decide)).trans ?_
    assumption
  iterate 4 refine Below.alloc ?_ (by simp; omega) _
  iterate 5 refine Below.setCell ?_ hn _
  exact Below.refl _ _
end Go.Proofs.YtndkmcpjlakigaaDoor
