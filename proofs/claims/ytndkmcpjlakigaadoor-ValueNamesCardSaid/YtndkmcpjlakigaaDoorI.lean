/-
  The fields of a value fit.
-/
import Derived.Test.YtndkmcpjlakigaaDoorG
namespace Go.Proofs.YtndkmcpjlakigaaDoor
open Go.ChangeShapes Go.WideShapes Go.ChangeAt Go.RowKit Go.Sort
set_option linter.unusedVariables false
theorem run_store_float {P : Program} {a : Addr} {m : Mode} {w : World} (k : FloatKind) (b : Nat) : (store a (.float k b) m).run P w = stored P w a (.float k b) m := run_store P w a _ m rfl
attribute [local go_sem] bits19 run_store_float

def vV (k : Int) (t : ByteArray) (s : Value) : Value := .agg #[.int .u8 k, .int .i64 0, .float .f64 0, .float .f64 0, .string t, s]

set_option maxRecDepth 100000 in
set_option maxHeartbeats 4000000 in
theorem uns_yes (w : World) : Calls Tryd.prog 15 #[.float .f64 0] w fun e w' => e = .returned (.bool true) ∧ w = w' := by
  go_enter Tryd.func15, Tryd.ntmps15
  go_wp2
  go_ret
  exact ⟨rfl, rfl⟩

set_option maxRecDepth 100000 in
set_option maxHeartbeats 4000000 in
theorem fit_0 (w : World) : Calls Tryd.prog 11 #[vV 0 ByteArray.empty (.slice none 0 0)] w fun e w' => e = .returned (.bool true) ∧ Below w.heap.size w w' := by
  unfold vV
  go_enter Tryd.func11, Tryd.ntmps11
  go_wp2_with (go_at_call 15; (with_reducible refine (uns_yes _).mono ?_); rintro e w2 ⟨rfl, rfl⟩)
  go_ret
  exact ⟨by kernel_rfl, ((Below.refl _ w).alloc (Nat.le_refl _) _).alloc (by simp) _⟩
set_option maxRecDepth 100000 in
set_option maxHeartbeats 4000000 in
theorem fit_7 (a : Option Addr) (n c : Nat) (w : World) : Calls Tryd.prog 11 #[vV 7 ByteArray.empty (.slice a n c)] w fun e w' => e = .returned (.bool true) ∧ Below w.heap.size w w' := by
  unfold vV
  go_enter Tryd.func11, Tryd.ntmps11
  go_wp2_with (go_at_call 15; (with_reducible refine (uns_yes _).mono ?_); rintro e w2 ⟨rfl, rfl⟩)
  go_ret
  exact ⟨by kernel_rfl, ((Below.refl _ w).alloc (Nat.le_refl _) _).alloc (by simp) _⟩
set_option maxRecDepth 100000 in
set_option maxHeartbeats 4000000 in
theorem fit_5 (t : ByteArray) (ht : t.size ≤ 4096) (w : World) : Calls Tryd.prog 11 #[vV 5 t (.slice none 0 0)] w fun e w' => e = .returned (.bool true) ∧ Below w.heap.size w w' := by
  unfold vV
  have h1 : ¬ (t.size : Int) > 4096 := by omega
  go_enter Tryd.func11, Tryd.ntmps11
  go_wp2_with (go_at_call 15; (with_reducible refine (uns_yes _).mono ?_); rintro e w2 ⟨rfl, rfl⟩)
  go_ret
  exact ⟨by kernel_rfl, ((Below.refl _ w).alloc (Nat.le_refl _) _).alloc (by simp) _⟩
end Go.Proofs.YtndkmcpjlakigaaDoor
