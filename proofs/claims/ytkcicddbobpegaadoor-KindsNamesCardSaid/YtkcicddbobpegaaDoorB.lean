/-
  Make of four specs.
-/
import Derived.Test.YtkcicddbobpegaaDoorA
import Derived.Below
import Derived.Laws.Externs
import Derived.Deep.RegionHeld3
namespace Go.Proofs.YtkcicddbobpegaaDoor
open Go.ChangeShapes Go.WideShapes Go.ChangeAt Go.RowKit
set_option linter.unusedVariables false

def spV (k : Int) (p : Value) : Value := .agg #[.int .u8 k, .bool false, .string ByteArray.empty, .int .i16 0, .int .i8 0, .float .f64 0, .float .f64 0, .bool false, .int .u32 0, .slice none 0 0, p]
theorem bits64 (b : Nat) (w : World) : (callFunc 27 #[.float .f64 b]).run Tryd.prog w = .ok (.value (.int .u64 b)) w := by
  rw [run_callFunc_extern (fn := Tryd.f27) (e := Extern.MathFloatBits.float64bits) Tryd.func27 (by decide +kernel) (by kernel_rfl) (by kernel_rfl) (by kernel_rfl)]
  change (Sem.run Tryd.prog (pure (Value.int .u64 b)) w).andThen _ = _
  rfl
theorem run_makeFunc (fn : Fn) (first cap : Array Value) (w : World) : (Instr.makeFunc fn first cap).run Tryd.prog w = .ok (.func fn first cap) w := rfl

theorem mark_no (n : Int) (a : Addr) (w : World) : Calls Tryd.prog 26 #[.bool false, .int .u8 n, .pointer (some a)] w fun e w' => e = .returned (.tuple #[]) ∧ w = w' := by
  go_enter Tryd.func26, Tryd.ntmps26
  go_wp2
  go_end0
  exact ⟨rfl, rfl⟩
set_option maxRecDepth 100000 in
set_option maxHeartbeats 4000000 in
theorem set_zero (k : Int) (p : Value) (w : World) : Calls Tryd.prog 22 #[spV k p] w fun e w' => e = .returned (.int .u8 0) ∧ Below w.heap.size w w' := by
  unfold spV
  have hmf := run_makeFunc
  have hfb := bits64
  go_enter Tryd.func22, Tryd.ntmps22
  go_wp2_with ((with_reducible refine (mark_no _ _ _).mono ?_); rintro e w' ⟨rfl, rfl⟩)
  go_ret
  exact ⟨rfl, ((Below.refl _ w).alloc (Nat.le_refl _) _).alloc (by simp) _⟩

/-- What counts in a spec of a kind without a box. -/
theorem of_any (k : Int) (hk : k = 1 ∨ k = 14) (p : Value) (w : World) (hK : Kd w) : Calls Tryd.prog 23 #[spV k p] w fun e w' => ∃ f, e = .returned (.int .u8 f) ∧ (f = 2 ∨ f = 1) ∧ Below w.heap.size w w' := by
  unfold spV
  have h1 := hK 1 _ rfl
  have h14 := hK 14 _ rfl
  have hlt := hK.lt
  rcases hk with rfl | rfl <;> (go_enter Tryd.func23, Tryd.ntmps23; go_wp2)
  · go_ret
    exact ⟨_, rfl, .inl rfl, (Below.refl _ w).alloc (Nat.le_refl _) _⟩
  · go_ret
    exact ⟨_, rfl, .inr rfl, (Below.refl _ w).alloc (Nat.le_refl _) _⟩
end Go.Proofs.YtkcicddbobpegaaDoor
