/-
  Neither nan nor infinite.
-/
import Derived.Test.YtndkmcpjlakigaaDoorE
namespace Go.Proofs.YtndkmcpjlakigaaDoor
open Go.ChangeShapes Go.WideShapes Go.ChangeAt Go.RowKit Go.Sort
set_option linter.unusedVariables false

theorem bits19 (b : Nat) (w : World) : (callFunc 19 #[.float .f64 b]).run Tryd.prog w = .ok (.value (.int .u64 b)) w := by
  rw [run_callFunc_extern (fn := Tryd.f19) (e := Extern.MathFloatBits.float64bits) Tryd.func19 (by decide +kernel) (by kernel_rfl) (by kernel_rfl) (by kernel_rfl)]
  change (Sem.run Tryd.prog (pure (Value.int .u64 b)) w).andThen _ = _
  rfl
theorem from18 (b : Int) (w : World) : (callFunc 18 #[.int .u64 b]).run Tryd.prog w = .ok (.value (.float .f64 b.toNat)) w := by
  rw [run_callFunc_extern (fn := Tryd.f18) (e := Extern.MathFloatBits.float64frombits) Tryd.func18 (by decide +kernel) (by kernel_rfl) (by kernel_rfl) (by kernel_rfl)]
  change (Sem.run Tryd.prog (pure (Value.float .f64 b.toNat)) w).andThen _ = _
  rfl
attribute [local go_sem] bits19 from18

set_option maxRecDepth 100000 in
theorem nan_no (b : Nat) (hb : b = 4681608360884174848 ∨ b = 4696837146684686336) (w : World) : Calls Tryd.prog 8 #[.float .f64 b] w fun e w' => e = .returned (.bool false) ∧ w = w' := by
  rcases hb with rfl | rfl
  all_goals
    go_enter Tryd.func8, Tryd.ntmps8
    go_wp2
    go_ret
    exact ⟨by kernel_rfl, rfl⟩
set_option maxRecDepth 100000 in
theorem inf_no (b : Nat) (hb : b = 4681608360884174848 ∨ b = 4696837146684686336) (w : World) : Calls Tryd.prog 9 #[.float .f64 b, .int .i64 0] w fun e w' => e = .returned (.bool false) ∧ w = w' := by
  have b1 : bits .andNot .u64 4681608360884174848 9223372036854775808 = 4681608360884174848 := by kernel_rfl
  have b2 : bits .andNot .u64 4696837146684686336 9223372036854775808 = 4696837146684686336 := by kernel_rfl
  rcases hb with rfl | rfl
  all_goals
    go_enter Tryd.func9, Tryd.ntmps9
    go_wp2
    go_ret
    exact ⟨by kernel_rfl, rfl⟩
theorem has_f (w : World) : Calls Tryd.prog 10 #[.string ⟨#[49, 48, 48, 48, 48, 48]⟩, .string ⟨#[46, 101]⟩] w fun e w' => e = .returned (.bool false) ∧ Below w.heap.size w w' := by
  have h := Tryd.strings_ContainsAny_laid ⟨#[49, 48, 48, 48, 48, 48]⟩ ⟨#[46, 101]⟩ w (by decide) (by decide) (fun j b hj => by
    have := List.mem_of_getElem? hj
    simp at this
    rcases this with rfl | rfl <;> decide) (fun j b hj => by
    have := List.mem_of_getElem? hj
    simp at this
    rcases this with rfl | rfl <;> decide)
  have e : Lib.containsAny (⟨#[49, 48, 48, 48, 48, 48]⟩ : ByteArray).data.toList (⟨#[46, 101]⟩ : ByteArray).data.toList = false := by decide +kernel
  rw [e] at h
  exact h
theorem has_e (w : World) : Calls Tryd.prog 10 #[.string ⟨#[49, 101, 43, 48, 54]⟩, .string ⟨#[46, 101]⟩] w fun e w' => e = .returned (.bool true) ∧ Below w.heap.size w w' := by
  have h := Tryd.strings_ContainsAny_laid ⟨#[49, 101, 43, 48, 54]⟩ ⟨#[46, 101]⟩ w (by decide) (by decide) (fun j b hj => by
    have := List.mem_of_getElem? hj
    simp at this
    rcases this with rfl | rfl | rfl | rfl | rfl <;> decide) (fun j b hj => by
    have := List.mem_of_getElem? hj
    simp at this
    rcases this with rfl | rfl <;> decide)
  have e : Lib.containsAny (⟨#[49, 101, 43, 48, 54]⟩ : ByteArray).data.toList (⟨#[46, 101]⟩ : ByteArray).data.toList = true := by decide +kernel
  rw [e] at h
  exact h
end Go.Proofs.YtndkmcpjlakigaaDoor
