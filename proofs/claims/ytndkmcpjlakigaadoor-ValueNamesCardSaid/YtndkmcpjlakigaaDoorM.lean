/-
  Check.
-/
import Derived.Test.YtndkmcpjlakigaaDoorL
import Derived.Test.YtndkmcpjlakigaaDoorF
namespace Go.Proofs.YtndkmcpjlakigaaDoor
open Go.ChangeShapes Go.WideShapes Go.ChangeAt Go.RowKit Go.Sort
set_option linter.unusedVariables false
attribute [local go_sem] run_store_float

set_option maxRecDepth 100000 in
set_option maxHeartbeats 4000000 in
theorem check_any (k : Int) (t : ByteArray) (a : Option Addr) (n c : Nat) (ok : Bool) (x : Int) (w : World)
    (h : ∀ W, Below w.heap.size w W → Calls Tryd.prog 6 #[vV k t (.slice a n c), .int .i64 1024, .int .i64 16] W fun e w' => e = .returned (.tuple #[.int .i64 x, .bool ok]) ∧ Below W.heap.size W w') :
    Calls Tryd.prog 4 #[vV k t (.slice a n c)] w fun e w' => e = .returned (.int .i64 (if ok then 0 else 20)) ∧ Below w.heap.size w w' := by
  have hba := (Below.refl w.heap.size w).alloc (Nat.le_refl _) (.cells #[.int .u8 k, .int .i64 0, .float .f64 0, .float .f64 0, .string t, .slice a n c] 25)
  have H6 := Lib.hid (h _ hba)
  clear h
  unfold vV at *
  cases ok
  all_goals
    go_enter Tryd.func4, Tryd.ntmps4
    go_wp2_with (go_at_call 6; (with_reducible refine H6.out.mono ?_); rintro e w3 ⟨rfl, hb3⟩)
    go_ret
    exact ⟨rfl, hba.trans (hb3.mono hba.size)⟩
set_option maxRecDepth 100000 in
theorem info25 : (Tryd.prog.info? 25).map (fun i => (i.zero, i.size, i.bytes)) = some (some (vV 0 ByteArray.empty (.slice none 0 0)), 6, 72) := by kernel_rfl
end Go.Proofs.YtndkmcpjlakigaaDoor
