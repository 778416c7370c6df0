/-
  Two floats scaled: the leaf functions of strconv at the numbers that they come to.
-/
import Derived.Test.YtndkmcpjlakigaaDoorRows
import Derived.WalkKit
import Derived.ProofKit
import Derived.OpenShut
import Derived.Below
import Derived.IntWalk
import Derived.Laws.Externs
import Derived.Laws.EntriesVeiled
import Derived.BigQuiet
import Derived.Deep.QuietTactic
import Derived.Deep.RegionHeld3
import Derived.WalkLawsBesides
import Derived.Lib.Hide
import Derived.Lib.SliceRun
namespace Go.Proofs.YtndkmcpjlakigaaDoor
open Go.ChangeShapes Go.WideShapes Go.ChangeAt Go.RowKit
set_option linter.unusedVariables false

theorem mulmin1 (w : World) : Calls Tryd.prog 67 #[.int .u64 14073748835532798976, .int .u64 13421772800000000000] w fun e w' => e = .returned (.tuple #[.int .u64 10239999999999999254, .int .u64 17375731787325505536]) ∧ w = w' := by
  go_enter Tryd.func67, Tryd.ntmps67
  go_wp2
  go_ret2
  exact ⟨by kernel_rfl, rfl⟩
theorem mulmax1 (w : World) : Calls Tryd.prog 67 #[.int .u64 14073748835532801024, .int .u64 13421772800000000000] w fun e w' => e = .returned (.tuple #[.int .u64 10240000000000000745, .int .u64 1071012286384046080]) ∧ w = w' := by
  go_enter Tryd.func67, Tryd.ntmps67
  go_wp2
  go_ret2
  exact ⟨by kernel_rfl, rfl⟩
theorem mulmin2 (w : World) : Calls Tryd.prog 67 #[.int .u64 17592186044415998976, .int .u64 10737418240000000000] w fun e w' => e = .returned (.tuple #[.int .u64 10239999999999999403, .int .u64 17589934244602314752]) ∧ w = w' := by
  go_enter Tryd.func67, Tryd.ntmps67
  go_wp2
  go_ret2
  exact ⟨by kernel_rfl, rfl⟩
theorem mulmax2 (w : World) : Calls Tryd.prog 67 #[.int .u64 17592186044416001024, .int .u64 10737418240000000000] w fun e w' => e = .returned (.tuple #[.int .u64 10240000000000000596, .int .u64 856809829107236864]) ∧ w = w' := by
  go_enter Tryd.func67, Tryd.ntmps67
  go_wp2
  go_ret2
  exact ⟨by kernel_rfl, rfl⟩
set_option maxRecDepth 100000 in
theorem len64 (x n : Int) (hn : (x = 6871947673600000 ∧ n = 53) ∨ (x = 8589934592000000 ∧ n = 53) ∨ (x = 1000000000000000 ∧ n = 50)) (w : World) : Calls Tryd.prog 29 #[.int .u64 x] w fun e w' => e = .returned (.int .i64 n) ∧ w = w' := by
  rcases hn with ⟨rfl, rfl⟩ | ⟨rfl, rfl⟩ | ⟨rfl, rfl⟩ <;> (go_enter Tryd.func29, Tryd.ntmps29; go_wp2; go_ret; exact ⟨by kernel_rfl, rfl⟩)
theorem log10 (x p : Int) (h : (x = -36 ∧ p = -11) ∨ (x = -33 ∧ p = -10) ∨ (x = 50 ∧ p = 15)) (w : World) : Calls Tryd.prog 33 #[.int .i64 x] w fun e w' => e = .returned (.int .i64 p) ∧ w = w' := by
  rcases h with ⟨rfl, rfl⟩ | ⟨rfl, rfl⟩ | ⟨rfl, rfl⟩ <;> (go_enter Tryd.func33, Tryd.ntmps33; go_wp2; go_ret; exact ⟨by kernel_rfl, rfl⟩)
theorem log2 (x p : Int) (h : (x = 11 ∧ p = 36) ∨ (x = 10 ∧ p = 33)) (w : World) : Calls Tryd.prog 48 #[.int .i64 x] w fun e w' => e = .returned (.int .i64 p) ∧ w = w' := by
  rcases h with ⟨rfl, rfl⟩ | ⟨rfl, rfl⟩ <;> (go_enter Tryd.func48, Tryd.ntmps48; go_wp2; go_ret; exact ⟨by kernel_rfl, rfl⟩)
theorem nudge_low (w : World) : Calls Tryd.prog 50 #[.int .u64 39999999999999997, .int .i64 0] w fun e w' => e = .returned (.int .u64 39999999999999997) ∧ w = w' := by
  go_enter Tryd.func50, Tryd.ntmps50
  go_wp2
  go_ret
  exact ⟨by kernel_rfl, rfl⟩
theorem nudge_high (w : World) : Calls Tryd.prog 50 #[.int .u64 40000000000000003, .int .i64 0] w fun e w' => e = .returned (.int .u64 40000000000000003) ∧ w = w' := by
  go_enter Tryd.func50, Tryd.ntmps50
  go_wp2
  go_ret
  exact ⟨by kernel_rfl, rfl⟩
theorem ceil_low (w : World) : Calls Tryd.prog 51 #[.int .u64 39999999999999997] w fun e w' => e = .returned (.int .u64 10000000000000000) ∧ w = w' := by
  go_enter Tryd.func51, Tryd.ntmps51
  go_wp2
  go_ret
  exact ⟨by kernel_rfl, rfl⟩
theorem floor_high (w : World) : Calls Tryd.prog 52 #[.int .u64 40000000000000003] w fun e w' => e = .returned (.int .u64 10000000000000000) ∧ w = w' := by
  go_enter Tryd.func52, Tryd.ntmps52
  go_wp2
  go_ret
  exact ⟨by kernel_rfl, rfl⟩
theorem uscale_min1 (B : Nat) (w : World) (h0 : w.cell? ⟨B, 0, none⟩ = some (.int .u64 13421772800000000000)) (h2 : w.cell? ⟨B, 2, none⟩ = some (.int .i64 8)) : Calls Tryd.prog 49 #[.int .u64 14073748835532798976, .pointer (some ⟨B, 0, none⟩)] w fun e w' => e = .returned (.int .u64 39999999999999997) ∧ w = w' := by
  have hb : bits .and .i64 8 63 = 8 := by kernel_rfl
  go_enter Tryd.func49, Tryd.ntmps49
  go_wp2_with (go_at_call 67; (with_reducible refine (mulmin1 _).mono ?_); rintro e w' ⟨rfl, rfl⟩)
  go_ret
  exact ⟨by kernel_rfl, rfl⟩
theorem uscale_max1 (B : Nat) (w : World) (h0 : w.cell? ⟨B, 0, none⟩ = some (.int .u64 13421772800000000000)) (h2 : w.cell? ⟨B, 2, none⟩ = some (.int .i64 8)) : Calls Tryd.prog 49 #[.int .u64 14073748835532801024, .pointer (some ⟨B, 0, none⟩)] w fun e w' => e = .returned (.int .u64 40000000000000003) ∧ w = w' := by
  have hb : bits .and .i64 8 63 = 8 := by kernel_rfl
  go_enter Tryd.func49, Tryd.ntmps49
  go_wp2_with (go_at_call 67; (with_reducible refine (mulmax1 _).mono ?_); rintro e w' ⟨rfl, rfl⟩)
  go_ret
  exact ⟨by kernel_rfl, rfl⟩
theorem uscale_min2 (B : Nat) (w : World) (h0 : w.cell? ⟨B, 0, none⟩ = some (.int .u64 10737418240000000000)) (h2 : w.cell? ⟨B, 2, none⟩ = some (.int .i64 8)) : Calls Tryd.prog 49 #[.int .u64 17592186044415998976, .pointer (some ⟨B, 0, none⟩)] w fun e w' => e = .returned (.int .u64 39999999999999997) ∧ w = w' := by
  have hb : bits .and .i64 8 63 = 8 := by kernel_rfl
  go_enter Tryd.func49, Tryd.ntmps49
  go_wp2_with (go_at_call 67; (with_reducible refine (mulmin2 _).mono ?_); rintro e w' ⟨rfl, rfl⟩)
  go_ret
  exact ⟨by kernel_rfl, rfl⟩
theorem uscale_max2 (B : Nat) (w : World) (h0 : w.cell? ⟨B, 0, none⟩ = some (.int .u64 10737418240000000000)) (h2 : w.cell? ⟨B, 2, none⟩ = some (.int .i64 8)) : Calls Tryd.prog 49 #[.int .u64 17592186044416001024, .pointer (some ⟨B, 0, none⟩)] w fun e w' => e = .returned (.int .u64 40000000000000003) ∧ w = w' := by
  have hb : bits .and .i64 8 63 = 8 := by kernel_rfl
  go_enter Tryd.func49, Tryd.ntmps49
  go_wp2_with (go_at_call 67; (with_reducible refine (mulmax2 _).mono ?_); rintro e w' ⟨rfl, rfl⟩)
  go_ret
  exact ⟨by kernel_rfl, rfl⟩
end Go.Proofs.YtndkmcpjlakigaaDoor
