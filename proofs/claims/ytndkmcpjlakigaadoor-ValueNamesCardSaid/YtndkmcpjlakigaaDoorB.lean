/-
  Two floats scaled: their shortest digits.
-/
import Derived.Test.YtndkmcpjlakigaaDoorA
namespace Go.Proofs.YtndkmcpjlakigaaDoor
open Go.ChangeShapes Go.WideShapes Go.ChangeAt Go.RowKit
set_option linter.unusedVariables false

set_option maxRecDepth 100000 in
theorem pre1 (w : World) (h0 : w.cell? ⟨4, 718, none⟩ = some (.int .u64 13421772800000000000)) (h1 : w.cell? ⟨4, 719, none⟩ = some (.int .u64 0)) : Calls Tryd.prog 47 #[.pointer (some ⟨w.heap.size, 0, none⟩), .int .i64 (-47), .int .i64 11, .int .i64 36] (w.alloc (.cells #[.int .u64 0, .int .u64 0, .int .i64 0] 81)) fun e w' => e = .returned (.tuple #[]) ∧ w' = w.alloc (.cells #[.int .u64 13421772800000000000, .int .u64 0, .int .i64 8] 81) := by
  have hlt := World.block_lt_of_cell? w _ h0
  simp only at hlt
  go_enter Tryd.func47, Tryd.ntmps47
  go_wp2
  go_end0
  exact ⟨rfl, rfl⟩
set_option maxRecDepth 100000 in
set_option maxHeartbeats 4000000 in
theorem short1 (w : World) (h0 : w.cell? ⟨4, 718, none⟩ = some (.int .u64 13421772800000000000)) (h1 : w.cell? ⟨4, 719, none⟩ = some (.int .u64 0)) : Calls Tryd.prog 38 #[.int .u64 14073748835532800000, .int .i64 (-47)] w fun e w' => e = .returned (.tuple #[.int .u64 1000000000000000, .int .i64 (-10)]) ∧ Below w.heap.size w w' := by
  have hodd : bits .and .i64 6871947673600000 1 = 0 := by kernel_rfl
  have HP := Lib.hid (pre1 w h0 h1)
  have HL : Hid (∀ W, Calls Tryd.prog 33 #[.int .i64 (-36)] W fun e w' => e = .returned (.int .i64 (-11)) ∧ W = w') := Lib.hid (fun W => log10 _ _ (by simp) W)
  have H2 : Hid (∀ W, Calls Tryd.prog 48 #[.int .i64 11] W fun e w' => e = .returned (.int .i64 36) ∧ W = w') := Lib.hid (fun W => log2 _ _ (by simp) W)
  have U : ∀ W : World, Hid (∀ B, W = w.alloc (.cells #[.int .u64 13421772800000000000, .int .u64 0, .int .i64 8] 81) → B = w.heap.size → Calls Tryd.prog 49 #[.int .u64 14073748835532798976, .pointer (some ⟨B, 0, none⟩)] W fun e w' => e = .returned (.int .u64 39999999999999997) ∧ W = w') := fun W => Lib.hid (fun B hW hB => uscale_min1 B W (by subst hW hB; simp [go_sem]) (by subst hW hB; simp [go_sem]))
  have V : ∀ W : World, Hid (∀ B, W = w.alloc (.cells #[.int .u64 13421772800000000000, .int .u64 0, .int .i64 8] 81) → B = w.heap.size → Calls Tryd.prog 49 #[.int .u64 14073748835532801024, .pointer (some ⟨B, 0, none⟩)] W fun e w' => e = .returned (.int .u64 40000000000000003) ∧ W = w') := fun W => Lib.hid (fun B hW hB => uscale_max1 B W (by subst hW hB; simp [go_sem]) (by subst hW hB; simp [go_sem]))
  clear h0 h1
  go_enter Tryd.func38, Tryd.ntmps38
  go_wp2_with (first
    | (go_at_call 33; (with_reducible refine (HL.out _).mono ?_); rintro e w1 ⟨rfl, rfl⟩)
    | (go_at_call 48; (with_reducible refine (H2.out _).mono ?_); rintro e w1 ⟨rfl, rfl⟩)
    | (go_at_call 47; (with_reducible refine HP.out.mono ?_); rintro e w1 ⟨rfl, rfl⟩)
    | (go_at_call 49; (with_reducible refine ((U _).out _ rfl rfl).mono ?_); rintro e w1 ⟨rfl, rfl⟩)
    | (go_at_call 49; (with_reducible refine ((V _).out _ rfl rfl).mono ?_); rintro e w1 ⟨rfl, rfl⟩)
    | (go_at_call 50; (with_reducible refine (nudge_low _).mono ?_); rintro e w1 ⟨rfl, rfl⟩)
    | (go_at_call 50; (with_reducible refine (nudge_high _).mono ?_); rintro e w1 ⟨rfl, rfl⟩)
    | (go_at_call 51; (with_reducible refine (ceil_low _).mono ?_); rintro e w1 ⟨rfl, rfl⟩)
    | (go_at_call 52; (with_reducible refine (floor_high _).mono ?_); rintro e w1 ⟨rfl, rfl⟩))
  go_ret2
  exact ⟨by kernel_rfl, (Below.refl _ w).alloc (Nat.le_refl _) _⟩
set_option maxRecDepth 100000 in
theorem pre2 (w : World) (h0 : w.cell? ⟨4, 716, none⟩ = some (.int .u64 10737418240000000000)) (h1 : w.cell? ⟨4, 717, none⟩ = some (.int .u64 0)) : Calls Tryd.prog 47 #[.pointer (some ⟨w.heap.size, 0, none⟩), .int .i64 (-44), .int .i64 10, .int .i64 33] (w.alloc (.cells #[.int .u64 0, .int .u64 0, .int .i64 0] 81)) fun e w' => e = .returned (.tuple #[]) ∧ w' = w.alloc (.cells #[.int .u64 10737418240000000000, .int .u64 0, .int .i64 8] 81) := by
  have hlt := World.block_lt_of_cell? w _ h0
  simp only at hlt
  go_enter Tryd.func47, Tryd.ntmps47
  go_wp2
  go_end0
  exact ⟨rfl, rfl⟩
set_option maxRecDepth 100000 in
set_option maxHeartbeats 4000000 in
theorem short2 (w : World) (h0 : w.cell? ⟨4, 716, none⟩ = some (.int .u64 10737418240000000000)) (h1 : w.cell? ⟨4, 717, none⟩ = some (.int .u64 0)) : Calls Tryd.prog 38 #[.int .u64 17592186044416000000, .int .i64 (-44)] w fun e w' => e = .returned (.tuple #[.int .u64 1000000000000000, .int .i64 (-9)]) ∧ Below w.heap.size w w' := by
  have hodd : bits .and .i64 8589934592000000 1 = 0 := by kernel_rfl
  have HP := Lib.hid (pre2 w h0 h1)
  have HL : Hid (∀ W, Calls Tryd.prog 33 #[.int .i64 (-33)] W fun e w' => e = .returned (.int .i64 (-10)) ∧ W = w') := Lib.hid (fun W => log10 _ _ (by simp) W)
  have H2 : Hid (∀ W, Calls Tryd.prog 48 #[.int .i64 10] W fun e w' => e = .returned (.int .i64 33) ∧ W = w') := Lib.hid (fun W => log2 _ _ (by simp) W)
  have U : ∀ W : World, Hid (∀ B, W = w.alloc (.cells #[.int .u64 10737418240000000000, .int .u64 0, .int .i64 8] 81) → B = w.heap.size → Calls Tryd.prog 49 #[.int .u64 17592186044415998976, .pointer (some ⟨B, 0, none⟩)] W fun e w' => e = .returned (.int .u64 39999999999999997) ∧ W = w') := fun W => Lib.hid (fun B hW hB => uscale_min2 B W (by subst hW hB; simp [go_sem]) (by subst hW hB; simp [go_sem]))
  have V : ∀ W : World, Hid (∀ B, W = w.alloc (.cells #[.int .u64 10737418240000000000, .int .u64 0, .int .i64 8] 81) → B = w.heap.size → Calls Tryd.prog 49 #[.int .u64 17592186044416001024, .pointer (some ⟨B, 0, none⟩)] W fun e w' => e = .returned (.int .u64 40000000000000003) ∧ W = w') := fun W => Lib.hid (fun B hW hB => uscale_max2 B W (by subst hW hB; simp [go_sem]) (by subst hW hB; simp [go_sem]))
  clear h0 h1
  go_enter Tryd.func38, Tryd.ntmps38
  go_wp2_with (first
    | (go_at_call 33; (with_reducible refine (HL.out _).mono ?_); rintro e w1 ⟨rfl, rfl⟩)
    | (go_at_call 48; (with_reducible refine (H2.out _).mono ?_); rintro e w1 ⟨rfl, rfl⟩)
    | (go_at_call 47; (with_reducible refine HP.out.mono ?_); rintro e w1 ⟨rfl, rfl⟩)
    | (go_at_call 49; (with_reducible refine ((U _).out _ rfl rfl).mono ?_); rintro e w1 ⟨rfl, rfl⟩)
    | (go_at_call 49; (with_reducible refine ((V _).out _ rfl rfl).mono ?_); rintro e w1 ⟨rfl, rfl⟩)
    | (go_at_call 50; (with_reducible refine (nudge_low _).mono ?_); rintro e w1 ⟨rfl, rfl⟩)
    | (go_at_call 50; (with_reducible refine (nudge_high _).mono ?_); rintro e w1 ⟨rfl, rfl⟩)
    | (go_at_call 51; (with_reducible refine (ceil_low _).mono ?_); rintro e w1 ⟨rfl, rfl⟩)
    | (go_at_call 52; (with_reducible refine (floor_high _).mono ?_); rintro e w1 ⟨rfl, rfl⟩))
  go_ret2
  exact ⟨by kernel_rfl, (Below.refl _ w).alloc (Nat.le_refl _) _⟩
end Go.Proofs.YtndkmcpjlakigaaDoor
