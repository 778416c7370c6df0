/-
  FormatFloat of the other.
-/
import Derived.Test.YtndkmcpjlakigaaDoorEE
import Derived.Test.YtndkmcpjlakigaaDoorF
namespace Go.Proofs.YtndkmcpjlakigaaDoor
open Go.ChangeShapes Go.WideShapes Go.ChangeAt Go.RowKit Go.Sort
set_option linter.unusedVariables false

theorem conv_e (B : Nat) (w : World) (h : ∀ j (hj : j < 5), w.cell? ⟨B, j, none⟩ = some (.int .u8 (([49, 101, 43, 48, 54] : List UInt8)[j].toNat : Int))) : (convert 26 9 (.slice (some ⟨B, 0, none⟩) 5 24)).run Tryd.prog w = .ok (.string ⟨#[49, 101, 43, 48, 54]⟩) w :=
  run_convert_bytes_back w 26 9 5 ⟨B, 0, none⟩ 24 [49, 101, 43, 48, 54] Tryd.underlying26 Tryd.underlying5 Tryd.underlying9 (fun j hj => by
    have e : (⟨B, 0, none⟩ : Addr).add j = ⟨B, j, none⟩ := by simp [Addr.add]; omega
    rw [e]; exact h j hj)
attribute [local go_sem] run_ms

set_option maxRecDepth 100000 in
set_option maxHeartbeats 4000000 in
theorem ff_e (w : World) (htab : Lib.TabIs Tryd.prog w "internal/strconv.uint64pow10" .u64 Lib.pow10Tab) (h0 : w.cell? ⟨4, 716, none⟩ = some (.int .u64 10737418240000000000)) (h1 : w.cell? ⟨4, 717, none⟩ = some (.int .u64 0)) :
    Calls Tryd.prog 12 #[.float .f64 4696837146684686336, .int .u8 103, .int .i64 (-1), .int .i64 64] w fun e w' => e = .returned (.string ⟨#[49, 101, 43, 48, 54]⟩) ∧ Below w.heap.size w w' := by
  have hp : Below w.heap.size w (w.alloc (.cells (Array.replicate 24 (.int .u8 0)) 5)) := (Below.refl _ w).alloc (Nat.le_refl _) _
  have hD : (w.alloc (.cells (Array.replicate 24 (.int .u8 0)) 5)).heap[w.heap.size]? = some (.cells (Array.replicate 24 (.int .u8 0)) 5 (0, 0)) := by
    show (w.heap.push _)[w.heap.size]? = _
    simp
  have H17 := Lib.hid (ftoa_e w.heap.size (w.alloc (.cells (Array.replicate 24 (.int .u8 0)) 5)) hD (Go.Joins.tab_stays (g := 2) (by kernel_rfl) htab hp (Nat.le_refl _)) (by rw [hp.cell (World.block_lt_of_cell? w _ h0)]; exact h0) (by rw [hp.cell (World.block_lt_of_cell? w _ h1)]; exact h1))
  clear htab h0 h1 hD
  go_enter Tryd.func12, Tryd.ntmps12
  go_wp2_with (go_at_call 17; (with_reducible refine H17.out.mono ?_); rintro e w2 ⟨rfl, r0, r1, r2, r3, r4, hb2⟩; have hcv := conv_e w.heap.size w2 (fun j hj => by (have hj6 : j = 0 ∨ j = 1 ∨ j = 2 ∨ j = 3 ∨ j = 4 := by omega); (rcases hj6 with rfl | rfl | rfl | rfl | rfl <;> assumption)))
  go_ret
  exact ⟨rfl, hp.trans hb2⟩
end Go.Proofs.YtndkmcpjlakigaaDoor
