/-
  FormatFloat.
-/
import Derived.Test.YtndkmcpjlakigaaDoorE
namespace Go.Proofs.YtndkmcpjlakigaaDoor
open Go.ChangeShapes Go.WideShapes Go.ChangeAt Go.RowKit Go.Sort
set_option linter.unusedVariables false

set_option maxRecDepth 100000 in
theorem info5 : (Tryd.prog.info? 5).map (fun i => (i.zero, i.size, i.bytes)) = some (some (.int .u8 0), 1, 1) := by kernel_rfl
set_option maxRecDepth 100000 in
theorem mk_u8 (w : World) (l c : Nat) (hlc : l ≤ c) (hc : c ≤ 1000000) : (Instr.makeSlice 26 (.int .i64 (l : Int)) (.int .i64 (c : Int))).run Tryd.prog w = .ok (.slice (some ⟨w.heap.size, 0, none⟩) l c) (w.alloc (.cells (madeCells (Value.int .u8 0).cells (c * 1)) 5)) := by
  obtain ⟨i, hi, hz⟩ : ∃ i, Tryd.prog.info? 5 = some i ∧ (i.zero, i.size, i.bytes) = (some (Value.int .u8 0), 1, 1) := by
    have h := info5
    cases hx : Tryd.prog.info? 5 with
    | none => rw [hx] at h; cases h
    | some i => rw [hx] at h; exact ⟨i, rfl, by simpa using h⟩
  injection hz with h1 h2
  injection h2 with h2 h3
  have h := run_makeSlice (P := Tryd.prog) w 26 5 i (.int .u8 0) Tryd.underlying26 hi h1 .i64 .i64 l c (by omega) (by omega) (by rw [h2]; omega) (by rw [h3]; omega) (by omega)
  rw [h2] at h
  exact h
theorem run_ms (w : World) : (Instr.makeSlice 26 (.int .i64 0) (.int .i64 (max 3 24))).run Tryd.prog w = .ok (.slice (some ⟨w.heap.size, 0, none⟩) 0 24) (w.alloc (.cells (Array.replicate 24 (.int .u8 0)) 5)) := by
  have e2 : (max 3 24 : Int) = ((24 : Nat) : Int) := by decide
  have e1 : madeCells (Value.int .u8 0).cells (24 * 1) = Array.replicate 24 (.int .u8 0) := by kernel_rfl
  have h := mk_u8 w 0 24 (by omega) (by omega)
  rw [e1] at h
  rw [e2]
  exact h
theorem conv_f (B : Nat) (w : World) (h : ∀ j (hj : j < 6), w.cell? ⟨B, j, none⟩ = some (.int .u8 (([49, 48, 48, 48, 48, 48] : List UInt8)[j].toNat : Int))) : (convert 26 9 (.slice (some ⟨B, 0, none⟩) 6 24)).run Tryd.prog w = .ok (.string ⟨#[49, 48, 48, 48, 48, 48]⟩) w :=
  run_convert_bytes_back w 26 9 5 ⟨B, 0, none⟩ 24 [49, 48, 48, 48, 48, 48] Tryd.underlying26 Tryd.underlying5 Tryd.underlying9 (fun j hj => by
    have e : (⟨B, 0, none⟩ : Addr).add j = ⟨B, j, none⟩ := by simp [Addr.add]; omega
    rw [e]; exact h j hj)
attribute [local go_sem] run_ms

set_option maxRecDepth 100000 in
set_option maxHeartbeats 4000000 in
theorem ff_f (w : World) (htab : Lib.TabIs Tryd.prog w "internal/strconv.uint64pow10" .u64 Lib.pow10Tab) (h0 : w.cell? ⟨4, 718, none⟩ = some (.int .u64 13421772800000000000)) (h1 : w.cell? ⟨4, 719, none⟩ = some (.int .u64 0)) :
    Calls Tryd.prog 12 #[.float .f64 4681608360884174848, .int .u8 103, .int .i64 (-1), .int .i64 64] w fun e w' => e = .returned (.string ⟨#[49, 48, 48, 48, 48, 48]⟩) ∧ Below w.heap.size w w' := by
  have hp : Below w.heap.size w (w.alloc (.cells (Array.replicate 24 (.int .u8 0)) 5)) := (Below.refl _ w).alloc (Nat.le_refl _) _
  have hD : (w.alloc (.cells (Array.replicate 24 (.int .u8 0)) 5)).heap[w.heap.size]? = some (.cells (Array.replicate 24 (.int .u8 0)) 5 (0, 0)) := by
    show (w.heap.push _)[w.heap.size]? = _
    simp
  have H17 := Lib.hid (ftoa_f w.heap.size (w.alloc (.cells (Array.replicate 24 (.int .u8 0)) 5)) hD (Go.Joins.tab_stays (g := 2) (by kernel_rfl) htab hp (Nat.le_refl _)) (by rw [hp.cell (World.block_lt_of_cell? w _ h0)]; exact h0) (by rw [hp.cell (World.block_lt_of_cell? w _ h1)]; exact h1))
  clear htab h0 h1 hD
  go_enter Tryd.func12, Tryd.ntmps12
  go_wp2_with (go_at_call 17; (with_reducible refine H17.out.mono ?_); rintro e w2 ⟨rfl, r0, rr, hb2⟩; have hcv := conv_f w.heap.size w2 (fun j hj => by (rcases Nat.eq_zero_or_pos j with rfl | hj0); exact r0; (refine (rr j (by omega) (by omega)).trans ?_); (have hj6 : j = 1 ∨ j = 2 ∨ j = 3 ∨ j = 4 ∨ j = 5 := by omega); (rcases hj6 with rfl | rfl | rfl | rfl | rfl <;> rfl)))
  go_ret
  exact ⟨rfl, hp.trans hb2⟩
end Go.Proofs.YtndkmcpjlakigaaDoor
