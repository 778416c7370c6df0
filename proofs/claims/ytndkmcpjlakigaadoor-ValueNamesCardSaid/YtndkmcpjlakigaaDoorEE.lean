/-
  The other float formatted.
-/
import Derived.Test.YtndkmcpjlakigaaDoorE
namespace Go.Proofs.YtndkmcpjlakigaaDoor
open Go.ChangeShapes Go.WideShapes Go.ChangeAt Go.RowKit Go.Sort
set_option linter.unusedVariables false
attribute [local go_sem] bits25

set_option maxRecDepth 100000 in
set_option maxHeartbeats 4000000 in
theorem ftoa_e (D : Nat) (w : World) (hD : w.heap[D]? = some (.cells (Array.replicate 24 (.int .u8 0)) 5 (0, 0))) (htab : Lib.TabIs Tryd.prog w "internal/strconv.uint64pow10" .u64 Lib.pow10Tab) (h0 : w.cell? ⟨4, 716, none⟩ = some (.int .u64 10737418240000000000)) (h1 : w.cell? ⟨4, 717, none⟩ = some (.int .u64 0)) :
    Calls Tryd.prog 17 #[.slice (some ⟨D, 0, none⟩) 0 24, .float .f64 4696837146684686336, .int .u8 103, .int .i64 (-1)] w fun e w' => e = .returned (.slice (some ⟨D, 0, none⟩) 5 24) ∧ w'.cell? ⟨D, 0, none⟩ = some (.int .u8 49) ∧ w'.cell? ⟨D, 1, none⟩ = some (.int .u8 101) ∧ w'.cell? ⟨D, 2, none⟩ = some (.int .u8 43) ∧ w'.cell? ⟨D, 3, none⟩ = some (.int .u8 48) ∧ w'.cell? ⟨D, 4, none⟩ = some (.int .u8 54) ∧ Below D w w' := by
  have hlt := (Array.getElem?_eq_some_iff.1 hD).1
  have HD := Lib.hid hD
  have HT := Lib.hid htab
  have H0 := Lib.hid h0
  have H1 := Lib.hid h1
  have HL : Hid (∀ W, Calls Tryd.prog 29 #[.int .u64 8589934592000000] W fun e w' => e = .returned (.int .i64 53) ∧ W = w') := Lib.hid (fun W => len64 _ _ (by simp) W)
  clear hD htab h0 h1
  have b1 : bits .and .i64 1042 2047 = 1042 := by kernel_rfl
  have b2 : bits .and .u64 4696837146684686336 4503599627370495 = 4086334964629504 := by kernel_rfl
  have b3 : bits .or .u64 4086334964629504 4503599627370496 = 8589934592000000 := by kernel_rfl
  go_enter Tryd.func17, Tryd.ntmps17
  go_wp2_with (first
    | (go_at_call 29; (with_reducible refine (HL.out _).mono ?_); rintro e w1 ⟨rfl, rfl⟩)
    | fail)
  go_quiet (fail)
  go_wp2_with (first
    | (go_at_call 29; (with_reducible refine (HL.out _).mono ?_); rintro e w1 ⟨rfl, rfl⟩)
    | fail)
  have f1 : Below w.heap.size w (w.drewN nq) := below_drewN (Below.refl _ _) nq
  have hVb : Below w.heap.size w ((w.drewN nq).alloc (.cells (Array.replicate 32 (.int .u8 0)) 58)) := f1.alloc (by simp) _
  have hVB : ((w.drewN nq).alloc (.cells (Array.replicate 32 (.int .u8 0)) 58)).heap[w.heap.size]? = some (.cells (Array.replicate 32 (.int .u8 0)) 58 (0, 0)) := by
    show ((w.drewN nq).heap.push _)[(w.drewN nq).heap.size]? = _
    simp
  change Calls Tryd.prog 38 _ ((w.drewN nq).alloc (.cells (Array.replicate 32 (.int .u8 0)) 58)) _
  generalize hV : (w.drewN nq).alloc (.cells (Array.replicate 32 (.int .u8 0)) 58) = V at *
  clear hV
  have c0 : V.cell? ⟨4, 716, none⟩ = some (.int .u64 10737418240000000000) := by rw [hVb.cell (World.block_lt_of_cell? w _ H0.out)]; exact H0.out
  have c1 : V.cell? ⟨4, 717, none⟩ = some (.int .u64 0) := by rw [hVb.cell (World.block_lt_of_cell? w _ H1.out)]; exact H1.out
  refine (short2 V c0 c1).mono ?_
  rintro e w1 ⟨rfl, hb1⟩
  have hb := hVb.trans (hb1.mono hVb.size)
  have hW1 : w1.heap[w.heap.size]? = some (.cells (Array.replicate 32 (.int .u8 0)) 58 (0, 0)) := (hb1.block _ (Array.getElem?_eq_some_iff.1 hVB).1).trans hVB
  have TS : ∀ W, Below (w.heap.size + 1) w1 W → Lib.TabIs Tryd.prog W "internal/strconv.uint64pow10" .u64 Lib.pow10Tab := fun W hW => Go.Joins.tab_stays (g := 2) (by kernel_rfl) HT.out (hb.trans (hW.mono (Nat.le_succ _))) (Nat.le_refl _)
  dsimp only
  go_wp2_with fail
  have HDr : Below (w.heap.size + 1) w1 w1.drew := (Below.refl _ _).drew
  have H32 : Hid (∀ W, Below (w.heap.size + 1) w1 W → Calls Tryd.prog 32 #[.int .u64 1000000000000000] W fun e w' => e = .returned (.int .i64 16) ∧ w' = W) := Lib.hid (fun W hW => num_any W (TS W hW))
  have H31 : Hid (∀ W, Below (w.heap.size + 1) w1 W → Calls Tryd.prog 31 #[.slice (some ⟨w.heap.size, 0, none⟩) 32 32, .int .u64 1000000000000000, .int .i64 (-9), .int .i64 16] W fun e w' => e = .returned (.tuple #[.int .i64 7, .int .i64 1]) ∧ w'.cell? ⟨w.heap.size, 0, none⟩ = some (.int .u8 49) ∧ Below w.heap.size W w') := Lib.hid (fun W hW => digits_any 58 w.heap.size w.heap.size (-9) 7 (Or.inr ⟨rfl, rfl⟩) W (Nat.le_refl _) ((hW.block _ (Nat.lt_succ_self _)).trans hW1))
  clear hW1 TS
  go_region_with (first
    | (go_at_call 32; (with_reducible refine (H32.out _ HDr).mono ?_); rintro e wA ⟨rfl, rfl⟩)
    | (go_at_call 31; (with_reducible refine (H31.out _ HDr).mono ?_); rintro e wA ⟨rfl, hA⟩))
  obtain ⟨hA0, hAb⟩ := hA
  have hwA : Below w.heap.size w wA := (hb.drew).trans hAb
  have hD2 : wA.heap[D]? = some (.cells (Array.replicate 24 (.int .u8 0)) 5 (0, 0)) := (hwA.block D hlt).trans HD.out
  have H28 := Lib.hid (efg_e w.heap.size D D wA (Nat.ne_of_gt hlt) (Nat.le_refl _) hA0 hD2)
  have hbD : Below D w wA := hwA.mono (Nat.le_of_lt hlt)
  clear H31 H32 HDr HL hA0 hD2 hwA hAb
  go_wp2_with (go_at_call 28; (with_reducible refine H28.out.mono ?_); rintro e w2 ⟨rfl, r0, q1, q2, q3, q4, hb2⟩)
  go_ret
  exact ⟨rfl, r0, q1, q2, q3, q4, hbD.trans hb2⟩
end Go.Proofs.YtndkmcpjlakigaaDoor
