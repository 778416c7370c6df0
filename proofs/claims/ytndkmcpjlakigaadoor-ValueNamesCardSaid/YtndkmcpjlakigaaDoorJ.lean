/-
  Room behind a value.
-/
import Derived.Test.YtndkmcpjlakigaaDoorI
namespace Go.Proofs.YtndkmcpjlakigaaDoor
open Go.ChangeShapes Go.WideShapes Go.ChangeAt Go.RowKit Go.Sort
set_option linter.unusedVariables false
attribute [local go_sem] run_store_float

theorem fit_box (k : Int) (t : ByteArray) (s : Value) (h : ∀ W, Calls Tryd.prog 11 #[vV k t s] W fun e w' => e = .returned (.bool true) ∧ Below W.heap.size W w') (w : World) :
    Calls Tryd.prog 11 #[vV k t s] (w.alloc (.cells #[.int .u8 k, .int .i64 0, .float .f64 0, .float .f64 0, .string t, s] 25)) fun e w' => e = .returned (.bool true) ∧ w'.cell? ⟨w.heap.size, 0, none⟩ = some (.int .u8 k) ∧ w'.cell? ⟨w.heap.size, 5, none⟩ = some s ∧ Below w.heap.size w w' := by
  refine (h _).mono ?_
  rintro e w' ⟨rfl, hb⟩
  refine ⟨rfl, ?_, ?_, ((Below.refl _ w).alloc (Nat.le_refl _) _).trans (hb.mono (by simp))⟩
  · rw [hb.cell (by simp)]; exact World.cell?_alloc_new w _ 25 0
  · rw [hb.cell (by simp)]; exact World.cell?_alloc_new w _ 25 5

set_option maxRecDepth 100000 in
set_option maxHeartbeats 4000000 in
theorem room_none (V : Value) (d : Int) (hV : V = vV 0 ByteArray.empty (.slice none 0 0)) (w : World) : Calls Tryd.prog 6 #[V, .int .i64 0, .int .i64 d] w fun e w' => e = .returned (.tuple #[.int .i64 0, .bool false]) ∧ Below w.heap.size w w' := by
  subst hV
  unfold vV
  go_enter Tryd.func6, Tryd.ntmps6
  go_wp2
  go_ret2
  exact ⟨rfl, (Below.refl _ w).alloc (Nat.le_refl _) _⟩

set_option maxRecDepth 100000 in
set_option maxHeartbeats 4000000 in
theorem room_deep (a : Option Addr) (n c : Nat) (r : Nat) (hr : 1 ≤ r) (hr2 : r ≤ 1024) (w : World) : Calls Tryd.prog 6 #[vV 7 ByteArray.empty (.slice a n c), .int .i64 (r : Int), .int .i64 0] w fun e w' => e = .returned (.tuple #[.int .i64 0, .bool false]) ∧ Below w.heap.size w w' := by
  have h1 : ¬ (r : Int) < 1 := by omega
  have HF := Lib.hid (fit_box 7 ByteArray.empty (.slice a n c) (fun W => fit_7 a n c W) w)
  unfold vV at *
  go_enter Tryd.func6, Tryd.ntmps6
  go_wp2_with (go_at_call 11; (with_reducible refine HF.out.mono ?_); rintro e w2 ⟨rfl, q0, q5, hb2⟩)
  go_ret2
  exact ⟨rfl, hb2⟩

set_option maxRecDepth 100000 in
set_option maxHeartbeats 4000000 in
theorem room_leaf (k : Int) (t : ByteArray) (hk : k = 0 ∧ t = ByteArray.empty ∨ k = 5 ∧ t.size ≤ 4096) (r : Nat) (d : Int) (hd : -100 ≤ d ∧ d ≤ 100) (hr : 1 ≤ r) (hr2 : r ≤ 1024) (w : World) : Calls Tryd.prog 6 #[vV k t (.slice none 0 0), .int .i64 (r : Int), .int .i64 d] w fun e w' => e = .returned (.tuple #[.int .i64 ((r : Int) - 1), .bool true]) ∧ Below w.heap.size w w' := by
  have h1 : ¬ (r : Int) < 1 := by omega
  rcases hk with ⟨rfl, rfl⟩ | ⟨rfl, ht⟩
  · have HF := Lib.hid (fit_box 0 ByteArray.empty (.slice none 0 0) (fun W => fit_0 W) w)
    unfold vV at *
    go_enter Tryd.func6, Tryd.ntmps6
    go_wp2_with (go_at_call 11; (with_reducible refine HF.out.mono ?_); rintro e w2 ⟨rfl, q0, q5, hb2⟩)
    refine wp_loop_rounds 1 ?_
    simp only [rounds_succ]
    go_wp2
    go_ret2
    exact ⟨rfl, hb2⟩
  · have HF := Lib.hid (fit_box 5 t (.slice none 0 0) (fun W => fit_5 t ht W) w)
    unfold vV at *
    go_enter Tryd.func6, Tryd.ntmps6
    go_wp2_with (go_at_call 11; (with_reducible refine HF.out.mono ?_); rintro e w2 ⟨rfl, q0, q5, hb2⟩)
    refine wp_loop_rounds 1 ?_
    simp only [rounds_succ]
    go_wp2
    go_ret2
    exact ⟨rfl, hb2⟩

set_option maxRecDepth 100000 in
set_option maxHeartbeats 4000000 in
theorem room_seven (r d : Nat) (hd : 1 ≤ d) (hd2 : d ≤ 100) (hr : 1 ≤ r) (hr2 : r ≤ 1024) (w : World) : Calls Tryd.prog 6 #[vV 7 ByteArray.empty (.slice none 0 0), .int .i64 (r : Int), .int .i64 (d : Int)] w fun e w' => e = .returned (.tuple #[.int .i64 ((r : Int) - 1), .bool true]) ∧ Below w.heap.size w w' := by
  have h1 : ¬ (r : Int) < 1 := by omega
  have h2 : ¬ (d : Int) < 1 := by omega
  have HF := Lib.hid (fit_box 7 ByteArray.empty (.slice none 0 0) (fun W => fit_7 none 0 0 W) w)
  unfold vV at *
  go_enter Tryd.func6, Tryd.ntmps6
  go_wp2_with (go_at_call 11; (with_reducible refine HF.out.mono ?_); rintro e w2 ⟨rfl, q0, q5, hb2⟩)
  refine wp_loop_rounds 1 ?_
  simp only [rounds_succ]
  go_wp2
  go_ret2
  exact ⟨rfl, hb2⟩
end Go.Proofs.YtndkmcpjlakigaaDoor
