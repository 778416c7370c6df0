/-
  Make of four specs.
-/
import Derived.Test.YtkcicddbobpegaaDoorB
namespace Go.Proofs.YtkcicddbobpegaaDoor
open Go.ChangeShapes Go.WideShapes Go.ChangeAt Go.RowKit
set_option linter.unusedVariables false

theorem not0 (f : Int) (hf : f = 2 ∨ f = 1) : (bits BinOp.andNot IntKind.u8 0 f == 0) = true := by rcases hf with rfl | rfl <;> decide +kernel
def spC (k : Int) (p : Value) : Array Value := #[.int .u8 k, .bool false, .string ByteArray.empty, .int .i16 0, .int .i8 0, .float .f64 0, .float .f64 0, .bool false, .int .u32 0, .slice none 0 0, p]
theorem load_sp {W : World} {b : Nat} {k : Int} {p : Value} (h : W.heap[b]? = some (.cells (spC k p) 34 (0, 0))) : (loadVar 34 ⟨b, 0, none⟩).run Tryd.prog W = .ok (.agg #[.int .u8 k, .bool false, .string ByteArray.empty, .int .i16 0, .int .i8 0, .float .f64 0, .float .f64 0, .bool false, .int .u32 0, .slice none 0 0, p]) W :=
  run_loadVar_row W b 34 34 _ _ _ h Tryd.underlying34 rfl (by kernel_rfl)
/-- The box stands, and nothing older has turned. -/
structure Bx (w : World) (k : Int) (p : Value) (W : World) : Prop where
  box : W.heap[w.heap.size]? = some (.cells (spC k p) 34 (0, 0))
  below : Below w.heap.size w W
def Ld (w : World) (k : Int) (p : Value) (W : World) : Prop := W.cell? ⟨w.heap.size, 0, none⟩ = some (.int .u8 k) ∧ W.cell? ⟨w.heap.size, 1, none⟩ = some (.bool false) ∧ W.cell? ⟨w.heap.size, 2, none⟩ = some (.string ByteArray.empty) ∧ W.cell? ⟨w.heap.size, 3, none⟩ = some (.int .i16 0) ∧ W.cell? ⟨w.heap.size, 4, none⟩ = some (.int .i8 0) ∧ W.cell? ⟨w.heap.size, 5, none⟩ = some (.float .f64 0) ∧ W.cell? ⟨w.heap.size, 6, none⟩ = some (.float .f64 0) ∧ W.cell? ⟨w.heap.size, 7, none⟩ = some (.bool false) ∧ W.cell? ⟨w.heap.size, 8, none⟩ = some (.int .u32 0) ∧ W.cell? ⟨w.heap.size, 9, none⟩ = some (.slice none 0 0) ∧ W.cell? ⟨w.heap.size, 10, none⟩ = some (p)
theorem Bx.load {w W : World} {k : Int} {p : Value} (h : Bx w k p W) : Ld w k p W := by
  have hc : ∀ j, W.cell? ⟨w.heap.size, j, none⟩ = (spC k p)[j]? := fun j => cell_of_row W _ j _ _ _ h.1
  exact ⟨hc 0, hc 1, hc 2, hc 3, hc 4, hc 5, hc 6, hc 7, hc 8, hc 9, hc 10⟩
theorem Bx.more {w W W' : World} {k : Int} {p : Value} (h : Bx w k p W) (hb : Below W.heap.size W W') : Bx w k p W' :=
  ⟨(hb.block _ (Array.getElem?_eq_some_iff.1 h.1).1).trans h.1, h.2.trans (hb.mono h.2.size)⟩
theorem Bx.new (w : World) (k : Int) (p : Value) : Bx w k p (w.alloc (.cells (spC k p) 34)).drew := ⟨by show (w.heap.push _)[w.heap.size]? = _; simp, ((Below.refl _ w).alloc (Nat.le_refl _) _).drew⟩
theorem Bx.kd {w W : World} {k : Int} {p : Value} (h : Bx w k p W) (hK : Kd w) : Kd W := hK.below h.2

set_option maxRecDepth 100000 in
set_option maxHeartbeats 4000000 in
theorem fit_any (k : Int) (hk : k = 1 ∨ k = 14) (p : Value) (w : World) (hK : Kd w) : Calls Tryd.prog 13 #[spV k p] w fun e w' => e = .returned (.bool true) ∧ Below w.heap.size w w' := by
  have H22 := Lib.hid (fun W (h : Bx w k p W ∧ Ld w k p W) => (set_zero k p W).mono (fun e w' (h' : e = .returned (.int .u8 0) ∧ Below W.heap.size W w') => (⟨h'.1, h.1.more h'.2, (h.1.more h'.2).load⟩ : e = .returned (.int .u8 0) ∧ Bx w k p w' ∧ Ld w k p w')))
  have H23 := Lib.hid (fun W (h : Bx w k p W ∧ Ld w k p W) => (of_any k hk p W (h.1.kd hK)).mono (fun e w' (h' : ∃ f, e = .returned (.int .u8 f) ∧ (f = 2 ∨ f = 1) ∧ Below W.heap.size W w') => (h'.elim fun f h' => ⟨f, h'.1, h'.2.1, h.1.more h'.2.2, (h.1.more h'.2.2).load⟩ : ∃ f, e = .returned (.int .u8 f) ∧ (f = 2 ∨ f = 1) ∧ Bx w k p w' ∧ Ld w k p w')))
  have hN := Bx.new w k p
  have hL := hN.load
  unfold spC at hN hL
  unfold Ld at hL H22 H23
  obtain ⟨l0, l1, l2, l3, l4, l5, l6, l7, l8, l9, l10⟩ := hL
  unfold spV at H22 H23 ⊢
  have h1 := hK 1 _ rfl
  have h14 := hK 14 _ rfl
  have hlt := hK.lt
  go_enter Tryd.func13, Tryd.ntmps13
  rcases hk with rfl | rfl
  · go_wp2
    go_region_held3 (fun W => Bx w 1 p W ∧ W.cell? ⟨w.heap.size, 0, none⟩ = some (.int .u8 1) ∧ W.cell? ⟨w.heap.size, 1, none⟩ = some (.bool false) ∧ W.cell? ⟨w.heap.size, 2, none⟩ = some (.string ByteArray.empty) ∧ W.cell? ⟨w.heap.size, 3, none⟩ = some (.int .i16 0) ∧ W.cell? ⟨w.heap.size, 4, none⟩ = some (.int .i8 0) ∧ W.cell? ⟨w.heap.size, 5, none⟩ = some (.float .f64 0) ∧ W.cell? ⟨w.heap.size, 6, none⟩ = some (.float .f64 0) ∧ W.cell? ⟨w.heap.size, 7, none⟩ = some (.bool false) ∧ W.cell? ⟨w.heap.size, 8, none⟩ = some (.int .u32 0) ∧ W.cell? ⟨w.heap.size, 9, none⟩ = some (.slice none 0 0) ∧ W.cell? ⟨w.heap.size, 10, none⟩ = some (p))
      (first | ((refine ⟨?_, ?_, ?_, ?_, ?_, ?_, ?_, ?_, ?_, ?_, ?_, ?_⟩) <;> assumption) | (go_split_ands; (refine ⟨?_, ?_, ?_, ?_, ?_, ?_, ?_, ?_, ?_, ?_, ?_, ?_⟩) <;> assumption) | go_keep)
      (first | (go_at_call 22; (with_reducible refine (H22.out _ ?_).mono ?_); (· ((try go_split_ands); (refine ⟨?_, ?_, ?_, ?_, ?_, ?_, ?_, ?_, ?_, ?_, ?_, ?_⟩) <;> assumption)); rintro e w1 ⟨rfl, k0, k1⟩) | (go_at_call 23; (with_reducible refine (H23.out _ ?_).mono ?_); (· ((try go_split_ands); (refine ⟨?_, ?_, ?_, ?_, ?_, ?_, ?_, ?_, ?_, ?_, ?_, ?_⟩) <;> assumption)); rintro e w1 ⟨f, rfl, hf, k0, k1⟩))
    rw [not0 f hf]
    go_wp2
    go_ret
    exact ⟨rfl, k0.below⟩
  · go_wp2
    go_region_held3 (fun W => Bx w 14 p W ∧ W.cell? ⟨w.heap.size, 0, none⟩ = some (.int .u8 14) ∧ W.cell? ⟨w.heap.size, 1, none⟩ = some (.bool false) ∧ W.cell? ⟨w.heap.size, 2, none⟩ = some (.string ByteArray.empty) ∧ W.cell? ⟨w.heap.size, 3, none⟩ = some (.int .i16 0) ∧ W.cell? ⟨w.heap.size, 4, none⟩ = some (.int .i8 0) ∧ W.cell? ⟨w.heap.size, 5, none⟩ = some (.float .f64 0) ∧ W.cell? ⟨w.heap.size, 6, none⟩ = some (.float .f64 0) ∧ W.cell? ⟨w.heap.size, 7, none⟩ = some (.bool false) ∧ W.cell? ⟨w.heap.size, 8, none⟩ = some (.int .u32 0) ∧ W.cell? ⟨w.heap.size, 9, none⟩ = some (.slice none 0 0) ∧ W.cell? ⟨w.heap.size, 10, none⟩ = some (p))
      (first | ((refine ⟨?_, ?_, ?_, ?_, ?_, ?_, ?_, ?_, ?_, ?_, ?_, ?_⟩) <;> assumption) | (go_split_ands; (refine ⟨?_, ?_, ?_, ?_, ?_, ?_, ?_, ?_, ?_, ?_, ?_, ?_⟩) <;> assumption) | go_keep)
      (first | (go_at_call 22; (with_reducible refine (H22.out _ ?_).mono ?_); (· ((try go_split_ands); (refine ⟨?_, ?_, ?_, ?_, ?_, ?_, ?_, ?_, ?_, ?_, ?_, ?_⟩) <;> assumption)); rintro e w1 ⟨rfl, k0, k1⟩) | (go_at_call 23; (with_reducible refine (H23.out _ ?_).mono ?_); (· ((try go_split_ands); (refine ⟨?_, ?_, ?_, ?_, ?_, ?_, ?_, ?_, ?_, ?_, ?_, ?_⟩) <;> assumption)); rintro e w1 ⟨f, rfl, hf, k0, k1⟩))
    rw [not0 f hf]
    go_wp2
    go_ret
    exact ⟨rfl, k0.below⟩

set_option maxRecDepth 100000 in
theorem parts_any (k : Int) (m : Int) (hk : (k = 1 ∧ m = 0) ∨ (k = 14 ∧ m = 1) ∨ (k = 16 ∧ m = 64)) (w : World) (hK : Kd w) : Calls Tryd.prog 5 #[.int .u8 k] w fun e w' => e = .returned (.tuple #[.int .i64 0, .int .i64 m]) ∧ w' = w.drew := by
  have h1 := hK 1 _ rfl
  have h14 := hK 14 _ rfl
  have h16 := hK 16 _ rfl
  rcases hk with ⟨rfl, rfl⟩ | ⟨rfl, rfl⟩ | ⟨rfl, rfl⟩ <;> (go_enter Tryd.func5, Tryd.ntmps5; go_wp2; go_region; go_wp2; go_ret2; exact ⟨rfl, rfl⟩)

set_option maxRecDepth 100000 in
set_option maxHeartbeats 4000000 in
theorem check_none (k : Int) (hk : k = 0 ∨ k = 27) (w : World) : Calls Tryd.prog 6 #[spV k (.slice none 0 0)] w fun e w' => e = .returned (.int .i64 40) ∧ Below w.heap.size w w' := by
  unfold spV
  rcases hk with rfl | rfl <;> (go_enter Tryd.func6, Tryd.ntmps6; go_wp2; go_ret; exact ⟨rfl, ((Below.refl _ w).alloc (Nat.le_refl _) _)⟩)
set_option maxRecDepth 100000 in
set_option maxHeartbeats 4000000 in
theorem bounds_any (k : Int) (p : Value) (w : World) : Calls Tryd.prog 12 #[spV k p] w fun e w' => e = .returned (.bool true) ∧ Below w.heap.size w w' := by
  unfold spV
  go_enter Tryd.func12, Tryd.ntmps12
  go_wp2
  refine wp_loop_rounds 1 ?_
  simp only [rounds_succ]
  go_wp2
  go_ret
  exact ⟨rfl, ((Below.refl _ w).alloc (Nat.le_refl _) _)⟩

theorem kind_ok (k : Int) (hk : k = 1 ∨ k = 14) (w : World) : Calls Tryd.prog 11 #[.int .u8 k] w fun e w' => e = .returned (.bool true) ∧ w = w' := by
  rcases hk with rfl | rfl <;> (go_enter Tryd.func11, Tryd.ntmps11; go_wp2; go_ret; exact ⟨rfl, rfl⟩)

set_option maxRecDepth 100000 in
set_option maxHeartbeats 4000000 in
theorem check_any (k : Int) (m n : Int) (hk : (k = 1 ∧ m = 0 ∧ n = 41) ∨ (k = 14 ∧ m = 1 ∧ n = 0)) (a : Addr) (c : Nat) (w : World) (hK : Kd w) : Calls Tryd.prog 6 #[spV k (.slice (some a) 1 c)] w fun e w' => e = .returned (.int .i64 n) ∧ Below w.heap.size w w' := by
  have hk' : k = 1 ∨ k = 14 := by rcases hk with ⟨h, _⟩ | ⟨h, _⟩ <;> simp [h]
  generalize hp : Value.slice (some a) 1 c = p
  have hN : Bx w k p (w.alloc (.cells (spC k p) 34)) := ⟨by show (w.heap.push _)[w.heap.size]? = _; simp, (Below.refl _ w).alloc (Nat.le_refl _) _⟩
  have H12 := Lib.hid (fun W (h : Bx w k p W ∧ Ld w k p W) => (bounds_any k p W).mono (fun e w' (h' : e = .returned (.bool true) ∧ Below W.heap.size W w') => (⟨h'.1, h.1.more h'.2, (h.1.more h'.2).load⟩ : e = .returned (.bool true) ∧ Bx w k p w' ∧ Ld w k p w')))
  have H13 := Lib.hid (fun W (h : Bx w k p W ∧ Ld w k p W) => (fit_any k hk' p W (h.1.kd hK)).mono (fun e w' (h' : e = .returned (.bool true) ∧ Below W.heap.size W w') => (⟨h'.1, h.1.more h'.2, (h.1.more h'.2).load⟩ : e = .returned (.bool true) ∧ Bx w k p w' ∧ Ld w k p w')))
  have H5 := Lib.hid (fun W (h : Bx w k p W ∧ Ld w k p W) => (parts_any k m (by rcases hk with ⟨h, h', _⟩ | ⟨h, h', _⟩ <;> simp [h, h']) W (h.1.kd hK)).mono (fun e w' (h' : e = .returned (.tuple #[.int .i64 0, .int .i64 m]) ∧ w' = W.drew) => (⟨h'.1, h.1.more (by rw [h'.2]; exact (Below.refl _ W).drew), (h.1.more (by rw [h'.2]; exact (Below.refl _ W).drew)).load⟩ : e = .returned (.tuple #[.int .i64 0, .int .i64 m]) ∧ Bx w k p w' ∧ Ld w k p w')))
  have hL := hN.load
  have hNL := Lib.hid (And.intro hN hL)
  clear hN
  unfold spC at hNL
  unfold Ld at hL H12 H13 H5
  unfold spC at hL
  unfold spV at H12 H13 ⊢
  obtain ⟨l0, l1, l2, l3, l4, l5, l6, l7, l8, l9, l10⟩ := hL
  subst hp
  go_enter Tryd.func6, Tryd.ntmps6
  rcases hk with ⟨rfl, rfl, rfl⟩ | ⟨rfl, rfl, rfl⟩
  all_goals (go_wp2_with (first
    | (go_at_call 11; (with_reducible refine (kind_ok _ (by decide) _).mono ?_); rintro e w9 ⟨rfl, rfl⟩)
    | (go_at_call 12; (with_reducible refine (H12.out _ ?_).mono ?_); (· (first | exact hNL.out | ((refine ⟨?_, ?_, ?_, ?_, ?_, ?_, ?_, ?_, ?_, ?_, ?_, ?_⟩) <;> assumption))); rintro e w1 ⟨rfl, k0, c0, c1, c2, c3, c4, c5, c6, c7, c8, c9, c10⟩)
    | (go_at_call 13; (with_reducible refine (H13.out _ ?_).mono ?_); (· ((refine ⟨?_, ?_, ?_, ?_, ?_, ?_, ?_, ?_, ?_, ?_, ?_, ?_⟩) <;> assumption)); rintro e w2 ⟨rfl, j0, d0, d1, d2, d3, d4, d5, d6, d7, d8, d9, d10⟩)
    | (go_at_call 5; (with_reducible refine (H5.out _ ?_).mono ?_); (· ((refine ⟨?_, ?_, ?_, ?_, ?_, ?_, ?_, ?_, ?_, ?_, ?_, ?_⟩) <;> assumption)); rintro e w3 ⟨rfl, g0, f0, f1, f2, f3, f4, f5, f6, f7, f8, f9, f10⟩)))
  all_goals (go_ret; exact ⟨rfl, g0.below⟩)
end Go.Proofs.YtkcicddbobpegaaDoor
