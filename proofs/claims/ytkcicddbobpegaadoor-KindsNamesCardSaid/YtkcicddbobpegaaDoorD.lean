/-
  KindsNames returns true: the numbers of layer 4, and what Make tells of no kind and of parts that may not be.
  Conditions: none (a closed statement); the variable of the kinds' rows holds what its initialiser lays (the card ties it to the program's text).
-/
import Derived.Test.YtkcicddbobpegaaDoorC
namespace Go.Proofs.YtkcicddbobpegaaDoor
open Go.ChangeShapes Go.WideShapes Go.ChangeAt Go.RowKit
set_option linter.unusedVariables false

set_option maxRecDepth 100000 in
set_option maxHeartbeats 4000000 in
theorem make_none (k : Int) (hk : k = 0 ∨ k = 27) (w : World) : Calls Tryd.prog 4 #[spV k (.slice none 0 0), .slice none 0 0] w fun e w' => e = .returned (.tuple #[.nilIface, .int .i64 40]) ∧ Below w.heap.size w w' := by
  have H6 := Lib.hid (fun W => check_none k hk W)
  have hz : (w.alloc (.cells (spC k (.slice none 0 0)) 34)).heap.size = w.heap.size + 1 := by simp
  have HB := Lib.hid (((Below.refl _ w).alloc (Nat.le_refl _) (.cells (spC k (.slice none 0 0)) 34)))
  have HZ := Lib.hid hz
  clear hz
  unfold spC at HB HZ
  unfold spV at H6 ⊢
  go_enter Tryd.func4, Tryd.ntmps4
  go_wp2_with ((go_at_call 6; (with_reducible refine (H6.out _).mono ?_); rintro e w1 ⟨rfl, hb⟩))
  go_ret2
  exact ⟨rfl, HB.out.trans (hb.mono (by rw [HZ.out]; omega))⟩

set_option maxRecDepth 100000 in
set_option maxHeartbeats 4000000 in
theorem make_part (k m n : Int) (hk : (k = 1 ∧ m = 0 ∧ n = 41) ∨ (k = 14 ∧ m = 1 ∧ n = 0)) (a : Addr) (c : Nat) (w : World) (hK : Kd w) : Calls Tryd.prog 4 #[spV k (.slice (some a) 1 c), .slice none 0 0] w fun e w' => e = .returned (.tuple #[.nilIface, .int .i64 41]) ∧ Below w.heap.size w w' := by
  generalize hp : Value.slice (some a) 1 c = p
  have hN : Bx w k p (w.alloc (.cells (spC k p) 34)) := ⟨by show (w.heap.push _)[w.heap.size]? = _; simp, (Below.refl _ w).alloc (Nat.le_refl _) _⟩
  have H6 := Lib.hid (fun W (h : Bx w k p W ∧ Ld w k p W) => ((by rw [← hp]; exact check_any k m n hk a c W (h.1.kd hK)) : Calls Tryd.prog 6 #[spV k p] W fun e w' => e = .returned (.int .i64 n) ∧ Below W.heap.size W w').mono (fun e w' (h' : e = .returned (.int .i64 n) ∧ Below W.heap.size W w') => (⟨h'.1, h.1.more h'.2, (h.1.more h'.2).load⟩ : e = .returned (.int .i64 n) ∧ Bx w k p w' ∧ Ld w k p w')))
  have hL := hN.load
  have hNL := Lib.hid (And.intro hN hL)
  clear hN
  unfold spC at hNL
  unfold Ld at hL H6
  unfold spC at hL
  unfold spV at H6 ⊢
  obtain ⟨l0, l1, l2, l3, l4, l5, l6, l7, l8, l9, l10⟩ := hL
  subst hp
  go_enter Tryd.func4, Tryd.ntmps4
  rcases hk with ⟨rfl, rfl, rfl⟩ | ⟨rfl, rfl, rfl⟩
  all_goals go_wp2_with ((go_at_call 6; (with_reducible refine (H6.out _ hNL.out).mono ?_); rintro e w1 ⟨rfl, k0, c0, c1, c2, c3, c4, c5, c6, c7, c8, c9, c10⟩))
  all_goals (go_ret2; exact ⟨rfl, k0.below⟩)

/-- The rows stand, and nothing older has turned. -/
structure St (w W : World) : Prop where
  kd : Kd W
  below : Below w.heap.size w W
theorem St.more {w W W' : World} (h : St w W) (hb : Below W.heap.size W W') : St w W' := ⟨h.kd.below hb, h.below.trans (hb.mono h.below.size)⟩
theorem St.alloc {w W : World} (h : St w W) (o : Obj) : St w (W.alloc o) := h.more ((Below.refl _ W).alloc (Nat.le_refl _) o)

set_option maxRecDepth 100000 in
set_option maxHeartbeats 4000000 in
theorem walk (w : World) (hK : Kd w) : Calls Tryd.prog 3 #[] w fun e w' => e = .returned (.bool true) ∧ Below w.heap.size w w' := by
  have hS : St w w := ⟨hK, Below.refl _ w⟩
  have HA := Lib.hid (show ∀ W, St w W → Calls Tryd.prog 4 #[.agg #[.int .u8 0, .bool false, .string { data := #[] }, .int .i16 0, .int .i8 0, .float .f64 0, .float .f64 0, .bool false, .int .u32 0, .slice none 0 0, .slice none 0 0], .slice none 0 0] W fun e w' => e = .returned (.tuple #[.nilIface, .int .i64 40]) ∧ St w w' from fun W h => (make_none 0 (.inl rfl) W).mono (fun e w' h' => ⟨h'.1, h.more h'.2⟩))
  have HB := Lib.hid (show ∀ W, St w W → Calls Tryd.prog 4 #[.agg #[.int .u8 27, .bool false, .string { data := #[] }, .int .i16 0, .int .i8 0, .float .f64 0, .float .f64 0, .bool false, .int .u32 0, .slice none 0 0, .slice none 0 0], .slice none 0 0] W fun e w' => e = .returned (.tuple #[.nilIface, .int .i64 40]) ∧ St w w' from fun W h => (make_none 27 (.inr rfl) W).mono (fun e w' h' => ⟨h'.1, h.more h'.2⟩))
  have HC := Lib.hid (show ∀ W a c, St w W → Calls Tryd.prog 4 #[.agg #[.int .u8 1, .bool false, .string { data := #[] }, .int .i16 0, .int .i8 0, .float .f64 0, .float .f64 0, .bool false, .int .u32 0, .slice none 0 0, .slice (some a) 1 c], .slice none 0 0] W fun e w' => e = .returned (.tuple #[.nilIface, .int .i64 41]) ∧ St w w' from fun W a c h => (make_part 1 0 41 (.inl ⟨rfl, rfl, rfl⟩) a c W h.kd).mono (fun e w' h' => ⟨h'.1, h.more h'.2⟩))
  have HD := Lib.hid (show ∀ W a c, St w W → Calls Tryd.prog 4 #[.agg #[.int .u8 14, .bool false, .string { data := #[] }, .int .i16 0, .int .i8 0, .float .f64 0, .float .f64 0, .bool false, .int .u32 0, .slice none 0 0, .slice (some a) 1 c], .slice none 0 0] W fun e w' => e = .returned (.tuple #[.nilIface, .int .i64 41]) ∧ St w w' from fun W a c h => (make_part 14 1 0 (.inr ⟨rfl, rfl, rfl⟩) a c W h.kd).mono (fun e w' h' => ⟨h'.1, h.more h'.2⟩))
  have HE := Lib.hid (show ∀ W, St w W → Calls Tryd.prog 5 #[.int .u8 16] W fun e w' => e = .returned (.tuple #[.int .i64 0, .int .i64 64]) ∧ St w w' from fun W h => (parts_any 16 64 (.inr (.inr ⟨rfl, rfl⟩)) W h.kd).mono (fun e w' h' => ⟨h'.1, h.more (by rw [h'.2]; exact (Below.refl _ W).drew)⟩))
  go_enter Tryd.func3, Tryd.ntmps3
  go_wp2_with (first
    | (go_at_call 4; (with_reducible refine (HA.out _ hS).mono ?_); rintro e w1 ⟨rfl, s1⟩)
    | (go_at_call 4; (with_reducible refine (HB.out _ (by assumption)).mono ?_); rintro e w2 ⟨rfl, s2⟩)
    | (go_at_call 4; (with_reducible refine (HC.out _ _ _ (St.alloc (by assumption) _)).mono ?_); rintro e w3 ⟨rfl, s3⟩)
    | (go_at_call 4; (with_reducible refine (HD.out _ _ _ (St.alloc (by assumption) _)).mono ?_); rintro e w4 ⟨rfl, s4⟩)
    | (go_at_call 5; (with_reducible refine (HE.out _ (by assumption)).mono ?_); rintro e w5 ⟨rfl, s5⟩))
  go_ret
  exact ⟨rfl, s5.below⟩
end Go.Proofs.YtkcicddbobpegaaDoor
