/-
  FacesNone: the walk of the law.
-/
import Derived.Test.YtgmibdcefljceaaDoorC
namespace Go.Proofs.YtgmibdcefljceaaDoor
open Go.ChangeShapes Go.WideShapes Go.ChangeAt Go.RowKit Go.Shelf
set_option linter.unusedVariables false
theorem new_any (w : World) : Calls Tryd.prog 11 #[] w fun x w' => x = .returned (.pointer (some ⟨w.heap.size, 0, none⟩)) ∧ w' = w.alloc (.cells #[.slice none 0 0] 63) := by
  go_enter Tryd.func11, Tryd.ntmps11
  go_wp2
  go_ret
  exact ⟨rfl, rfl⟩
set_option maxRecDepth 100000 in
theorem info5 : (Tryd.prog.info? 5).map (fun i => (i.zero, i.size, i.bytes)) = some (some (.int .u8 0), 1, 1) := by kernel_rfl
def ms (n : Nat) : Array Value := madeCells (Value.int .u8 0).cells (n * 1)
set_option maxRecDepth 100000 in
theorem mk_u8 (w : World) (l : Nat) (hc : l ≤ 1000) : (Instr.makeSlice 34 (.int .i64 (l : Int)) (.int .i64 (l : Int))).run Tryd.prog w = .ok (.slice (some ⟨w.heap.size, 0, none⟩) l l) (w.alloc (.cells (ms l) 5)) := by
  obtain ⟨i, hi, hz⟩ : ∃ i, Tryd.prog.info? 5 = some i ∧ (i.zero, i.size, i.bytes) = (some (Value.int .u8 0), 1, 1) := by
    have h := info5
    cases hx : Tryd.prog.info? 5 with
    | none => rw [hx] at h; cases h
    | some i => rw [hx] at h; exact ⟨i, rfl, by simpa using h⟩
  injection hz with h1 h2
  injection h2 with h2 h3
  have h := run_makeSlice (P := Tryd.prog) w 34 5 i (.int .u8 0) Tryd.underlying34 hi h1 .i64 .i64 l l (by omega) (by omega) (by rw [h2]; omega) (by rw [h3]; omega) (by omega)
  rw [h2] at h
  exact h
theorem mk_65 (w : World) : (Instr.makeSlice 34 (.int .i64 65) (.int .i64 65)).run Tryd.prog w = .ok (.slice (some ⟨w.heap.size, 0, none⟩) 65 65) (w.alloc (.cells (ms 65) 5)) := mk_u8 w 65 (by omega)
theorem mk_64 (w : World) : (Instr.makeSlice 34 (.int .i64 64) (.int .i64 64)).run Tryd.prog w = .ok (.slice (some ⟨w.heap.size, 0, none⟩) 64 64) (w.alloc (.cells (ms 64) 5)) := mk_u8 w 64 (by omega)
attribute [local go_sem] mk_65 mk_64
theorem ms_cell (w : World) : (w.alloc (.cells (ms 64) 5)).cell? ⟨w.heap.size, 0, none⟩ = some (.int .u8 0) := by
  rw [cell_of_row (w.alloc (.cells (ms 64) 5)) w.heap.size 0 _ _ _ (heap_new w _)]
  kernel_rfl
/-- Nothing older has turned; the names lie. -/
structure St (w W : World) : Prop where
  nk : NK W
  below : Below w.heap.size w W
theorem St.more {w W W' : World} (h : St w W) (hb : Below W.heap.size W W') : St w W' := ⟨h.nk.below hb, h.below.trans (hb.mono h.below.size)⟩
theorem St.alloc {w W : World} (h : St w W) (o : Obj) : St w (W.alloc o) := h.more ((Below.refl _ W).alloc (Nat.le_refl _) o)
/-- An empty book besides. -/
structure Sb (w W : World) (B : Nat) : Prop where
  st : St w W
  cell : W.cell? ⟨B, 0, none⟩ = some (.slice none 0 0)
theorem Sb.more {w W W' : World} {B : Nat} (h : Sb w W B) (hb : Below W.heap.size W W') : Sb w W' B := ⟨h.st.more hb, (hb.cell (p := ⟨B, 0, none⟩) (World.block_lt_of_cell? W _ h.cell)).trans h.cell⟩
theorem Sb.alloc {w W : World} {B : Nat} (h : Sb w W B) (o : Obj) : Sb w (W.alloc o) B := h.more ((Below.refl _ W).alloc (Nat.le_refl _) o)
theorem Sb.drew {w W : World} {B : Nat} (h : Sb w W B) : Sb w W.drew B := h.more (Below.refl _ W).drew
set_option maxRecDepth 100000 in
set_option maxHeartbeats 4000000 in
theorem none_walk (w : World) (hK : NK w) : Calls Tryd.prog 3 #[] w fun e w' => e = .returned (.bool true) ∧ Below w.heap.size w w' := by
  have hS : St w w := ⟨hK, Below.refl _ w⟩
  have H4 := Lib.hid (fun W (h : St w W) => (holds_nil W).mono fun e w' h' => (⟨h'.1, h.more h'.2⟩ : e = .returned (.tuple #[.bool false, .int .i64 2]) ∧ St w w'))
  have H5 := Lib.hid (fun W (h : St w W) => (assert_nil W).mono fun e w' h' => (⟨h'.1, h.more h'.2⟩ : e = .returned (.tuple #[.agg #[.int .i64 0, .string { data := #[] }, .int .i64 0], .int .i64 2]) ∧ St w w'))
  have H6 := Lib.hid (fun W (h : St w W) => (held_nil W).mono fun e w' h' => (⟨h'.1, h.more h'.2⟩ : e = .returned (.tuple #[.int .u32 0, .int .i64 2]) ∧ St w w'))
  have H7 := Lib.hid (fun s k c W (h : St w W) => (road_e none 9 2 (.inl rfl) s k c W (.inl ⟨rfl, rfl⟩)).mono fun e w' h' => (⟨h'.1, h.more h'.2⟩ : e = .returned (.tuple #[.int .i64 0, .int .i64 2]) ∧ St w w'))
  have H8 := Lib.hid (fun W (h : St w W) => (which_nil W).mono fun e w' h' => (⟨h'.1, h.more h'.2⟩ : e = .returned (.tuple #[.slice none 0 0, .int .i64 2]) ∧ St w w'))
  have H9 := Lib.hid (fun s k c W (h : St w W) => (shared_nil s k c W).mono fun e w' h' => (⟨h'.1, h.more h'.2⟩ : e = .returned (.tuple #[.int .u32 0, .int .i64 2]) ∧ St w w'))
  have H10 := Lib.hid (fun W (h : St w W) => (named_none W h.nk).mono fun e w' h' => (⟨h'.1, h.more h'.2⟩ : e = .returned (.tuple #[.int .u8 0, .bool false]) ∧ St w w'))
  have H11 := Lib.hid (fun W (h : St w W) => (new_any W).mono fun e w' h' => (⟨h'.1, ⟨h'.2 ▸ h.alloc _, by rw [h'.2]; simp [go_sem]⟩⟩ : e = .returned (.pointer (some ⟨W.heap.size, 0, none⟩)) ∧ Sb w w' W.heap.size))
  have R1 := Lib.hid (fun B s c W (h : Sb w W B) => (road_long B s c W (.inr ⟨B, rfl, h.cell, .inl ⟨rfl, rfl⟩⟩)).mono fun e w' h' => (⟨h'.1, h.more h'.2⟩ : e = .returned (.tuple #[.int .i64 0, .int .i64 1]) ∧ Sb w w' B))
  have R2 := Lib.hid (fun B g c W (h : Sb w W B) hg => (road_face B g c W (.inr ⟨B, rfl, h.cell, .inl ⟨rfl, rfl⟩⟩) hg).mono fun e w' h' => (⟨h'.1, h.more h'.2⟩ : e = .returned (.tuple #[.int .i64 0, .int .i64 60]) ∧ Sb w w' B))
  have R3 := Lib.hid (fun B s k c W (h : Sb w W B) => (road_e (some ⟨B, 0, none⟩) 1 50 (.inr rfl) s k c W (.inr ⟨B, rfl, h.cell, .inr ⟨rfl, rfl⟩⟩)).mono fun e w' h' => (⟨h'.1, h.more h'.2⟩ : e = .returned (.tuple #[.int .i64 0, .int .i64 50]) ∧ Sb w w' B))
  go_enter Tryd.func3, Tryd.ntmps3
  go_wp2_with (first
    | (go_at_call 4; (with_reducible refine (H4.out _ hS).mono ?_); rintro e w4 ⟨rfl, s4⟩)
    | (go_at_call 5; (with_reducible refine (H5.out _ (by assumption)).mono ?_); rintro e w5 ⟨rfl, s5⟩; have s5b := s5.alloc (.cells #[.int .i64 0, .string { data := #[] }, .int .i64 0] 26))
    | (go_at_call 6; (with_reducible refine (H6.out _ (by assumption)).mono ?_); rintro e w6 ⟨rfl, s6⟩)
    | (go_at_call 8; (with_reducible refine (H8.out _ (by assumption)).mono ?_); rintro e w8 ⟨rfl, s8⟩)
    | (go_at_call 10; (with_reducible refine (H10.out _ (by assumption)).mono ?_); rintro e w10 ⟨rfl, s10⟩)
    | (go_at_call 11; (with_reducible refine (H11.out _ (by assumption)).mono ?_); rintro e w11 ⟨rfl, s11⟩)
    | (go_at_call 7; (with_reducible refine (H7.out _ _ _ _ (St.alloc (by assumption) _)).mono ?_); rintro e w7 ⟨rfl, s7⟩)
    | (go_at_call 9; (with_reducible refine (H9.out _ _ _ _ (St.alloc (by assumption) _)).mono ?_); rintro e w9 ⟨rfl, s9⟩))
  clear H4 H5 H6 H7 H8 H9 H10 H11
  go_wp2_with (first
    | (go_at_call 7; (with_reducible refine (R1.out _ _ _ _ (Sb.alloc s11 _)).mono ?_); rintro e r1 ⟨rfl, t1⟩)
    | (go_at_call 7; (with_reducible refine (R2.out _ _ _ _ (Sb.alloc t1 _) (ms_cell r1)).mono ?_); rintro e r2 ⟨rfl, t2⟩)
    | (go_at_call 7; (with_reducible refine (R3.out _ _ _ _ _ (Sb.alloc t2 _)).mono ?_); rintro e r3 ⟨rfl, t3⟩))
  go_ret
  exact ⟨rfl, t3.st.below⟩
end Go.Proofs.YtgmibdcefljceaaDoor
