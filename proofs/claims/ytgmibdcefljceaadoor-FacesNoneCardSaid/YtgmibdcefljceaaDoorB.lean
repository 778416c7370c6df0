/-
  A nil book, a new book: what the calls of package faces tell.
-/
import Derived.Test.YtgmibdcefljceaaDoorA
namespace Go.Proofs.YtgmibdcefljceaaDoor
open Go.ChangeShapes Go.WideShapes Go.ChangeAt Go.RowKit Go.Shelf
set_option linter.unusedVariables false
theorem run_store_float {P : Program} {a : Addr} {m : Mode} {w : World} (k : FloatKind) (b : Nat) : (store a (.float k b) m).run P w = stored P w a (.float k b) m := run_store P w a _ m rfl
attribute [local go_sem] run_store_float

def zEn : Value := .agg #[.nilIface, .int .u8 0, .bool false, .string { data := #[] }, .int .i16 0, .int .i8 0, .float .f64 0, .float .f64 0, .bool false, .int .u32 0, .slice none 0 0, .slice none 0 0, .int .i64 0, .int .i64 0, .int .i64 0, .int .i64 0]
/-- A store of what lies there already. -/
theorem wpList_store_same {P : Program} {ops : Array Oper} {rest : List Oper} {o : Oper} {a : Act} {w : World} {Q : Exit → Act → World → Prop} (hgd : o.guard = none) (ty : TypeId) (x y : Operand) (ho : o.op = .store ty x y)
    (g : Nat) (cells : Array Value) (hx : a.eval x = .pointer (some ⟨g, 0, none⟩)) (hy : a.eval y = .agg cells) (t : TypeId) (hg : w.heap[g]? = some (.cells cells t (0, 0))) (hi : (P.info? ty).map (·.size) = some cells.size)
    (h1 : cells.all (·.oneCell') = true) (h : wpList P ops Q rest (a.put o.dst undef) w) : wpList P ops Q (o :: rest) a w := by
  refine wpList_store_row hgd ty x y ho g cells hx hy t cells hg hi rfl h1 ?_
  rwa [setRow_self w g cells t _ hg]
theorem heap_keep {w w1 : World} {o o' : Obj} (hb : Below (w.alloc o).heap.size (w.alloc o) w1) : (w1.alloc o').heap[w.heap.size]? = some o := by
  have h0 : (w.alloc o).heap[w.heap.size]? = some o := by show (w.heap.push _)[w.heap.size]? = _; simp
  have h1 := (hb.block w.heap.size (by simp)).trans h0
  have h2 := (Array.getElem?_eq_some_iff.1 h1).1
  show (w1.heap.push _)[w.heap.size]? = _
  rw [Array.getElem?_push_lt h2]
  simpa [Array.getElem?_eq_getElem h2] using h1
theorem info71 : (Tryd.prog.info? 71).map (·.size) = some 16 := by kernel_rfl
theorem info26 : (Tryd.prog.info? 26).map (·.size) = some 3 := by kernel_rfl
theorem one71 : (#[.nilIface, .int .u8 0, .bool false, .string { data := #[] }, .int .i16 0, .int .i8 0, .float .f64 0, .float .f64 0, .bool false, .int .u32 0, .slice none 0 0, .slice none 0 0, .int .i64 0, .int .i64 0, .int .i64 0, .int .i64 0] : Array Value).all (·.oneCell') = true := by kernel_rfl
theorem one26 : (#[.int .i64 0, .string { data := #[] }, .int .i64 0] : Array Value).all (·.oneCell') = true := by kernel_rfl
theorem results_two {P : Program} {fn : Func} {p s : Tmp} {ty : TypeId} (h : fn.results = #[.cell p ty, .tmp s]) (tmps : Array Value) (w : World) (g : Nat) (t : TypeId) (cs : Array Value) (fr : Nat × Nat) (d : TypeDesc)
    (hp : tmps.getD p undef = .pointer (some ⟨g, 0, none⟩)) (hg : w.heap[g]? = some (.cells cs t fr))
    (hu : P.underlying ty = some d) (hd : (match d with | .struct _ | .array _ _ => true | _ => false) = true) (hi : (P.info? ty).map (·.size) = some cs.size) :
    (results fn tmps).run P w = .ok (.tuple #[.agg cs, tmps.getD s undef]) w := by
  have hp' : tmps[p]?.getD undef = .pointer (some ⟨g, 0, none⟩) := by simpa using hp
  simp [results, h, hp', asAddr, run_loadVar_row w g t ty cs fr d hg hu hd hi]
theorem heap_new (w : World) (o : Obj) : (w.alloc o).heap[w.heap.size]? = some o := by show (w.heap.push _)[w.heap.size]? = _; simp
theorem below_two {w w1 : World} {o o' : Obj} (hb : Below (w.alloc o).heap.size (w.alloc o) w1) : Below w.heap.size w (w1.alloc o') :=
  (((Below.refl _ w).alloc (Nat.le_refl _) o).trans (hb.mono (by simp))).alloc (by have := hb.size; simp at this; omega) o'

/-- What a book's handle comes to: of no book 2; of an empty book 0 of the handle 0, 50 of 1. -/
def Bk (w : World) (p : Option Addr) (n e : Int) : Prop := (p = none ∧ e = 2) ∨ (∃ B, p = some ⟨B, 0, none⟩ ∧ w.cell? ⟨B, 0, none⟩ = some (.slice none 0 0) ∧ ((n = 0 ∧ e = 0) ∨ (n = 1 ∧ e = 50)))
theorem Bk.below {w w' : World} {p : Option Addr} {n e : Int} (h : Bk w p n e) (hb : Below w.heap.size w w') : Bk w' p n e := by
  rcases h with h | ⟨B, h1, h2, h3⟩
  · exact .inl h
  · exact .inr ⟨B, h1, (hb.cell (p := ⟨B, 0, none⟩) (World.block_lt_of_cell? w _ h2)).trans h2, h3⟩
set_option maxRecDepth 100000 in
set_option maxHeartbeats 4000000 in
theorem find_any (p : Option Addr) (n e : Int) (w : World) (h : Bk w p n e) : Calls Tryd.prog 20 #[.pointer p, .int .i64 n] w fun x w' => x = .returned (.tuple #[zEn, .int .i64 e]) ∧ Below w.heap.size w w' := by
  have hk := Lib.hid (heap_new w (.cells #[.nilIface, .int .u8 0, .bool false, .string { data := #[] }, .int .i16 0, .int .i8 0, .float .f64 0, .float .f64 0, .bool false, .int .u32 0, .slice none 0 0, .slice none 0 0, .int .i64 0, .int .i64 0, .int .i64 0, .int .i64 0] 71))
  rcases h with ⟨rfl, rfl⟩ | ⟨B, rfl, hc, ⟨rfl, rfl⟩ | ⟨rfl, rfl⟩⟩
  · go_enter Tryd.func20, Tryd.ntmps20
    go_wp2_with (refine wpList_store_same rfl 71 (.tmp 4) (.tmp 9) rfl w.heap.size _ rfl rfl 71 hk.out info71 one71 ?_)
    exact bodyPost_ret (v := .tuple #[zEn, .int .i64 2]) (results_two Tryd.results20 _ _ w.heap.size 71 _ _ _ rfl hk.out Tryd.underlying71 rfl info71) rfl ⟨rfl, (Below.refl _ w).alloc (Nat.le_refl _) _⟩
  · have hB := World.block_lt_of_cell? w _ hc
    have hc1 : (w.alloc (.cells #[.nilIface, .int .u8 0, .bool false, .string { data := #[] }, .int .i16 0, .int .i8 0, .float .f64 0, .float .f64 0, .bool false, .int .u32 0, .slice none 0 0, .slice none 0 0, .int .i64 0, .int .i64 0, .int .i64 0, .int .i64 0] 71)).cell? ⟨B, 0, none⟩ = some (.slice none 0 0) := (((Below.refl w.heap.size w).alloc (Nat.le_refl _) _).cell (p := ⟨B, 0, none⟩) hB).trans hc
    go_enter Tryd.func20, Tryd.ntmps20
    go_wp2_with (refine wpList_store_same rfl 71 (.tmp 4) (.tmp 26) rfl w.heap.size _ rfl rfl 71 hk.out info71 one71 ?_)
    exact bodyPost_ret (v := .tuple #[zEn, .int .i64 0]) (results_two Tryd.results20 _ _ w.heap.size 71 _ _ _ rfl hk.out Tryd.underlying71 rfl info71) rfl ⟨rfl, (Below.refl _ w).alloc (Nat.le_refl _) _⟩
  · have hB := World.block_lt_of_cell? w _ hc
    have hc1 : (w.alloc (.cells #[.nilIface, .int .u8 0, .bool false, .string { data := #[] }, .int .i16 0, .int .i8 0, .float .f64 0, .float .f64 0, .bool false, .int .u32 0, .slice none 0 0, .slice none 0 0, .int .i64 0, .int .i64 0, .int .i64 0, .int .i64 0] 71)).cell? ⟨B, 0, none⟩ = some (.slice none 0 0) := (((Below.refl w.heap.size w).alloc (Nat.le_refl _) _).cell (p := ⟨B, 0, none⟩) hB).trans hc
    go_enter Tryd.func20, Tryd.ntmps20
    go_wp2_with (refine wpList_store_same rfl 71 (.tmp 4) (.tmp 22) rfl w.heap.size _ rfl rfl 71 hk.out info71 one71 ?_)
    exact bodyPost_ret (v := .tuple #[zEn, .int .i64 50]) (results_two Tryd.results20 _ _ w.heap.size 71 _ _ _ rfl hk.out Tryd.underlying71 rfl info71) rfl ⟨rfl, (Below.refl _ w).alloc (Nat.le_refl _) _⟩
set_option maxRecDepth 100000 in
set_option maxHeartbeats 4000000 in
theorem error_any (p : Option Addr) (n e : Int) (w : World) (h : Bk w p n e) : Calls Tryd.prog 12 #[.pointer p, .int .i64 n] w fun x w' => x = .returned (.tuple #[.nilIface, .int .i64 e]) ∧ Below w.heap.size w w' := by
  have H := Lib.hid (show Calls Tryd.prog 20 #[.pointer p, .int .i64 n] w fun x w' => x = .returned (.tuple #[.agg #[.nilIface, .int .u8 0, .bool false, .string { data := #[] }, .int .i16 0, .int .i8 0, .float .f64 0, .float .f64 0, .bool false, .int .u32 0, .slice none 0 0, .slice none 0 0, .int .i64 0, .int .i64 0, .int .i64 0, .int .i64 0], .int .i64 e]) ∧ Below w.heap.size w w' from find_any p n e w h)
  clear h
  go_enter Tryd.func12, Tryd.ntmps12
  go_wp2_with ((go_at_call 20; (with_reducible refine (H.out).mono ?_); rintro x w1 ⟨rfl, hb⟩))
  go_ret2
  exact ⟨rfl, hb.alloc hb.size _⟩
theorem isFace_no (n : Int) (hn : n = 0 ∨ n = 99) (w : World) : Calls Tryd.prog 13 #[.int .u8 n] w fun x w' => x = .returned (.bool false) ∧ w = w' := by
  rcases hn with rfl | rfl
  all_goals
    go_enter Tryd.func13, Tryd.ntmps13
    go_wp2
    go_ret
    exact ⟨rfl, rfl⟩
theorem holds_nil (w : World) : Calls Tryd.prog 4 #[.pointer none, .int .i64 9, .int .u8 99] w fun x w' => x = .returned (.tuple #[.bool false, .int .i64 2]) ∧ Below w.heap.size w w' := by
  have H := Lib.hid (error_any none 9 2 w (.inl ⟨rfl, rfl⟩))
  go_enter Tryd.func4, Tryd.ntmps4
  go_wp2_with ((go_at_call 12; (with_reducible refine (H.out).mono ?_); rintro x w1 ⟨rfl, hb⟩))
  go_ret2
  exact ⟨rfl, hb⟩
set_option maxRecDepth 100000 in
set_option maxHeartbeats 4000000 in
theorem assert_nil (w : World) : Calls Tryd.prog 5 #[.pointer none, .int .i64 9, .int .u8 99] w fun x w' => x = .returned (.tuple #[.agg #[.int .i64 0, .string { data := #[] }, .int .i64 0], .int .i64 2]) ∧ Below w.heap.size w w' := by
  have H := Lib.hid (show ∀ W, Calls Tryd.prog 12 #[.pointer none, .int .i64 9] W fun x w' => x = .returned (.tuple #[.nilIface, .int .i64 2]) ∧ Below W.heap.size W w' from fun W => error_any none 9 2 W (.inl ⟨rfl, rfl⟩))
  have hk0 := heap_new w (.cells #[.int .i64 0, .string { data := #[] }, .int .i64 0] 26)
  have hA := (Below.refl w.heap.size w).alloc (Nat.le_refl _) (.cells #[.int .i64 0, .string { data := #[] }, .int .i64 0] 26)
  have hAz : (w.alloc (.cells #[.int .i64 0, .string { data := #[] }, .int .i64 0] 26)).heap.size = w.heap.size + 1 := by simp
  have HA := Lib.hid (And.intro hk0 (And.intro hA hAz))
  clear hk0 hA hAz
  go_enter Tryd.func5, Tryd.ntmps5
  go_wp2_with (first
    | (go_at_call 12; (with_reducible refine (H.out _).mono ?_); rintro x w1 ⟨rfl, hb⟩; have hk := Lib.hid ((hb.block w.heap.size (by rw [HA.out.2.2]; omega)).trans HA.out.1))
    | (refine wpList_store_same rfl 26 (.tmp 6) (.tmp 18) rfl w.heap.size _ rfl rfl 26 hk.out info26 one26 ?_))
  exact bodyPost_ret (results_two Tryd.results5 _ _ w.heap.size 26 _ _ _ rfl hk.out Tryd.underlying26 rfl info26) rfl ⟨rfl, HA.out.2.1.trans (hb.mono (by rw [HA.out.2.2]; omega))⟩
theorem held_nil (w : World) : Calls Tryd.prog 6 #[.pointer none, .int .i64 9] w fun x w' => x = .returned (.tuple #[.int .u32 0, .int .i64 2]) ∧ Below w.heap.size w w' := by
  have H := Lib.hid (error_any none 9 2 w (.inl ⟨rfl, rfl⟩))
  go_enter Tryd.func6, Tryd.ntmps6
  go_wp2_with ((go_at_call 12; (with_reducible refine (H.out).mono ?_); rintro x w1 ⟨rfl, hb⟩))
  go_ret2
  exact ⟨rfl, hb⟩
set_option maxRecDepth 100000 in
set_option maxHeartbeats 4000000 in
/-- Road where the book tells that the handle is none. -/
theorem road_e (p : Option Addr) (n e : Int) (he : e = 2 ∨ e = 50) (s : Option Addr) (k c : Nat) (w : World) (h : Bk w p n e) : Calls Tryd.prog 7 #[.pointer p, .int .i64 n, .slice s k c] w fun x w' => x = .returned (.tuple #[.int .i64 0, .int .i64 e]) ∧ Below w.heap.size w w' := by
  have H := Lib.hid (error_any p n e w h)
  clear h
  rcases he with rfl | rfl
  all_goals
    go_enter Tryd.func7, Tryd.ntmps7
    go_wp2_with ((go_at_call 12; (with_reducible refine (H.out).mono ?_); rintro x w1 ⟨rfl, hb⟩))
    go_ret2
    exact ⟨rfl, hb⟩
set_option maxRecDepth 100000 in
set_option maxHeartbeats 4000000 in
theorem road_long (B : Nat) (s : Option Addr) (c : Nat) (w : World) (h : Bk w (some ⟨B, 0, none⟩) 0 0) : Calls Tryd.prog 7 #[.pointer (some ⟨B, 0, none⟩), .int .i64 0, .slice s 65 c] w fun x w' => x = .returned (.tuple #[.int .i64 0, .int .i64 1]) ∧ Below w.heap.size w w' := by
  have H := Lib.hid (error_any _ 0 0 w h)
  clear h
  go_enter Tryd.func7, Tryd.ntmps7
  go_wp2_with ((go_at_call 12; (with_reducible refine (H.out).mono ?_); rintro x w1 ⟨rfl, hb⟩))
  go_ret2
  exact ⟨rfl, hb⟩
set_option maxRecDepth 100000 in
set_option maxHeartbeats 4000000 in
theorem road_face (B g : Nat) (c : Nat) (w : World) (h : Bk w (some ⟨B, 0, none⟩) 0 0) (hg : w.cell? ⟨g, 0, none⟩ = some (.int .u8 0)) : Calls Tryd.prog 7 #[.pointer (some ⟨B, 0, none⟩), .int .i64 0, .slice (some ⟨g, 0, none⟩) 64 c] w fun x w' => x = .returned (.tuple #[.int .i64 0, .int .i64 60]) ∧ Below w.heap.size w w' := by
  have H := Lib.hid (error_any _ 0 0 w h)
  have HF := Lib.hid (isFace_no 0 (.inl rfl))
  have hgl := World.block_lt_of_cell? w _ hg
  have HG := Lib.hid (And.intro hg hgl)
  clear h hg hgl
  go_enter Tryd.func7, Tryd.ntmps7
  go_wp2_with (first
    | (go_at_call 12; (with_reducible refine (H.out).mono ?_); rintro x w1 ⟨rfl, hb⟩; have hg1 : w1.cell? ⟨g, 0, none⟩ = some (.int .u8 0) := (hb.cell (p := ⟨g, 0, none⟩) HG.out.2).trans HG.out.1)
    | (go_at_call 13; (with_reducible refine (HF.out _).mono ?_); rintro x w2 ⟨rfl, rfl⟩))
  refine wp_loop_rounds 1 ?_
  simp only [rounds_succ]
  go_wp2_with (first
    | (go_at_call 13; (with_reducible refine (HF.out _).mono ?_); rintro x w2 ⟨rfl, rfl⟩))
  all_goals first | (go_ret2; exact ⟨rfl, hb⟩) | skip
end Go.Proofs.YtgmibdcefljceaaDoor
