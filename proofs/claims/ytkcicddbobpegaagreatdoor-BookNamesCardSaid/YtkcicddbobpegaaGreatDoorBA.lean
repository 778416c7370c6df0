/-
  A nil book: what each call tells.
-/
import Derived.Test.YtkcicddbobpegaaGreatDoorRows
import Derived.WalkKit
import Derived.ProofKit
import Derived.Below
import Derived.IntWalk
import Derived.Lib.Hide
import Derived.Lib.SliceRun
namespace Go.Proofs.YtkcicddbobpegaaGreatDoor
open Go.ChangeShapes Go.WideShapes Go.ChangeAt Go.RowKit
set_option linter.unusedVariables false

def zSp : Value := .agg #[.int .u8 0, .bool false, .string { data := #[] }, .int .i16 0, .int .i8 0, .float .f64 0, .float .f64 0, .bool false, .int .u32 0, .slice none 0 0, .slice none 0 0]
def zEn : Value := .agg #[.nilIface, .int .u8 0, .bool false, .string { data := #[] }, .int .i16 0, .int .i8 0, .float .f64 0, .float .f64 0, .bool false, .int .u32 0, .slice none 0 0, .slice none 0 0, .int .i64 0, .int .i64 0, .int .i64 0, .int .i64 0]
theorem run_store_float {P : Program} {a : Addr} {m : Mode} {w : World} (k : FloatKind) (b : Nat) : (store a (.float k b) m).run P w = stored P w a (.float k b) m := run_store P w a _ m rfl
attribute [local go_sem] run_store_float
/-- A store of what lies there already. -/
theorem wpList_store_same {P : Program} {ops : Array Oper} {rest : List Oper} {o : Oper} {a : Act} {w : World} {Q : Exit → Act → World → Prop} (hgd : o.guard = none) (ty : TypeId) (x y : Operand) (ho : o.op = .store ty x y)
    (g : Nat) (cells : Array Value) (hx : a.eval x = .pointer (some ⟨g, 0, none⟩)) (hy : a.eval y = .agg cells) (t : TypeId) (hg : w.heap[g]? = some (.cells cells t (0, 0))) (hi : (P.info? ty).map (·.size) = some cells.size)
    (h1 : cells.all (·.oneCell') = true) (h : wpList P ops Q rest (a.put o.dst undef) w) : wpList P ops Q (o :: rest) a w := by
  refine wpList_store_row hgd ty x y ho g cells hx hy t cells hg hi rfl h1 ?_
  rwa [setRow_self w g cells t _ hg]
theorem heap_keep {w w1 : World} {o o' : Obj} (hb : Below (w.alloc o).heap.size (w.alloc o) w1) : (w1.alloc o').heap[w.heap.size]? = some o := by
  have h0 : (w.alloc o).heap[w.heap.size]? = some o := by show (w.heap.push _)[w.heap.size]? = _; simp
  have h1 := (hb.block w.heap.size (by simp)).trans h0
  have h2 := (Array.getElem?_eq_some_iff.1 h1).1
  show (w1.heap.push _)[w.heap.size]? = _
  rw [Array.getElem?_push_lt h2]
  simpa [Array.getElem?_eq_getElem h2] using h1
theorem info247 : (Tryz.prog.info? 247).map (·.size) = some 16 := by kernel_rfl
theorem info30 : (Tryz.prog.info? 30).map (·.size) = some 11 := by kernel_rfl
theorem info52 : (Tryz.prog.info? 52).map (·.size) = some 3 := by kernel_rfl
theorem one247 : (#[.nilIface, .int .u8 0, .bool false, .string { data := #[] }, .int .i16 0, .int .i8 0, .float .f64 0, .float .f64 0, .bool false, .int .u32 0, .slice none 0 0, .slice none 0 0, .int .i64 0, .int .i64 0, .int .i64 0, .int .i64 0] : Array Value).all (·.oneCell') = true := by kernel_rfl
theorem one30 : (#[.int .u8 0, .bool false, .string { data := #[] }, .int .i16 0, .int .i8 0, .float .f64 0, .float .f64 0, .bool false, .int .u32 0, .slice none 0 0, .slice none 0 0] : Array Value).all (·.oneCell') = true := by kernel_rfl
theorem one52 : (#[.int .i64 0, .string { data := #[] }, .int .i64 0] : Array Value).all (·.oneCell') = true := by kernel_rfl
theorem below_two {w w1 : World} {o o' : Obj} (hb : Below (w.alloc o).heap.size (w.alloc o) w1) : Below w.heap.size w (w1.alloc o') :=
  (((Below.refl _ w).alloc (Nat.le_refl _) o).trans (hb.mono (by simp))).alloc (by have := hb.size; simp at this; omega) o'
theorem below_one {w w1 : World} {o' : Obj} (hb : Below w.heap.size w w1) : Below w.heap.size w (w1.alloc o') := hb.alloc hb.size o'
theorem results_two {P : Program} {fn : Func} {p s : Tmp} {ty : TypeId} (h : fn.results = #[.cell p ty, .tmp s]) (tmps : Array Value) (w : World) (g : Nat) (t : TypeId) (cs : Array Value) (fr : Nat × Nat) (d : TypeDesc)
    (hp : tmps.getD p undef = .pointer (some ⟨g, 0, none⟩)) (hg : w.heap[g]? = some (.cells cs t fr))
    (hu : P.underlying ty = some d) (hd : (match d with | .struct _ | .array _ _ => true | _ => false) = true) (hi : (P.info? ty).map (·.size) = some cs.size) :
    (results fn tmps).run P w = .ok (.tuple #[.agg cs, tmps.getD s undef]) w := by
  have hp' : tmps[p]?.getD undef = .pointer (some ⟨g, 0, none⟩) := by simpa using hp
  simp [results, h, hp', asAddr, run_loadVar_row w g t ty cs fr d hg hu hd hi]
theorem heap_new (w : World) (o : Obj) : (w.alloc o).heap[w.heap.size]? = some o := by show (w.heap.push _)[w.heap.size]? = _; simp
set_option maxRecDepth 100000 in
set_option maxHeartbeats 4000000 in
theorem find_nil (n : Int) (w : World) : Calls Tryz.prog 90 #[.pointer none, .int .i64 n] w fun e w' => e = .returned (.tuple #[zEn, .int .i64 2]) ∧ Below w.heap.size w w' := by
  have hk := Lib.hid (heap_new w (.cells #[.nilIface, .int .u8 0, .bool false, .string { data := #[] }, .int .i16 0, .int .i8 0, .float .f64 0, .float .f64 0, .bool false, .int .u32 0, .slice none 0 0, .slice none 0 0, .int .i64 0, .int .i64 0, .int .i64 0, .int .i64 0] 247))
  go_enter Tryz.func90, Tryz.ntmps90
  go_wp2_with (refine wpList_store_same rfl 247 (.tmp 4) (.tmp 9) rfl w.heap.size _ rfl rfl 247 hk.out info247 one247 ?_)
  exact bodyPost_ret (v := .tuple #[zEn, .int .i64 2]) (results_two Tryz.results90 _ _ w.heap.size 247 _ _ _ rfl hk.out Tryz.underlying247 rfl info247) rfl ⟨rfl, (Below.refl _ w).alloc (Nat.le_refl _) _⟩
set_option maxRecDepth 100000 in
set_option maxHeartbeats 4000000 in
theorem findError_nil (n : Int) (w : World) : Calls Tryz.prog 93 #[.pointer none, .int .i64 n] w fun e w' => e = .returned (.tuple #[zEn, .int .i64 2]) ∧ Below w.heap.size w w' := by
  have H := Lib.hid (show ∀ W, Calls Tryz.prog 90 #[.pointer none, .int .i64 n] W fun e w' => e = .returned (.tuple #[.agg #[.nilIface, .int .u8 0, .bool false, .string { data := #[] }, .int .i16 0, .int .i8 0, .float .f64 0, .float .f64 0, .bool false, .int .u32 0, .slice none 0 0, .slice none 0 0, .int .i64 0, .int .i64 0, .int .i64 0, .int .i64 0], .int .i64 2]) ∧ Below W.heap.size W w' from fun W => find_nil n W)
  go_enter Tryz.func93, Tryz.ntmps93
  go_wp2_with (first
    | (go_at_call 90; (with_reducible refine (H.out _).mono ?_); rintro e w1 ⟨rfl, hb⟩; have hk := Lib.hid (heap_keep (o' := .cells #[.nilIface, .int .u8 0, .bool false, .string { data := #[] }, .int .i16 0, .int .i8 0, .float .f64 0, .float .f64 0, .bool false, .int .u32 0, .slice none 0 0, .slice none 0 0, .int .i64 0, .int .i64 0, .int .i64 0, .int .i64 0] 247) hb))
    | (refine wpList_store_same rfl 247 (.tmp 4) (.tmp 22) rfl w.heap.size _ rfl rfl 247 hk.out info247 one247 ?_))
  exact bodyPost_ret (v := .tuple #[zEn, .int .i64 2]) (results_two Tryz.results93 _ _ w.heap.size 247 _ _ _ rfl hk.out Tryz.underlying247 rfl info247) rfl ⟨rfl, below_two hb⟩
set_option maxRecDepth 100000 in
set_option maxHeartbeats 4000000 in
theorem error_nil (n : Int) (w : World) : Calls Tryz.prog 47 #[.pointer none, .int .i64 n] w fun e w' => e = .returned (.tuple #[.nilIface, .int .i64 2]) ∧ Below w.heap.size w w' := by
  have H := Lib.hid (show ∀ W, Calls Tryz.prog 90 #[.pointer none, .int .i64 n] W fun e w' => e = .returned (.tuple #[.agg #[.nilIface, .int .u8 0, .bool false, .string { data := #[] }, .int .i16 0, .int .i8 0, .float .f64 0, .float .f64 0, .bool false, .int .u32 0, .slice none 0 0, .slice none 0 0, .int .i64 0, .int .i64 0, .int .i64 0, .int .i64 0], .int .i64 2]) ∧ Below W.heap.size W w' from fun W => find_nil n W)
  go_enter Tryz.func47, Tryz.ntmps47
  go_wp2_with ((go_at_call 90; (with_reducible refine (H.out _).mono ?_); rintro e w1 ⟨rfl, hb⟩))
  go_ret2
  exact ⟨rfl, below_one hb⟩
set_option maxRecDepth 100000 in
set_option maxHeartbeats 4000000 in
theorem kind_nil (n : Int) (w : World) : Calls Tryz.prog 49 #[.pointer none, .int .i64 n] w fun e w' => e = .returned (.tuple #[.int .u8 0, .int .i64 2]) ∧ Below w.heap.size w w' := by
  have H := Lib.hid (show ∀ W, Calls Tryz.prog 93 #[.pointer none, .int .i64 n] W fun e w' => e = .returned (.tuple #[.agg #[.nilIface, .int .u8 0, .bool false, .string { data := #[] }, .int .i16 0, .int .i8 0, .float .f64 0, .float .f64 0, .bool false, .int .u32 0, .slice none 0 0, .slice none 0 0, .int .i64 0, .int .i64 0, .int .i64 0, .int .i64 0], .int .i64 2]) ∧ Below W.heap.size W w' from fun W => findError_nil n W)
  go_enter Tryz.func49, Tryz.ntmps49
  go_wp2_with ((go_at_call 93; (with_reducible refine (H.out _).mono ?_); rintro e w1 ⟨rfl, hb⟩))
  go_ret2
  exact ⟨rfl, below_one hb⟩
set_option maxRecDepth 100000 in
set_option maxHeartbeats 4000000 in
theorem size_nil (n : Int) (w : World) : Calls Tryz.prog 51 #[.pointer none, .int .i64 n] w fun e w' => e = .returned (.tuple #[.int .i64 0, .int .i64 2]) ∧ Below w.heap.size w w' := by
  have H := Lib.hid (show ∀ W, Calls Tryz.prog 90 #[.pointer none, .int .i64 n] W fun e w' => e = .returned (.tuple #[.agg #[.nilIface, .int .u8 0, .bool false, .string { data := #[] }, .int .i16 0, .int .i8 0, .float .f64 0, .float .f64 0, .bool false, .int .u32 0, .slice none 0 0, .slice none 0 0, .int .i64 0, .int .i64 0, .int .i64 0, .int .i64 0], .int .i64 2]) ∧ Below W.heap.size W w' from fun W => find_nil n W)
  go_enter Tryz.func51, Tryz.ntmps51
  go_wp2_with ((go_at_call 90; (with_reducible refine (H.out _).mono ?_); rintro e w1 ⟨rfl, hb⟩))
  go_ret2
  exact ⟨rfl, below_one hb⟩
set_option maxRecDepth 100000 in
set_option maxHeartbeats 4000000 in
theorem depth_nil (n : Int) (w : World) : Calls Tryz.prog 52 #[.pointer none, .int .i64 n] w fun e w' => e = .returned (.tuple #[.int .i64 0, .int .i64 2]) ∧ Below w.heap.size w w' := by
  have H := Lib.hid (show ∀ W, Calls Tryz.prog 90 #[.pointer none, .int .i64 n] W fun e w' => e = .returned (.tuple #[.agg #[.nilIface, .int .u8 0, .bool false, .string { data := #[] }, .int .i16 0, .int .i8 0, .float .f64 0, .float .f64 0, .bool false, .int .u32 0, .slice none 0 0, .slice none 0 0, .int .i64 0, .int .i64 0, .int .i64 0, .int .i64 0], .int .i64 2]) ∧ Below W.heap.size W w' from fun W => find_nil n W)
  go_enter Tryz.func52, Tryz.ntmps52
  go_wp2_with ((go_at_call 90; (with_reducible refine (H.out _).mono ?_); rintro e w1 ⟨rfl, hb⟩))
  go_ret2
  exact ⟨rfl, below_one hb⟩
set_option maxRecDepth 100000 in
set_option maxHeartbeats 4000000 in
theorem length_nil (n : Int) (w : World) : Calls Tryz.prog 53 #[.pointer none, .int .i64 n] w fun e w' => e = .returned (.tuple #[.int .i64 0, .int .i64 2]) ∧ Below w.heap.size w w' := by
  have H := Lib.hid (show ∀ W, Calls Tryz.prog 90 #[.pointer none, .int .i64 n] W fun e w' => e = .returned (.tuple #[.agg #[.nilIface, .int .u8 0, .bool false, .string { data := #[] }, .int .i16 0, .int .i8 0, .float .f64 0, .float .f64 0, .bool false, .int .u32 0, .slice none 0 0, .slice none 0 0, .int .i64 0, .int .i64 0, .int .i64 0, .int .i64 0], .int .i64 2]) ∧ Below W.heap.size W w' from fun W => find_nil n W)
  go_enter Tryz.func53, Tryz.ntmps53
  go_wp2_with ((go_at_call 90; (with_reducible refine (H.out _).mono ?_); rintro e w1 ⟨rfl, hb⟩))
  go_ret2
  exact ⟨rfl, below_one hb⟩
theorem clone28 (w : World) : Calls Tryz.prog 95 #[.slice none 0 0] w fun e w' => e = .returned (.slice none 0 0) ∧ w = w' := by
  have q : ∀ (w : World) (a : Option Addr) (n c n' c' : Nat), (binOp .eql 28 (.slice a n c) (.slice none n' c')).run Tryz.prog w = .ok (.bool a.isNone) w := fun w a n c n' c' => Lib.run_eql_slice_nil w _ _ a n c n' c' Tryz.underlying28
  go_enter Tryz.func95, Tryz.ntmps95
  go_wp2
  go_ret
  exact ⟨rfl, rfl⟩
theorem clone27 (w : World) : Calls Tryz.prog 109 #[.slice none 0 0] w fun e w' => e = .returned (.slice none 0 0) ∧ w = w' := by
  have q : ∀ (w : World) (a : Option Addr) (n c n' c' : Nat), (binOp .eql 27 (.slice a n c) (.slice none n' c')).run Tryz.prog w = .ok (.bool a.isNone) w := fun w a n c n' c' => Lib.run_eql_slice_nil w _ _ a n c n' c' Tryz.underlying27
  go_enter Tryz.func109, Tryz.ntmps109
  go_wp2
  go_ret
  exact ⟨rfl, rfl⟩
set_option maxRecDepth 100000 in
set_option maxHeartbeats 4000000 in
theorem parts_nil (n : Int) (w : World) : Calls Tryz.prog 50 #[.pointer none, .int .i64 n] w fun e w' => e = .returned (.tuple #[.slice none 0 0, .int .i64 2]) ∧ Below w.heap.size w w' := by
  have H := Lib.hid (show ∀ W, Calls Tryz.prog 90 #[.pointer none, .int .i64 n] W fun e w' => e = .returned (.tuple #[.agg #[.nilIface, .int .u8 0, .bool false, .string { data := #[] }, .int .i16 0, .int .i8 0, .float .f64 0, .float .f64 0, .bool false, .int .u32 0, .slice none 0 0, .slice none 0 0, .int .i64 0, .int .i64 0, .int .i64 0, .int .i64 0], .int .i64 2]) ∧ Below W.heap.size W w' from fun W => find_nil n W)
  go_enter Tryz.func50, Tryz.ntmps50
  go_wp2_with (first | (go_at_call 90; (with_reducible refine (H.out _).mono ?_); rintro e w1 ⟨rfl, hb⟩) | (go_at_call 95; (with_reducible refine (clone28 _).mono ?_); rintro e w2 ⟨rfl, rfl⟩))
  go_ret2
  exact ⟨rfl, below_one hb⟩
end Go.Proofs.YtkcicddbobpegaaGreatDoor
