/-
  A nil book: Spec, Text, Len, Copy, Make.
-/
import Derived.Test.YtkcicddbobpegaaGreatDoorBA
namespace Go.Proofs.YtkcicddbobpegaaGreatDoor
open Go.ChangeShapes Go.WideShapes Go.ChangeAt Go.RowKit
set_option linter.unusedVariables false
attribute [local go_sem] run_store_float
theorem results_one {P : Program} {fn : Func} {p : Tmp} {ty : TypeId} (h : fn.results = #[.cell p ty]) (tmps : Array Value) (w : World) (g : Nat) (t : TypeId) (cs : Array Value) (fr : Nat × Nat) (d : TypeDesc)
    (hp : tmps.getD p undef = .pointer (some ⟨g, 0, none⟩)) (hg : w.heap[g]? = some (.cells cs t fr))
    (hu : P.underlying ty = some d) (hd : (match d with | .struct _ | .array _ _ => true | _ => false) = true) (hi : (P.info? ty).map (·.size) = some cs.size) :
    (results fn tmps).run P w = .ok (.agg cs) w := results_cell_row h tmps w g t cs fr d hp hg hu hd hi
theorem results_mid {P : Program} {fn : Func} {p s q : Tmp} {ty : TypeId} (h : fn.results = #[.tmp s, .cell p ty, .tmp q]) (tmps : Array Value) (w : World) (g : Nat) (t : TypeId) (cs : Array Value) (fr : Nat × Nat) (d : TypeDesc)
    (hp : tmps.getD p undef = .pointer (some ⟨g, 0, none⟩)) (hg : w.heap[g]? = some (.cells cs t fr))
    (hu : P.underlying ty = some d) (hd : (match d with | .struct _ | .array _ _ => true | _ => false) = true) (hi : (P.info? ty).map (·.size) = some cs.size) :
    (results fn tmps).run P w = .ok (.tuple #[tmps.getD s undef, .agg cs, tmps.getD q undef]) w := by
  have hp' : tmps[p]?.getD undef = .pointer (some ⟨g, 0, none⟩) := by simpa using hp
  simp [results, h, hp', asAddr, run_loadVar_row w g t ty cs fr d hg hu hd hi]
set_option maxRecDepth 100000 in
set_option maxHeartbeats 4000000 in
theorem own_nil (w : World) : Calls Tryz.prog 94 #[.agg #[.int .u8 0, .bool false, .string { data := #[] }, .int .i16 0, .int .i8 0, .float .f64 0, .float .f64 0, .bool false, .int .u32 0, .slice none 0 0, .slice none 0 0]] w fun e w' => e = .returned (.agg #[.int .u8 0, .bool false, .string { data := #[] }, .int .i16 0, .int .i8 0, .float .f64 0, .float .f64 0, .bool false, .int .u32 0, .slice none 0 0, .slice none 0 0]) ∧ Below w.heap.size w w' := by
  have hk : Hid (((w.alloc (.cells #[.int .u8 0, .bool false, .string { data := #[] }, .int .i16 0, .int .i8 0, .float .f64 0, .float .f64 0, .bool false, .int .u32 0, .slice none 0 0, .slice none 0 0] 30)).alloc (.cells #[.int .u8 0, .bool false, .string { data := #[] }, .int .i16 0, .int .i8 0, .float .f64 0, .float .f64 0, .bool false, .int .u32 0, .slice none 0 0, .slice none 0 0] 30)).heap[w.heap.size + 1]? = some (.cells #[.int .u8 0, .bool false, .string { data := #[] }, .int .i16 0, .int .i8 0, .float .f64 0, .float .f64 0, .bool false, .int .u32 0, .slice none 0 0, .slice none 0 0] 30 (0, 0))) := Lib.hid (by have := heap_new (w.alloc (.cells #[.int .u8 0, .bool false, .string { data := #[] }, .int .i16 0, .int .i8 0, .float .f64 0, .float .f64 0, .bool false, .int .u32 0, .slice none 0 0, .slice none 0 0] 30)) (.cells #[.int .u8 0, .bool false, .string { data := #[] }, .int .i16 0, .int .i8 0, .float .f64 0, .float .f64 0, .bool false, .int .u32 0, .slice none 0 0, .slice none 0 0] 30); simpa using this)
  go_enter Tryz.func94, Tryz.ntmps94
  go_wp2_with (first
    | (go_at_call 109; (with_reducible refine (clone27 _).mono ?_); rintro e w1 ⟨rfl, rfl⟩)
    | (go_at_call 95; (with_reducible refine (clone28 _).mono ?_); rintro e w2 ⟨rfl, rfl⟩)
    | (refine wpList_store_same rfl 30 (.tmp 2) (.tmp 11) rfl (w.heap.size + 1) _ rfl rfl 30 hk.out info30 one30 ?_))
  exact bodyPost_ret (results_one Tryz.results94 _ _ (w.heap.size + 1) 30 _ _ _ rfl hk.out Tryz.underlying30 rfl info30) rfl ⟨rfl, ((Below.refl _ w).alloc (Nat.le_refl _) _).alloc (by simp) _⟩
set_option maxRecDepth 100000 in
set_option maxHeartbeats 4000000 in
theorem spec_nil (n : Int) (w : World) : Calls Tryz.prog 48 #[.pointer none, .int .i64 n] w fun e w' => e = .returned (.tuple #[.agg #[.int .u8 0, .bool false, .string { data := #[] }, .int .i16 0, .int .i8 0, .float .f64 0, .float .f64 0, .bool false, .int .u32 0, .slice none 0 0, .slice none 0 0], .int .i64 2]) ∧ Below w.heap.size w w' := by
  have H := Lib.hid (show ∀ W, Calls Tryz.prog 93 #[.pointer none, .int .i64 n] W fun e w' => e = .returned (.tuple #[.agg #[.nilIface, .int .u8 0, .bool false, .string { data := #[] }, .int .i16 0, .int .i8 0, .float .f64 0, .float .f64 0, .bool false, .int .u32 0, .slice none 0 0, .slice none 0 0, .int .i64 0, .int .i64 0, .int .i64 0, .int .i64 0], .int .i64 2]) ∧ Below W.heap.size W w' from fun W => findError_nil n W)
  have hk0 := heap_new w (.cells #[.int .u8 0, .bool false, .string { data := #[] }, .int .i16 0, .int .i8 0, .float .f64 0, .float .f64 0, .bool false, .int .u32 0, .slice none 0 0, .slice none 0 0] 30)
  have hA := (Below.refl w.heap.size w).alloc (Nat.le_refl _) (.cells #[.int .u8 0, .bool false, .string { data := #[] }, .int .i16 0, .int .i8 0, .float .f64 0, .float .f64 0, .bool false, .int .u32 0, .slice none 0 0, .slice none 0 0] 30)
  have hAz : (w.alloc (.cells #[.int .u8 0, .bool false, .string { data := #[] }, .int .i16 0, .int .i8 0, .float .f64 0, .float .f64 0, .bool false, .int .u32 0, .slice none 0 0, .slice none 0 0] 30)).heap.size = w.heap.size + 1 := by simp
  have HA := Lib.hid (And.intro hk0 (And.intro hA hAz))
  clear hk0 hA hAz
  go_enter Tryz.func48, Tryz.ntmps48
  go_wp2_with (first
    | (go_at_call 93; (with_reducible refine (H.out _).mono ?_); rintro e w1 ⟨rfl, hb⟩; have hk1 := Lib.hid (heap_keep (o' := .cells #[.nilIface, .int .u8 0, .bool false, .string { data := #[] }, .int .i16 0, .int .i8 0, .float .f64 0, .float .f64 0, .bool false, .int .u32 0, .slice none 0 0, .slice none 0 0, .int .i64 0, .int .i64 0, .int .i64 0, .int .i64 0] 247) hb))
    | (go_at_call 94; (with_reducible refine (own_nil _).mono ?_); rintro e w2 ⟨rfl, hb2⟩; have hk := Lib.hid ((hb2.block _ (Array.getElem?_eq_some_iff.1 hk1.out).1).trans hk1.out))
    | (refine wpList_store_same rfl 30 (.tmp 4) (.tmp 16) rfl w.heap.size _ rfl rfl 30 hk.out info30 one30 ?_))
  exact bodyPost_ret (results_two Tryz.results48 _ _ w.heap.size 30 _ _ _ rfl hk.out Tryz.underlying30 rfl info30) rfl ⟨rfl, (below_two hb).trans (hb2.mono (below_two hb).size)⟩
set_option maxRecDepth 100000 in
set_option maxHeartbeats 4000000 in
theorem text_nil (n : Int) (w : World) : Calls Tryz.prog 54 #[.pointer none, .int .i64 n] w fun e w' => e = .returned (.tuple #[.string { data := #[] }, .agg #[.int .i64 0, .string { data := #[] }, .int .i64 0], .int .i64 2]) ∧ Below w.heap.size w w' := by
  have H := Lib.hid (show ∀ W, Calls Tryz.prog 90 #[.pointer none, .int .i64 n] W fun e w' => e = .returned (.tuple #[.agg #[.nilIface, .int .u8 0, .bool false, .string { data := #[] }, .int .i16 0, .int .i8 0, .float .f64 0, .float .f64 0, .bool false, .int .u32 0, .slice none 0 0, .slice none 0 0, .int .i64 0, .int .i64 0, .int .i64 0, .int .i64 0], .int .i64 2]) ∧ Below W.heap.size W w' from fun W => find_nil n W)
  go_enter Tryz.func54, Tryz.ntmps54
  go_wp2_with (first
    | (go_at_call 90; (with_reducible refine (H.out _).mono ?_); rintro e w1 ⟨rfl, hb⟩; have hk := Lib.hid (heap_keep (o' := .cells #[.nilIface, .int .u8 0, .bool false, .string { data := #[] }, .int .i16 0, .int .i8 0, .float .f64 0, .float .f64 0, .bool false, .int .u32 0, .slice none 0 0, .slice none 0 0, .int .i64 0, .int .i64 0, .int .i64 0, .int .i64 0] 247) hb))
    | (refine wpList_store_same rfl 52 (.tmp 5) (.tmp 20) rfl w.heap.size _ rfl rfl 52 hk.out info52 one52 ?_))
  exact bodyPost_ret (results_mid Tryz.results54 _ _ w.heap.size 52 _ _ _ rfl hk.out Tryz.underlying52 rfl info52) rfl ⟨rfl, below_two hb⟩
theorem len_nil (w : World) : Calls Tryz.prog 56 #[.pointer none] w fun e w' => e = .returned (.int .i64 0) ∧ w = w' := by
  go_enter Tryz.func56, Tryz.ntmps56
  go_wp2
  go_ret
  exact ⟨rfl, rfl⟩
theorem copy_nil (w : World) : Calls Tryz.prog 57 #[.pointer none] w fun e w' => e = .returned (.pointer none) ∧ w = w' := by
  go_enter Tryz.func57, Tryz.ntmps57
  go_wp2
  go_ret
  exact ⟨rfl, rfl⟩
set_option maxRecDepth 100000 in
set_option maxHeartbeats 4000000 in
theorem make_nil (s : Value) (w : World) (cs : Array Value) (hs : s = .agg cs) (hz : cs.size = 11) : Calls Tryz.prog 46 #[.pointer none, s] w fun e w' => e = .returned (.tuple #[.int .i64 0, .int .i64 2]) ∧ Below w.heap.size w w' := by
  subst hs
  go_enter Tryz.func46, Tryz.ntmps46
  go_wp2
  go_ret2
  exact ⟨rfl, (Below.refl _ w).alloc (Nat.le_refl _) _⟩
theorem each_nil (w : World) : Calls Tryz.prog 55 #[.pointer none] w fun e w' => e = .returned (.func (.func 97) #[] #[.pointer (some ⟨w.heap.size, 0, none⟩)]) ∧ w' = w.alloc (.cells #[.slice none 0 0] 252) := by
  have hmf : ∀ (fn : Fn) (first cap : Array Value) (w : World), (Instr.makeFunc fn first cap).run Tryz.prog w = .ok (.func fn first cap) w := fun _ _ _ _ => rfl
  go_enter Tryz.func55, Tryz.ntmps55
  go_wp2
  go_ret
  exact ⟨rfl, rfl⟩
end Go.Proofs.YtkcicddbobpegaaGreatDoor
