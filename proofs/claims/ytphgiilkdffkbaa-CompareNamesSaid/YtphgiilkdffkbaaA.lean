/-
  CompareNames returns true: what the calls of package compare tell of no book and of no set; the numbers.
  Conditions: none (a closed statement).
-/
import Derived.Test.YtphgiilkdffkbaaRows
import Derived.PinnedBridge
import Derived.SizedLaws
import Derived.WalkKit
import Derived.ProofKit
import Derived.OpenShut
import Derived.IntWalk
import Derived.Lib.Hide
import Derived.BigQuiet
import Derived.Deep.QuietTactic
import Derived.Lib.SliceRun
namespace Go.Proofs.Ytphgiilkdffkbaa
open Go.ChangeShapes Go.WideShapes Go.ChangeAt Go.RowKit Go.Shelf
set_option linter.unusedVariables false
theorem own : ownKnob Try.prog.godebug = none := by kernel_rfl
theorem run_store_float {P : Program} {a : Addr} {m : Mode} {w : World} (k : FloatKind) (b : Nat) : (store a (.float k b) m).run P w = stored P w a (.float k b) m := run_store P w a _ m rfl
attribute [local go_sem] run_store_float
/-- A store of what lies there already. -/
theorem wpList_store_same {P : Program} {ops : Array Oper} {rest : List Oper} {o : Oper} {a : Act} {w : World} {Q : Exit → Act → World → Prop} (hgd : o.guard = none) (ty : TypeId) (x y : Operand) (ho : o.op = .store ty x y)
    (g : Nat) (cells : Array Value) (hx : a.eval x = .pointer (some ⟨g, 0, none⟩)) (hy : a.eval y = .agg cells) (t : TypeId) (hg : w.heap[g]? = some (.cells cells t (0, 0))) (hi : (P.info? ty).map (·.size) = some cells.size)
    (h1 : cells.all (·.oneCell') = true) (h : wpList P ops Q rest (a.put o.dst undef) w) : wpList P ops Q (o :: rest) a w := by
  refine wpList_store_row hgd ty x y ho g cells hx hy t cells hg hi rfl h1 ?_
  rwa [setRow_self w g cells t _ hg]
theorem info75 : (Try.prog.info? 75).map (·.size) = some 16 := by kernel_rfl
theorem one75 : (#[.nilIface, .int .u8 0, .bool false, .string { data := #[] }, .int .i16 0, .int .i8 0, .float .f64 0, .float .f64 0, .bool false, .int .u32 0, .slice none 0 0, .slice none 0 0, .int .i64 0, .int .i64 0, .int .i64 0, .int .i64 0] : Array Value).all (·.oneCell') = true := by kernel_rfl
theorem results_two {P : Program} {fn : Func} {p s : Tmp} {ty : TypeId} (h : fn.results = #[.cell p ty, .tmp s]) (tmps : Array Value) (w : World) (g : Nat) (t : TypeId) (cs : Array Value) (fr : Nat × Nat) (d : TypeDesc)
    (hp : tmps.getD p undef = .pointer (some ⟨g, 0, none⟩)) (hg : w.heap[g]? = some (.cells cs t fr))
    (hu : P.underlying ty = some d) (hd : (match d with | .struct _ | .array _ _ => true | _ => false) = true) (hi : (P.info? ty).map (·.size) = some cs.size) :
    (results fn tmps).run P w = .ok (.tuple #[.agg cs, tmps.getD s undef]) w := by
  have hp' : tmps[p]?.getD undef = .pointer (some ⟨g, 0, none⟩) := by simpa using hp
  simp [results, h, hp', asAddr, run_loadVar_row w g t ty cs fr d hg hu hd hi]
theorem heap_new (w : World) (o : Obj) : (w.alloc o).heap[w.heap.size]? = some o := by show (w.heap.push _)[w.heap.size]? = _; simp
set_option maxRecDepth 100000 in
set_option maxHeartbeats 4000000 in
theorem find_nil (n : Int) (w : World) : Calls Try.prog 30 #[.pointer none, .int .i64 n] w fun x w' => x = .returned (.tuple #[.agg #[.nilIface, .int .u8 0, .bool false, .string { data := #[] }, .int .i16 0, .int .i8 0, .float .f64 0, .float .f64 0, .bool false, .int .u32 0, .slice none 0 0, .slice none 0 0, .int .i64 0, .int .i64 0, .int .i64 0, .int .i64 0], .int .i64 2]) ∧ Below w.heap.size w w' := by
  have hk := Lib.hid (heap_new w (.cells #[.nilIface, .int .u8 0, .bool false, .string { data := #[] }, .int .i16 0, .int .i8 0, .float .f64 0, .float .f64 0, .bool false, .int .u32 0, .slice none 0 0, .slice none 0 0, .int .i64 0, .int .i64 0, .int .i64 0, .int .i64 0] 75))
  go_enter Try.func30, Try.ntmps30
  go_wp2_with (refine wpList_store_same rfl 75 (.tmp 4) (.tmp 9) rfl w.heap.size _ rfl rfl 75 hk.out info75 one75 ?_)
  exact bodyPost_ret (v := .tuple #[_, .int .i64 2]) (results_two Try.results30 _ _ w.heap.size 75 _ _ _ rfl hk.out Try.underlying75 rfl info75) rfl ⟨rfl, (Below.refl _ w).alloc (Nat.le_refl _) _⟩
set_option maxRecDepth 100000 in
set_option maxHeartbeats 4000000 in
theorem error_nil (n : Int) (w : World) : Calls Try.prog 23 #[.pointer none, .int .i64 n] w fun x w' => x = .returned (.tuple #[.nilIface, .int .i64 2]) ∧ Below w.heap.size w w' := by
  have H := Lib.hid (find_nil n w)
  go_enter Try.func23, Try.ntmps23
  go_wp2_with ((go_at_call 30; (with_reducible refine (H.out).mono ?_); rintro x w1 ⟨rfl, hb⟩))
  go_ret2
  exact ⟨rfl, hb.alloc hb.size _⟩
theorem of_nil (s : Option Addr) (k c : Nat) (w : World) : Calls Try.prog 17 #[.pointer none, .slice s k c] w fun x w' => x = .returned (.tuple #[.slice none 0 0, .int .i64 2]) ∧ w = w' := by
  go_enter Try.func17, Try.ntmps17
  go_wp2
  go_ret2
  exact ⟨rfl, rfl⟩
theorem two_nil (w : World) : Calls Try.prog 4 #[.pointer none, .int .i64 0, .int .i64 0] w fun x w' => x = .returned (.tuple #[.int .i64 0, .int .i64 2]) ∧ Below w.heap.size w w' := by
  have H := Lib.hid of_nil
  go_enter Try.func4, Try.ntmps4
  go_wp2_with ((go_at_call 17; (with_reducible refine (H.out _ _ _ _).mono ?_); rintro x w1 ⟨rfl, rfl⟩))
  go_ret2
  exact ⟨rfl, (Below.refl _ w).alloc (Nat.le_refl _) _⟩
theorem four_nil (a b c d : Int) (w : World) : Calls Try.prog 5 #[.pointer none, .agg #[.int .i64 0, .int .i64 0, .int .i64 0, .int .i64 0], .agg #[.int .i64 a, .int .i64 b, .int .i64 c, .int .i64 d]] w fun x w' => x = .returned (.tuple #[.int .i64 0, .int .i64 2]) ∧ Below w.heap.size w w' := by
  have H := Lib.hid of_nil
  go_enter Try.func5, Try.ntmps5
  go_wp2_with ((go_at_call 17; (with_reducible refine (H.out _ _ _ _).mono ?_); rintro x w1 ⟨rfl, rfl⟩))
  go_ret2
  exact ⟨rfl, (((Below.refl _ w).alloc (Nat.le_refl _) _).alloc (by simp) _).alloc (by simp; omega) _⟩
theorem rows_nil (s t : Option Addr) (k c i j : Nat) (w : World) : Calls Try.prog 6 #[.pointer none, .slice s k c, .slice t i j] w fun x w' => x = .returned (.tuple #[.int .i64 0, .int .i64 2]) ∧ Below w.heap.size w w' := by
  have H := Lib.hid of_nil
  go_enter Try.func6, Try.ntmps6
  go_wp2_with ((go_at_call 17; (with_reducible refine (H.out _ _ _ _).mono ?_); rintro x w1 ⟨rfl, rfl⟩))
  go_ret2
  exact ⟨rfl, (Below.refl _ w).alloc (Nat.le_refl _) _⟩
theorem seek_nil (s : Option Addr) (k c : Nat) (w : World) : Calls Try.prog 7 #[.pointer none, .int .i64 0, .slice s k c] w fun x w' => x = .returned (.tuple #[.int .i64 0, .int .i64 0, .int .i64 2]) ∧ Below w.heap.size w w' := by
  have H := Lib.hid error_nil
  go_enter Try.func7, Try.ntmps7
  go_wp2_with ((go_at_call 23; (with_reducible refine (H.out _ _).mono ?_); rintro x w1 ⟨rfl, hb⟩))
  exact bodyPost_ret (v := .tuple #[.int .i64 0, .int .i64 0, .int .i64 2]) (by simp [results, Try.results7, go_sem]) rfl ⟨rfl, hb⟩
theorem byType_nil (w : World) : Calls Try.prog 8 #[.pointer none, .int .i64 0] w fun x w' => x = .returned (.tuple #[.bool false, .int .i64 2]) ∧ Below w.heap.size w w' := by
  have H := Lib.hid error_nil
  go_enter Try.func8, Try.ntmps8
  go_wp2_with ((go_at_call 23; (with_reducible refine (H.out _ _).mono ?_); rintro x w1 ⟨rfl, hb⟩))
  go_ret2
  exact ⟨rfl, hb⟩
theorem nothing_nil (w : World) : Calls Try.prog 9 #[.pointer none, .int .i64 0] w fun x w' => x = .returned (.tuple #[.bool false, .bool false, .int .i64 2]) ∧ Below w.heap.size w w' := by
  have H := Lib.hid error_nil
  go_enter Try.func9, Try.ntmps9
  go_wp2_with ((go_at_call 23; (with_reducible refine (H.out _ _).mono ?_); rintro x w1 ⟨rfl, hb⟩))
  exact bodyPost_ret (v := .tuple #[.bool false, .bool false, .int .i64 2]) (by simp [results, Try.results9, go_sem]) rfl ⟨rfl, hb⟩
theorem classes_nil (s : Option Addr) (k c : Nat) (w : World) : Calls Try.prog 10 #[.pointer none, .slice s k c] w fun x w' => x = .returned (.tuple #[.slice none 0 0, .slice none 0 0, .int .i64 2]) ∧ Below w.heap.size w w' := by
  have H := Lib.hid of_nil
  go_enter Try.func10, Try.ntmps10
  go_wp2_with ((go_at_call 17; (with_reducible refine (H.out _ _ _ _).mono ?_); rintro x w1 ⟨rfl, rfl⟩))
  exact bodyPost_ret (v := .tuple #[.slice none 0 0, .slice none 0 0, .int .i64 2]) (by simp [results, Try.results10, go_sem]) rfl ⟨rfl, Below.refl _ w⟩
theorem new_nil (w : World) : Calls Try.prog 11 #[.pointer none] w fun x w' => x = .returned (.tuple #[.pointer none, .int .i64 2]) ∧ Below w.heap.size w w' := by
  go_enter Try.func11, Try.ntmps11
  go_wp2
  go_ret2
  exact ⟨rfl, Below.refl _ w⟩
theorem sfind_nil (n : Int) (w : World) : Calls Try.prog 27 #[.pointer none, .int .i64 n] w fun x w' => x = .returned (.tuple #[.nilIface, .int .i64 0, .int .i64 2]) ∧ Below w.heap.size w w' := by
  go_enter Try.func27, Try.ntmps27
  go_wp2
  exact bodyPost_ret (v := .tuple #[.nilIface, .int .i64 0, .int .i64 2]) (by simp [results, Try.results27, go_sem]) rfl ⟨rfl, ((Below.refl _ w).alloc (Nat.le_refl _) _).alloc (by simp) _⟩
theorem put_nil (w : World) : Calls Try.prog 12 #[.pointer none, .int .i64 0] w fun x w' => x = .returned (.tuple #[.int .i64 0, .int .i64 2]) ∧ Below w.heap.size w w' := by
  have H := Lib.hid sfind_nil
  go_enter Try.func12, Try.ntmps12
  go_wp2_with ((go_at_call 27; (with_reducible refine (H.out _ _).mono ?_); rintro x w1 ⟨rfl, hb⟩))
  go_ret2
  exact ⟨rfl, hb⟩
theorem has_nil (w : World) : Calls Try.prog 13 #[.pointer none, .int .i64 0] w fun x w' => x = .returned (.tuple #[.int .i64 0, .int .i64 2]) ∧ Below w.heap.size w w' := by
  have H := Lib.hid sfind_nil
  go_enter Try.func13, Try.ntmps13
  go_wp2_with ((go_at_call 27; (with_reducible refine (H.out _ _).mono ?_); rintro x w1 ⟨rfl, hb⟩))
  go_ret2
  exact ⟨rfl, hb⟩
theorem drop_nil (w : World) : Calls Try.prog 14 #[.pointer none, .int .i64 0] w fun x w' => x = .returned (.tuple #[.int .i64 0, .int .i64 2]) ∧ Below w.heap.size w w' := by
  have H := Lib.hid sfind_nil
  go_enter Try.func14, Try.ntmps14
  go_wp2_with ((go_at_call 27; (with_reducible refine (H.out _ _).mono ?_); rintro x w1 ⟨rfl, hb⟩))
  go_ret2
  exact ⟨rfl, hb⟩
theorem clear_nil (w : World) : Calls Try.prog 15 #[.pointer none] w fun x w' => x = .returned (.tuple #[]) ∧ w = w' := by
  go_enter Try.func15, Try.ntmps15
  go_wp2
  go_end0
  exact ⟨rfl, rfl⟩
theorem len_nil (w : World) : Calls Try.prog 16 #[.pointer none] w fun x w' => x = .returned (.int .i64 0) ∧ w = w' := by
  go_enter Try.func16, Try.ntmps16
  go_wp2
  go_ret
  exact ⟨rfl, rfl⟩
theorem St.alloc {w W : World} (h : Below w.heap.size w W) (o : Obj) : Below w.heap.size w (W.alloc o) := h.alloc h.size o
theorem St.more {w W W' : World} (h : Below w.heap.size w W) (hb : Below W.heap.size W W') : Below w.heap.size w W' := h.trans (hb.mono h.size)
set_option maxRecDepth 100000 in
set_option maxHeartbeats 4000000 in
theorem names_walk (w : World) : Calls Try.prog 3 #[] w fun e w' => e = .returned (.bool true) ∧ Below w.heap.size w w' := by
  have hS := Below.refl w.heap.size w
  have H4 := Lib.hid (fun W (h : Below w.heap.size w W) => (two_nil W).mono fun e w' h' => (⟨h'.1, St.more h h'.2⟩ : e = .returned (.tuple #[.int .i64 0, .int .i64 2]) ∧ Below w.heap.size w w'))
  have H5 := Lib.hid (fun W (h : Below w.heap.size w W) => (four_nil 9 0 0 0 W).mono fun e w' h' => (⟨h'.1, St.more h h'.2⟩ : e = .returned (.tuple #[.int .i64 0, .int .i64 2]) ∧ Below w.heap.size w w'))
  have H6 := Lib.hid (fun s t k c i j W (h : Below w.heap.size w W) => (rows_nil s t k c i j W).mono fun e w' h' => (⟨h'.1, St.more h h'.2⟩ : e = .returned (.tuple #[.int .i64 0, .int .i64 2]) ∧ Below w.heap.size w w'))
  have H7 := Lib.hid (fun s k c W (h : Below w.heap.size w W) => (seek_nil s k c W).mono fun e w' h' => (⟨h'.1, St.more h h'.2⟩ : e = .returned (.tuple #[.int .i64 0, .int .i64 0, .int .i64 2]) ∧ Below w.heap.size w w'))
  have H8 := Lib.hid (fun W (h : Below w.heap.size w W) => (byType_nil W).mono fun e w' h' => (⟨h'.1, St.more h h'.2⟩ : e = .returned (.tuple #[.bool false, .int .i64 2]) ∧ Below w.heap.size w w'))
  have H9 := Lib.hid (fun W (h : Below w.heap.size w W) => (nothing_nil W).mono fun e w' h' => (⟨h'.1, St.more h h'.2⟩ : e = .returned (.tuple #[.bool false, .bool false, .int .i64 2]) ∧ Below w.heap.size w w'))
  have H10 := Lib.hid (fun s k c W (h : Below w.heap.size w W) => (classes_nil s k c W).mono fun e w' h' => (⟨h'.1, St.more h h'.2⟩ : e = .returned (.tuple #[.slice none 0 0, .slice none 0 0, .int .i64 2]) ∧ Below w.heap.size w w'))
  have H11 := Lib.hid (fun W (h : Below w.heap.size w W) => (new_nil W).mono fun e w' h' => (⟨h'.1, St.more h h'.2⟩ : e = .returned (.tuple #[.pointer none, .int .i64 2]) ∧ Below w.heap.size w w'))
  have H12 := Lib.hid (fun W (h : Below w.heap.size w W) => (put_nil W).mono fun e w' h' => (⟨h'.1, St.more h h'.2⟩ : e = .returned (.tuple #[.int .i64 0, .int .i64 2]) ∧ Below w.heap.size w w'))
  have H13 := Lib.hid (fun W (h : Below w.heap.size w W) => (has_nil W).mono fun e w' h' => (⟨h'.1, St.more h h'.2⟩ : e = .returned (.tuple #[.int .i64 0, .int .i64 2]) ∧ Below w.heap.size w w'))
  have H14 := Lib.hid (fun W (h : Below w.heap.size w W) => (drop_nil W).mono fun e w' h' => (⟨h'.1, St.more h h'.2⟩ : e = .returned (.tuple #[.int .i64 0, .int .i64 2]) ∧ Below w.heap.size w w'))
  have H15 := Lib.hid clear_nil
  have H16 := Lib.hid len_nil
  go_enter Try.func3, Try.ntmps3
  go_wp2_with (first
    | (go_at_call 4; (with_reducible refine (H4.out _ hS).mono ?_); rintro e w4 ⟨rfl, s4⟩)
    | (go_at_call 5; (with_reducible refine (H5.out _ s4).mono ?_); rintro e w5 ⟨rfl, s5⟩)
    | (go_at_call 6; (with_reducible refine (H6.out _ _ _ _ _ _ _ (St.alloc s5 _)).mono ?_); rintro e w6 ⟨rfl, s6⟩)
    | (go_at_call 7; (with_reducible refine (H7.out _ _ _ _ s6).mono ?_); rintro e w7 ⟨rfl, s7⟩)
    | (go_at_call 8; (with_reducible refine (H8.out _ s7).mono ?_); rintro e w8 ⟨rfl, s8⟩)
    | (go_at_call 9; (with_reducible refine (H9.out _ s8).mono ?_); rintro e w9 ⟨rfl, s9⟩)
    | (go_at_call 10; (with_reducible refine (H10.out _ _ _ _ s9).mono ?_); rintro e w10 ⟨rfl, s10⟩)
    | (go_at_call 11; (with_reducible refine (H11.out _ s10).mono ?_); rintro e w11 ⟨rfl, s11⟩)
    | (go_at_call 12; (with_reducible refine (H12.out _ s11).mono ?_); rintro e w12 ⟨rfl, s12⟩)
    | (go_at_call 13; (with_reducible refine (H13.out _ s12).mono ?_); rintro e w13 ⟨rfl, s13⟩)
    | (go_at_call 14; (with_reducible refine (H14.out _ s13).mono ?_); rintro e w14 ⟨rfl, s14⟩)
    | (go_at_call 15; (with_reducible refine (H15.out _).mono ?_); rintro e w15 ⟨rfl, rfl⟩)
    | (go_at_call 16; (with_reducible refine (H16.out _).mono ?_); rintro e w16 ⟨rfl, rfl⟩))
  go_ret
  exact ⟨rfl, s14⟩
end Go.Proofs.Ytphgiilkdffkbaa
namespace Go.Proofs.Ytphgiilkdffkbaa.compareNames
open Go.ChangeShapes Go.WideShapes Go.ChangeAt Go.RowKit
set_option linter.unusedVariables false
set_option maxRecDepth 100000 in
theorem lifted (os : Os) (started : os.Started) (H : Type) (enc : TypeId × Value → H) :
    ReturnsInHanded {} Try.checked os 3 .any (Rows.compareNamesSpec.pre6 enc Try.prog Try.f3 Rows.compareNamesRow.domain false) (Rows.compareNamesSpec.post enc Try.prog Try.f3 false true false false) := by
  refine returnsInHanded_of_change (C := Try.checked) own started (by kernel_rfl) Try.func3
    (ChangeSpec.witness6 (enc := enc) (C := Try.checked) false ⟨#[], #[], []⟩ 8 (by kernel_rfl) (by kernel_rfl) (by kernel_rfl) (by kernel_rfl)) ?_
  intro W base args ds gs before hval0 hW hcnd _
  have hval : ∀ (j : Nat) t v, Try.f3.params[j]? = some t → args[j]? = some v → Value.okWide Try.prog W .any base t v := hval0
  have hW' := hW
  obtain ⟨p, q, hA0, hV, rfl, hfz, hnd⟩ := hW
  have hA : DataW.TrodAll enc Try.prog W 0 (fun _ => true) true Try.f3.params.toList args.toList ds p := hA0
  rw [Try.params3] at hA hval
  obtain ⟨rfl, rfl, rfl⟩ := trodAll_none hA
  obtain ⟨rfl, rfl⟩ := trodVars_none hV
  clear hA0 hval0
  simp only [List.append_nil] at hW'
  refine (names_walk W).mono fun e W' ⟨he, hg⟩ => ?_
  subst he
  refine ⟨_, rfl, _, _, _, [], [], [], hW', ?_, ?_, ?_, hg.frame _, fun h => by cases h⟩
  · exact trodAll_cons_mk (shut_bool Try.underlying4 _) trodAll_mk0
  · exact trodAll_mk0
  · rfl
theorem over : Rows.compareNamesRow.holds Try.pinned (OpenSpec.ofChange Rows.compareNamesSpec) :=
  OpenClaim.holds_of_wide 3 Try.f3 rfl rfl rfl rfl rfl rfl rfl ⟨rfl, rfl, rfl, rfl, rfl⟩ rfl rfl rfl rfl rfl (by kernel_rfl) Try.func3 (by kernel_rfl)
    (of_decide_eq_true (by kernel_rfl)) (by unfold Func.isWrapper; first | (rw [if_pos (by decide +kernel)]; kernel_rfl) | (rw [if_neg (by decide +kernel)]; exact ⟨rfl, rfl⟩))
    (fun os started H enc _ => lifted os started H enc)
/-- The statement. -/
theorem proved : Rows.CompareNamesSaid :=
  over
#print axioms proved
end Go.Proofs.Ytphgiilkdffkbaa.compareNames
