/-
  BookNames: the walk of the law.
-/
import Derived.Test.YtkcicddbobpegaaGreatDoorBB
import Derived.Test.YtkcicddbobpegaaGreatDoorLW
namespace Go.Proofs.YtkcicddbobpegaaGreatDoor
open Go.ChangeShapes Go.WideShapes Go.ChangeAt Go.RowKit Go.Shelf
set_option linter.unusedVariables false
attribute [local go_sem] Oper.semAt_some
attribute [local go_sem] run_store_float

def encE (x : Int × Value) : Array Value := #[.int .i64 x.1, x.2]
set_option maxRecDepth 100000 in
theorem each_w (n : Nat) (Bs : Nat) (w : World) (Kp : World → World → Prop) (hlt : Bs < w.heap.size) (hs : w.cell? ⟨Bs, 0, none⟩ = some (.slice none 0 0)) :
    SeqW Fence.wide n Tryz.prog 97 #[.pointer (some ⟨Bs, 0, none⟩)] encE 0 Kp (fun xs => xs = []) (fun _ => False) w := by
  intro l J Jx W hb hJ hJx hY h0
  have c1 : W.cell? ⟨Bs, 0, none⟩ = some (.slice none 0 0) := (hb.cell (p := ⟨Bs, 0, none⟩) hlt).trans hs
  clear hY hJ hJx hb hs hlt
  show CallsIn Fence.wide n Tryz.prog 97 #[.func (.yield l) #[] #[], .pointer (some ⟨Bs, 0, none⟩)] W _
  refine callsIn_of_wp Tryz.func97 rfl trivial ?_ rfl
  simp only [Tryz.ntmps97, List.size_toArray, List.length_cons, List.length_nil, Nat.reduceAdd, Nat.reduceSub, Array.replicate_succ, Array.replicate_zero, List.push_toArray, List.append_toArray, List.nil_append, List.cons_append]
  gi_wp2
  refine wpIn_loop_rounds 1 ?_
  simp only [roundsIn_succ]
  gi_wp2
  go_end0
  exact ⟨⟨_, rfl⟩, .inl ⟨[], rfl, h0⟩⟩

theorem equalIn_fn (d : Nat) (fn : Fn) (a c : Array Value) (w : World) : (Op.equalIn (d + 1) 143 (.func fn a c) .nilFunc).run Tryz.prog w = .ok false w := by
  simp [Op.equalIn, run_underlying Tryz.underlying143]
theorem equal_fn (fn : Fn) (a c : Array Value) (w : World) : (Op.equal 143 (.func fn a c) .nilFunc).run Tryz.prog w = .ok false w := equalIn_fn 9999 fn a c w
theorem neq_fn (fn : Fn) (a c : Array Value) (w : World) : (binOp .neq 143 (.func fn a c) .nilFunc).run Tryz.prog w = .ok (.bool true) w := by
  simp only [binOp]
  simp [equal_fn]
/-- What is in hand: the result's cell, and nothing older has turned. -/
structure Hd (w W : World) (b : Bool) : Prop where
  cell : W.heap[w.heap.size]? = some (.cells #[.bool b] 4 (0, 0))
  below : Below w.heap.size w W
theorem Hd.more {w W W' : World} {b : Bool} (h : Hd w W b) (hb : Below W.heap.size W W') : Hd w W' b := ⟨(hb.block _ (Array.getElem?_eq_some_iff.1 h.cell).1).trans h.cell, h.below.trans (hb.mono h.below.size)⟩
theorem Hd.alloc {w W : World} {b : Bool} (h : Hd w W b) (o : Obj) : Hd w (W.alloc o) b := h.more ((Below.refl _ W).alloc (Nat.le_refl _) o)

set_option maxRecDepth 100000 in
set_option maxHeartbeats 4000000 in
theorem names_walk (w : World) : Calls Tryz.prog 8 #[] w fun e w' => e = .returned (.bool true) ∧ Below w.heap.size w w' := by
  have hS : Hd w (w.alloc (.cells #[.bool false] 4)) false := ⟨heap_new w _, (Below.refl _ w).alloc (Nat.le_refl _) _⟩
  have HM := Lib.hid (show ∀ W, Hd w W false → Calls Tryz.prog 46 #[.pointer none, .agg #[.int .u8 1, .bool false, .string { data := #[] }, .int .i16 0, .int .i8 0, .float .f64 0, .float .f64 0, .bool false, .int .u32 0, .slice none 0 0, .slice none 0 0]] W fun e w' => e = .returned (.tuple #[.int .i64 0, .int .i64 2]) ∧ Hd w w' false from fun W h => (make_nil _ W _ rfl rfl).mono fun e w' h' => ⟨h'.1, h.more h'.2⟩)
  have HE := Lib.hid (show ∀ W, Hd w W false → Calls Tryz.prog 47 #[.pointer none, .int .i64 0] W fun e w' => e = .returned (.tuple #[.nilIface, .int .i64 2]) ∧ Hd w w' false from fun W h => (error_nil 0 W).mono fun e w' h' => ⟨h'.1, h.more h'.2⟩)
  have HS := Lib.hid (show ∀ W, Hd w W false → Calls Tryz.prog 48 #[.pointer none, .int .i64 1] W fun e w' => e = .returned (.tuple #[.agg #[.int .u8 0, .bool false, .string { data := #[] }, .int .i16 0, .int .i8 0, .float .f64 0, .float .f64 0, .bool false, .int .u32 0, .slice none 0 0, .slice none 0 0], .int .i64 2]) ∧ Hd w w' false from fun W h => (spec_nil 1 W).mono fun e w' h' => ⟨h'.1, h.more h'.2⟩)
  have HK := Lib.hid (show ∀ W, Hd w W false → Calls Tryz.prog 49 #[.pointer none, .int .i64 1] W fun e w' => e = .returned (.tuple #[.int .u8 0, .int .i64 2]) ∧ Hd w w' false from fun W h => (kind_nil 1 W).mono fun e w' h' => ⟨h'.1, h.more h'.2⟩)
  have HP := Lib.hid (show ∀ W, Hd w W false → Calls Tryz.prog 50 #[.pointer none, .int .i64 0] W fun e w' => e = .returned (.tuple #[.slice none 0 0, .int .i64 2]) ∧ Hd w w' false from fun W h => (parts_nil 0 W).mono fun e w' h' => ⟨h'.1, h.more h'.2⟩)
  have HZ := Lib.hid (show ∀ W, Hd w W false → Calls Tryz.prog 51 #[.pointer none, .int .i64 0] W fun e w' => e = .returned (.tuple #[.int .i64 0, .int .i64 2]) ∧ Hd w w' false from fun W h => (size_nil 0 W).mono fun e w' h' => ⟨h'.1, h.more h'.2⟩)
  have HD := Lib.hid (show ∀ W, Hd w W false → Calls Tryz.prog 52 #[.pointer none, .int .i64 0] W fun e w' => e = .returned (.tuple #[.int .i64 0, .int .i64 2]) ∧ Hd w w' false from fun W h => (depth_nil 0 W).mono fun e w' h' => ⟨h'.1, h.more h'.2⟩)
  have HL := Lib.hid (show ∀ W, Hd w W false → Calls Tryz.prog 53 #[.pointer none, .int .i64 0] W fun e w' => e = .returned (.tuple #[.int .i64 0, .int .i64 2]) ∧ Hd w w' false from fun W h => (length_nil 0 W).mono fun e w' h' => ⟨h'.1, h.more h'.2⟩)
  have HT := Lib.hid (show ∀ W, Hd w W false → Calls Tryz.prog 54 #[.pointer none, .int .i64 0] W fun e w' => e = .returned (.tuple #[.string { data := #[] }, .agg #[.int .i64 0, .string { data := #[] }, .int .i64 0], .int .i64 2]) ∧ Hd w w' false from fun W h => (text_nil 0 W).mono fun e w' h' => ⟨h'.1, h.more h'.2⟩)
  have qf : ∀ (fn : Fn) (a c : Array Value) (w : World), (binOp .neq 143 (.func fn a c) .nilFunc).run Tryz.prog w = .ok (.bool true) w := neq_fn
  refine (callsIn_wide (n := 10)).1 ?_
  refine callsIn_of_wp_marks Tryz.func8 rfl trivial ?_ rfl
  simp only [Tryz.ntmps8, List.size_toArray, List.length_nil, Nat.reduceSub, Array.replicate_succ, Array.replicate_zero, List.push_toArray, List.append_toArray, List.nil_append, List.cons_append]
  refine wpIn_wide.2 ?_
  go_wp2_with (first
    | (go_at_call 46; (with_reducible refine (HM.out _ hS).mono ?_); rintro e w1 ⟨rfl, s1⟩)
    | (go_at_call 47; (with_reducible refine (HE.out _ (by assumption)).mono ?_); rintro e w2 ⟨rfl, s2⟩)
    | (go_at_call 48; (with_reducible refine (HS.out _ (by assumption)).mono ?_); rintro e w3 ⟨rfl, s3⟩; have s3b := s3.alloc (.cells #[.int .u8 0, .bool false, .string { data := #[] }, .int .i16 0, .int .i8 0, .float .f64 0, .float .f64 0, .bool false, .int .u32 0, .slice none 0 0, .slice none 0 0] 30))
    | (go_at_call 49; (with_reducible refine (HK.out _ (by assumption)).mono ?_); rintro e w4 ⟨rfl, s4⟩)
    | (go_at_call 50; (with_reducible refine (HP.out _ (by assumption)).mono ?_); rintro e w5 ⟨rfl, s5⟩)
    | (go_at_call 51; (with_reducible refine (HZ.out _ (by assumption)).mono ?_); rintro e w6 ⟨rfl, s6⟩)
    | (go_at_call 52; (with_reducible refine (HD.out _ (by assumption)).mono ?_); rintro e w7 ⟨rfl, s7⟩)
    | (go_at_call 53; (with_reducible refine (HL.out _ (by assumption)).mono ?_); rintro e w8 ⟨rfl, s8⟩)
    | (go_at_call 54; (with_reducible refine (HT.out _ (by assumption)).mono ?_); rintro e w9 ⟨rfl, s9⟩; have s9b := s9.alloc (.cells #[.int .i64 0, .string { data := #[] }, .int .i64 0] 52))
    | (go_at_call 55; (with_reducible refine (each_nil _).mono ?_); rintro e w10 ⟨rfl, rfl⟩))
  have s10 := s9b.alloc (.cells #[.slice none 0 0] 252)
  have hz10 : ((w9.alloc (.cells #[.int .i64 0, .string { data := #[] }, .int .i64 0] 52)).alloc (.cells #[.slice none 0 0] 252)).heap.size = w9.heap.size + 2 := by simp
  have b10 := heap_new (w9.alloc (.cells #[.int .i64 0, .string { data := #[] }, .int .i64 0] 52)) (.cells #[.slice none 0 0] 252)
  have b9 : ((w9.alloc (.cells #[.int .i64 0, .string { data := #[] }, .int .i64 0] 52)).alloc (.cells #[.slice none 0 0] 252)).heap[w9.heap.size]? = some (.cells #[.int .i64 0, .string { data := #[] }, .int .i64 0] 52 (0, 0)) := (((Below.refl _ _).alloc (Nat.le_refl _) (.cells #[.slice none 0 0] 252) : Below (w9.alloc (.cells #[.int .i64 0, .string { data := #[] }, .int .i64 0] 52)).heap.size (w9.alloc (.cells #[.int .i64 0, .string { data := #[] }, .int .i64 0] 52)) _).block w9.heap.size (by simp)).trans (heap_new w9 _)
  obtain ⟨V, hV⟩ : ∃ V, (w9.alloc (.cells #[.int .i64 0, .string { data := #[] }, .int .i64 0] 52)).alloc (.cells #[.slice none 0 0] 252) = V := ⟨_, rfl⟩
  rw [hV] at s10 hz10 b10 b9 ⊢
  simp only [World.size_alloc] at b10
  clear hV
  have c10 : V.cell? ⟨w9.heap.size + 1, 0, none⟩ = some (.slice none 0 0) := by simp [World.cell?, b10]
  refine (wpIn_wide (n := 10)).1 ?_
  refine wpIn_range_wide (k := 0) rfl (by decide) (gf := 97) (lb := #[.pointer (some ⟨w9.heap.size + 1, 0, none⟩)]) rfl trivial (enters_of Tryz.func97 (by kernel_rfl) rfl)
    (each_w (10 - 1) (w9.heap.size + 1) V (fun _ _ => True) (by omega) c10) (fun _ _ => trivial) (fun _ _ _ _ _ _ _ _ => trivial) (fun _ => rfl)
    (fun _ W => Hd w W false ∧ W.heap[w9.heap.size]? = some (.cells #[.int .i64 0, .string { data := #[] }, .int .i64 0] 52 (0, 0)))
    (fun _ _ _ => False)
    (fun _ _ _ => True)
    ?own1
    (fun _ _ _ _ _ hs _ _ => hs)
    (fun _ _ _ _ _ _ _ _ _ => trivial)
    ⟨s10, b9⟩
    ?assign ?body ?done ?stop
  case own1 =>
    rintro pre X Y row ⟨h0, h1⟩ hg hr
    have f : ∀ b o, X.heap[b]? = some o → b < V.heap.size → Y.heap[b]? = some o := fun b o h hlt => (hg.block b (Array.getElem?_eq_some_iff.1 h).1 (fun e => by have := (hr _ e.symm).1; omega)).trans h
    have hs := (s10.below).size
    have hl := (Array.getElem?_eq_some_iff.1 s10.cell).1
    exact ⟨⟨f _ _ h0.cell hl, ownFrom_below (β := Unit) (Nat.le_refl _) hs () X Y row h0.below hg hr⟩, f _ _ h1 (by omega)⟩
  case assign =>
    intro l pre x W K hI hz hK
    dsimp only [encE]
    gi_wp2
    exact hK _ _ (Same.refl _ _ _) (Nat.le_refl _) trivial hI trivial
  case body =>
    rintro l pre x a' W hI hpx
    exact hpx.elim
  case stop =>
    rintro D c pre W _ hpx
    exact hpx.elim
  case done =>
    rintro D xs W hD rfl ⟨hH, hB⟩ hk
    have hs := (s10.below).size
    have hl := (Array.getElem?_eq_some_iff.1 s10.cell).1
    have r0 : W.cell? ⟨w.heap.size, 0, none⟩ = some (.bool false) := by simp [World.cell?, hH.cell]
    have r1 : W.frozen? ⟨w.heap.size, 0, none⟩ = false := by simp [World.frozen?, hH.cell]
    have p0 : W.cell? ⟨w9.heap.size, 0, none⟩ = some (.int .i64 0) := by simp [World.cell?, hB]
    have p1 : W.cell? ⟨w9.heap.size, 1, none⟩ = some (.string { data := #[] }) := by simp [World.cell?, hB]
    have p2 : W.cell? ⟨w9.heap.size, 2, none⟩ = some (.int .i64 0) := by simp [World.cell?, hB]
    have H57 := Lib.hid copy_nil
    have H56 := Lib.hid len_nil
    have HH := Lib.hid (And.intro hH (And.intro hk (And.intro hD (And.intro hs hl))))
    clear hH hB hk hD hs hl s10 hz10 b9 b10 c10 HM HE HS HK HP HZ HD HL HT hS
    dsimp only
    go_wp2_with (first | (go_at_call 56; (with_reducible refine (H56.out _).mono ?_); rintro e V1 ⟨rfl, rfl⟩) | (go_at_call 57; (with_reducible refine (H57.out _).mono ?_); rintro e V2 ⟨rfl, rfl⟩))
    obtain ⟨hH, hk, hD, hs, hl⟩ := HH.out
    have h1 : (W.setCell ⟨w.heap.size, 0, none⟩ (.bool true)).heap[w.heap.size]? = some (.cells #[.bool true] 4 (0, 0)) := by rw [heap_setCell_same W w.heap.size 0 _ 4 (.bool true) hH.cell]; rfl
    have hk1 : (W.setCell ⟨w.heap.size, 0, none⟩ (.bool true)).heap[D]? = some (.deferred (some [])) := (Below.heap_setCell W _ _ D (by show D ≠ w.heap.size; omega)).trans hk
    have hb1 : Below w.heap.size w (W.setCell ⟨w.heap.size, 0, none⟩ (.bool true)) := hH.below.setCell (p := ⟨w.heap.size, 0, none⟩) (Nat.le_refl _) _
    generalize W.setCell ⟨w.heap.size, 0, none⟩ (.bool true) = X at *
    have h2 : (X.putObj D (.deferred none)).heap[w.heap.size]? = some (.cells #[.bool true] 4 (0, 0)) := (World.putObj_heap_other (by omega)).trans h1
    have c2 : (X.putObj D (.deferred none)).cell? ⟨w.heap.size, 0, none⟩ = some (.bool true) := by simp [World.cell?, h2]
    have l2 := hb1.trans (belowK_b (w := w) (Nat.le_refl _) X D _ (.deferred none) (by omega) hk1 rfl rfl)
    refine ⟨by simp, .inl ⟨_, _, rfl, run_takeDeferred hk1, ?_⟩⟩
    exact ⟨.bool true, by simp [results, Tryz.results8, go_sem, c2], rfl, l2⟩
end Go.Proofs.YtkcicddbobpegaaGreatDoor
