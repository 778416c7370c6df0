/-
  PlaceNone: no tree; what Push refuses.
-/
import Derived.Test.YtfhnhilnjcfpkaaPM
namespace Go.Proofs.Ytfhnhilnjcfpkaa
open Go.ChangeShapes Go.WideShapes Go.ChangeAt Go.RowKit Go.Shelf
open Go.Maps (Keyed)
set_option linter.unusedVariables false
theorem push_nil (p : Pl) (w : World) : Calls Try.prog 4 #[.pointer none, .int .i64 0, .agg #[.string p.1, .int .i64 p.2]] w fun e w' => e = .returned (.tuple #[.int .i64 0, .int .i64 2]) ∧ Below w.heap.size w w' := by
  go_enter Try.func4, Try.ntmps4
  go_wp2
  go_ret2
  exact ⟨rfl, (Below.refl _ w).alloc (Nat.le_refl _) _⟩
theorem add_nil (w : World) : Calls Try.prog 5 #[.pointer none, .slice none 0 0] w fun e w' => e = .returned (.tuple #[.int .i64 0, .int .i64 2]) ∧ w = w' := by
  go_enter Try.func5, Try.ntmps5
  go_wp2
  go_ret2
  exact ⟨rfl, rfl⟩
theorem stack_nil (w : World) : Calls Try.prog 6 #[.pointer none, .int .i64 0] w fun e w' => e = .returned (.tuple #[.slice none 0 0, .int .i64 2]) ∧ Below w.heap.size w w' := by
  go_enter Try.func6, Try.ntmps6
  go_wp2
  go_ret2
  exact ⟨rfl, ((Below.refl _ w).alloc (Nat.le_refl _) _).alloc (by simp) _⟩
theorem meet_nil (w : World) : Calls Try.prog 7 #[.pointer none, .int .i64 0, .int .i64 0] w fun e w' => e = .returned (.tuple #[.int .i64 0, .int .i64 2]) ∧ w = w' := by
  go_enter Try.func7, Try.ntmps7
  go_wp2
  go_ret2
  exact ⟨rfl, rfl⟩
theorem len_nil (w : World) : Calls Try.prog 9 #[.pointer none] w fun e w' => e = .returned (.int .i64 0) ∧ w = w' := by
  go_enter Try.func9, Try.ntmps9
  go_wp2
  go_ret
  exact ⟨rfl, rfl⟩
theorem has_nil (w : World) : Calls Try.prog 15 #[.pointer none, .int .i64 1] w fun e w' => e = .returned (.bool false) ∧ w = w' := by
  go_enter Try.func15, Try.ntmps15
  go_wp2_with ((go_at_call 9; (with_reducible refine (len_nil _).mono ?_); rintro e w1 ⟨rfl, rfl⟩))
  go_ret
  exact ⟨rfl, rfl⟩
theorem parent_nil (w : World) : Calls Try.prog 8 #[.pointer none, .int .i64 1] w fun e w' => e = .returned (.tuple #[.int .i64 0, .bool false]) ∧ w = w' := by
  go_enter Try.func8, Try.ntmps8
  go_wp2_with ((go_at_call 15; (with_reducible refine (has_nil _).mono ?_); rintro e w1 ⟨rfl, rfl⟩))
  go_ret2
  exact ⟨rfl, rfl⟩
theorem parent_nil0 (w : World) : Calls Try.prog 8 #[.pointer none, .int .i64 0] w fun e w' => e = .returned (.tuple #[.int .i64 0, .bool false]) ∧ w = w' := by
  go_enter Try.func8, Try.ntmps8
  go_wp2_with fail
  go_ret2
  exact ⟨rfl, rfl⟩
theorem depth_nil (w : World) : Calls Try.prog 10 #[.pointer none, .int .i64 0] w fun e w' => e = .returned (.int .i64 0) ∧ w = w' := by
  go_enter Try.func10, Try.ntmps10
  go_wp2_with fail
  refine wp_loop_rounds 1 ?_
  simp only [rounds_succ]
  go_wp2_with ((go_at_call 8; (with_reducible refine (parent_nil0 _).mono ?_); rintro e w1 ⟨rfl, rfl⟩))
  go_ret
  exact ⟨rfl, rfl⟩
theorem told_nil (w : World) : Calls Try.prog 11 #[.pointer none] w fun e w' => e = .returned (.string { data := #[] }) ∧ w = w' := by
  go_enter Try.func11, Try.ntmps11
  go_wp2_with ((go_at_call 9; (with_reducible refine (len_nil _).mono ?_); rintro e w1 ⟨rfl, rfl⟩))
  go_ret
  exact ⟨rfl, rfl⟩

set_option maxRecDepth 100000 in
set_option maxHeartbeats 4000000 in
/-- A node that is none. -/
theorem push_no (a lo : Nat) (n : Int) (nd : List Nd) (p : Pl) (w : World) (hT : Tr w lo a nd) (hn : (nd.length : Int) ≤ n ∨ n < 0) :
    Calls Try.prog 4 #[.pointer (some ⟨a, 0, none⟩), .int .i64 n, .agg #[.string p.1, .int .i64 p.2]] w fun e w' => e = .returned (.tuple #[.int .i64 0, .int .i64 1]) ∧ Below w.heap.size w w' := by
  have K74 := Lib.hid (fun (W : World) (hb : Below w.heap.size w W) => by
    have := has_any a lo nd n W (hT.below hb)
    rw [decide_eq_false (by omega)] at this
    exact this)
  clear hT hn
  have b1 : Below w.heap.size w (w.alloc (.cells #[.string p.1, .int .i64 p.2] 24)) := (Below.refl _ w).alloc (Nat.le_refl _) _
  have B1 := Lib.hid b1
  clear b1
  go_enter Try.func4, Try.ntmps4
  go_wp2_with fail
  refine (K74.out _ B1.out).mono ?_
  rintro e W1 ⟨rfl, hW1⟩
  subst hW1
  go_wp2_with fail
  go_ret2
  exact ⟨rfl, B1.out⟩
set_option maxRecDepth 100000 in
set_option maxHeartbeats 4000000 in
/-- A place that may not be. -/
theorem push_bad (a lo n : Nat) (nd : List Nd) (p : Pl) (w : World) (hT : Tr w lo a nd) (hn : n < nd.length) (hm : may p = false) :
    Calls Try.prog 4 #[.pointer (some ⟨a, 0, none⟩), .int .i64 n, .agg #[.string p.1, .int .i64 p.2]] w fun e w' => e = .returned (.tuple #[.int .i64 0, .int .i64 30]) ∧ Below w.heap.size w w' := by
  have K74 := Lib.hid (fun (W : World) (hb : Below w.heap.size w W) => by
    have := has_any a lo nd n W (hT.below hb)
    rw [decide_eq_true ⟨by omega, by omega⟩] at this
    exact this)
  have K50 := Lib.hid (fun (W : World) => by
    have := mayBe_any p W
    rw [hm] at this
    exact this)
  clear hT hn
  have b1 : Below w.heap.size w (w.alloc (.cells #[.string p.1, .int .i64 p.2] 24)) := (Below.refl _ w).alloc (Nat.le_refl _) _
  have B1 := Lib.hid b1
  have hz : (w.alloc (.cells #[.string p.1, .int .i64 p.2] 24)).heap.size = w.heap.size + 1 := by simp
  have HZ := Lib.hid hz
  clear b1 hz
  go_enter Try.func4, Try.ntmps4
  go_wp2_with fail
  refine (K74.out _ B1.out).mono ?_
  rintro e W1 ⟨rfl, hW1⟩
  subst hW1
  go_wp2_with fail
  refine (K50.out _).mono ?_
  rintro e W2 ⟨rfl, b2⟩
  go_wp2_with fail
  go_ret2
  exact ⟨rfl, B1.out.trans (b2.mono (by rw [HZ.out]; omega))⟩
set_option maxRecDepth 100000 in
set_option maxHeartbeats 4000000 in
/-- A stack that is as high as may be. -/
theorem push_deep (a lo n : Nat) (nd : List Nd) (p : Pl) (w : World) (hT : Tr w lo a nd) (hn : n < nd.length) (hm : may p = true) (hd : (stk nd n).length = 64) :
    Calls Try.prog 4 #[.pointer (some ⟨a, 0, none⟩), .int .i64 n, .agg #[.string p.1, .int .i64 p.2]] w fun e w' => e = .returned (.tuple #[.int .i64 0, .int .i64 31]) ∧ Below w.heap.size w w' := by
  have K74 := Lib.hid (fun (W : World) (hb : Below w.heap.size w W) => by
    have := has_any a lo nd n W (hT.below hb)
    rw [decide_eq_true ⟨by omega, by omega⟩] at this
    exact this)
  have K50 := Lib.hid (fun (W : World) => by
    have := mayBe_any p W
    rw [hm] at this
    exact this)
  have K41 := Lib.hid (fun (W : World) (hb : Below w.heap.size w W) => by
    have := depth_any a lo n nd W (hT.below hb) hn
    rw [hd] at this
    exact (this : Calls Try.prog 10 #[.pointer (some ⟨a, 0, none⟩), .int .i64 n] W fun e w' => e = .returned (.int .i64 64) ∧ W = w'))
  clear hT hn
  have b1 : Below w.heap.size w (w.alloc (.cells #[.string p.1, .int .i64 p.2] 24)) := (Below.refl _ w).alloc (Nat.le_refl _) _
  have B1 := Lib.hid b1
  have hz : (w.alloc (.cells #[.string p.1, .int .i64 p.2] 24)).heap.size = w.heap.size + 1 := by simp
  have HZ := Lib.hid hz
  clear b1 hz
  go_enter Try.func4, Try.ntmps4
  go_wp2_with fail
  refine (K74.out _ B1.out).mono ?_
  rintro e W1 ⟨rfl, hW1⟩
  subst hW1
  go_wp2_with fail
  refine (K50.out _).mono ?_
  rintro e W2 ⟨rfl, b2⟩
  have B2 := Lib.hid (B1.out.trans (b2.mono (by rw [HZ.out]; omega)))
  clear b2
  go_wp2_with fail
  refine (K41.out _ B2.out).mono ?_
  rintro e W3 ⟨rfl, hW3⟩
  subst hW3
  go_wp2_with fail
  go_ret2
  exact ⟨rfl, B2.out⟩
set_option maxRecDepth 100000 in
set_option maxHeartbeats 4000000 in
/-- A full tree. -/
theorem push_full (a lo n : Nat) (nd : List Nd) (p : Pl) (w : World) (hT : Tr w lo a nd) (hn : n < nd.length) (hm : may p = true) (hd : (stk nd n).length < 64) (hs : seekN nd (n, p) = none) (hl : nd.length = 4096) :
    Calls Try.prog 4 #[.pointer (some ⟨a, 0, none⟩), .int .i64 n, .agg #[.string p.1, .int .i64 p.2]] w fun e w' => e = .returned (.tuple #[.int .i64 0, .int .i64 3]) ∧ Below w.heap.size w w' := by
  have K74 := Lib.hid (fun (W : World) (hb : Below w.heap.size w W) => by
    have := has_any a lo nd n W (hT.below hb)
    rw [decide_eq_true ⟨by omega, by omega⟩] at this
    exact this)
  have K50 := Lib.hid (fun (W : World) => by
    have := mayBe_any p W
    rw [hm] at this
    exact this)
  have K41 := Lib.hid (fun (W : World) (hb : Below w.heap.size w W) => depth_any a lo n nd W (hT.below hb) hn)
  have HT := Lib.hid hT
  obtain ⟨gn, cn, bm, D, y1, y2, y3, x4, x5⟩ := hT.ex
  have HX := Lib.hid (TX.mk y1 y2 y3)
  clear y1 y2 y3
  have hdi : ¬ ((stk nd n).length : Int) = 64 := by omega
  have hdd : decide ((stk nd n).length = 64) = false := decide_eq_false (by omega)
  have hdb : (((stk nd n).length : Int) == 64) = false := beq_eq_false_iff_ne.2 hdi
  generalize (stk nd n).length = dd at *
  clear hT
  go_enter Try.func4, Try.ntmps4
  have b1 : Below w.heap.size w (w.alloc (.cells #[.string p.1, .int .i64 p.2] 24)) := (Below.refl _ w).alloc (Nat.le_refl _) _
  go_wp2_with fail
  refine (K74.out _ b1).mono ?_
  rintro e W1 ⟨rfl, hW1⟩
  subst hW1
  go_wp2_with fail
  refine (K50.out _).mono ?_
  rintro e W2 ⟨rfl, b2⟩
  have b12 := b1.trans (b2.mono (by simp))
  go_wp2_with fail
  refine (K41.out _ b12).mono ?_
  rintro e W3 ⟨rfl, hW3⟩
  subst hW3
  have hq0 : W2.cell? ⟨w.heap.size, 0, none⟩ = some (.string p.1) := cell_below (w := w.alloc (.cells #[.string p.1, .int .i64 p.2] 24)) (by simp) b2 (Nat.le_refl _)
  have hq1 : W2.cell? ⟨w.heap.size, 1, none⟩ = some (.int .i64 p.2) := cell_below (w := w.alloc (.cells #[.string p.1, .int .i64 p.2] 24)) (by simp) b2 (Nat.le_refl _)
  have hzq : w.heap.size < W2.heap.size := by have := b2.size; simp at this; omega
  go_wp2_with fail
  have b13 : Below w.heap.size w (W2.alloc (.cells #[.int .i64 (n : Int), .string p.1, .int .i64 p.2] 47)) := b12.alloc b12.size _
  have hT3 := HT.out.below b13
  obtain ⟨x1, x2, x3⟩ := HX.out.below b13
  have hsn := seek_none hs
  have hkl := keyL_is n p (by have := hT3.few; omega) hm
  have hhas := x4.2.2 n p (by have := hT3.few; omega) hm (fun i hi => hsn i hi)
  have hce : ∀ W : World, (zeroValue 3).run Try.prog W = .ok (.int .i64 0) W := fun W => by rfl
  have hlook : Hid (∀ k : Nat, (Instr.lookup 49 (.map (some bm)) (.agg #[.int .i64 (n : Int), .string p.1, .int .i64 p.2]) true).run Try.prog ((W2.alloc (.cells #[.int .i64 (n : Int), .string p.1, .int .i64 p.2] 47)).drewN k) = .ok (.tuple #[.int .i64 0, .bool false]) ((W2.alloc (.cells #[.int .i64 (n : Int), .string p.1, .int .i64 p.2] 47)).drewN k)) := Lib.hid (fun k => by
    have x3' : ((W2.alloc (.cells #[.int .i64 (n : Int), .string p.1, .int .i64 p.2] 47)).drewN k).ownsMap Try.prog 47 (plainElem Try.prog 3) bm nd.length D := x3
    obtain ⟨v, ps, hrun, hv⟩ := x3'.look_ok keyed140 Try.underlying49 (hce _) (plainElem_int Try.underlying3 (by decide : (Lit.int .i64 0).wf = true)) hkl
    rw [Maps.atKey_of_not_has hhas] at hv
    obtain ⟨c, rfl, hc, _⟩ := plainElem_int_inv Try.underlying3 hv
    rw [hhas] at hrun
    simp only [Prod.mk.injEq, DataW.lit.injEq, Lit.int.injEq, true_and] at hc
    rw [hc.1]
    exact hrun)
  have cm : (W2.alloc (.cells #[.int .i64 (n : Int), .string p.1, .int .i64 p.2] 47)).cell? ⟨a, 1, none⟩ = some (.map (some bm)) := by rw [cell_of_row _ a 1 _ 51 (0, 0) x1]; rfl
  have ca : (W2.alloc (.cells #[.int .i64 (n : Int), .string p.1, .int .i64 p.2] 47)).cell? ⟨a, 0, none⟩ = some (.slice (some ⟨gn, 0, none⟩) nd.length cn) := by rw [cell_of_row _ a 0 _ 51 (0, 0) x1]; rfl
  have q0 : (W2.alloc (.cells #[.int .i64 (n : Int), .string p.1, .int .i64 p.2] 47)).cell? ⟨w.heap.size, 0, none⟩ = some (.string p.1) := cell_below hq0 ((Below.refl _ W2).alloc (Nat.le_refl _) _) (Nat.le_refl _)
  have k0 : (W2.alloc (.cells #[.int .i64 (n : Int), .string p.1, .int .i64 p.2] 47)).ownsRow W2.heap.size 47 3 (.slice (some ⟨W2.heap.size, 0, none⟩) 1 1) 1 [.int .i64 (n : Int), .string p.1, .int .i64 p.2] :=
    ⟨rfl, .inr ⟨W2.heap.size, 1, #[.int .i64 (n : Int), .string p.1, .int .i64 p.2], rfl, Nat.le_refl _, heap_alloc_new W2 _, Nat.le_refl _, by decide, rfl, rfl⟩⟩
  have HLK := hlook.out
  have hmbw : w.heap.size < W2.heap.size := hzq
  clear hlook x1 x2 x3 hT3 b1 b2 b12 hq0 hq1 hce
  generalize hW3 : W2.alloc (.cells #[.int .i64 (n : Int), .string p.1, .int .i64 p.2] 47) = W3 at *
  clear hW3
  generalize W2.heap.size = mb at *
  have m0 : W3.cell? ⟨mb, 0, none⟩ = some (.int .i64 (n : Int)) := k0.cellAt 0 (by omega)
  have m1 : W3.cell? ⟨mb, 1, none⟩ = some (.string p.1) := k0.cellAt 1 (by omega)
  have m2 : W3.cell? ⟨mb, 2, none⟩ = some (.int .i64 p.2) := k0.cellAt 2 (by omega)
  go_quiet (fail)
  clear HLK m0 m1 m2
  have e4 := below_drewN W3.heap.size W3 nq (Nat.le_refl _)
  have k4 := own_below k0 e4
  have b14 := b13.trans (e4.mono b13.size)
  have ca4 := cell_below ca e4 (Nat.le_refl _)
  have q04 := cell_below q0 e4 (Nat.le_refl _)
  have hgoal : True := trivial
  clear k0 b13 ca cm q0 e4
  generalize W3.drewN nq = W4 at *
  rw [hl] at ca4
  have B14 := Lib.hid b14
  clear b14 q04 k4
  go_wp2_with fail
  go_ret2
  exact ⟨rfl, B14.out⟩
end Go.Proofs.Ytfhnhilnjcfpkaa
