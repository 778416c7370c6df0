/-
  No book: Which and Shared; no face has an empty name.
-/
import Derived.Test.YtgmibdcefljceaaDoorB
namespace Go.Proofs.YtgmibdcefljceaaDoor
open Go.ChangeShapes Go.WideShapes Go.ChangeAt Go.RowKit Go.Shelf
set_option linter.unusedVariables false
attribute [local go_sem] Oper.semAt_some
theorem with_frm {α : Type} {H : Prop} (z : α → Act) (h : ∀ fr, fr = z → H) : H := h z rfl
theorem which_nil (w : World) : Calls Tryd.prog 8 #[.pointer none, .int .u8 99] w fun x w' => x = .returned (.tuple #[.slice none 0 0, .int .i64 2]) ∧ Below w.heap.size w w' := by
  go_enter Tryd.func8, Tryd.ntmps8
  go_wp2
  go_ret2
  exact ⟨rfl, (Below.refl _ w).alloc (Nat.le_refl _) _⟩
theorem shared_nil (s : Option Addr) (k c : Nat) (w : World) : Calls Tryd.prog 9 #[.pointer none, .slice s k c] w fun x w' => x = .returned (.tuple #[.int .u32 0, .int .i64 2]) ∧ Below w.heap.size w w' := by
  go_enter Tryd.func9, Tryd.ntmps9
  go_wp2
  go_ret2
  exact ⟨rfl, (Below.refl _ w)⟩
theorem each_all (w : World) : Calls Tryd.prog 19 #[.int .u32 1048574] w fun e w' => e = .returned (.func (.func 45) #[] #[.pointer (some ⟨w.heap.size, 0, none⟩)]) ∧ w' = w.alloc (.cells #[.int .u32 1048574] 29) := by
  have hmf : ∀ (fn : Fn) (first cap : Array Value) (w : World), (Instr.makeFunc fn first cap).run Tryd.prog w = .ok (.func fn first cap) w := fun _ _ _ _ => rfl
  go_enter Tryd.func19, Tryd.ntmps19
  go_wp2
  go_ret
  exact ⟨rfl, rfl⟩
theorem nk_own (B : Nat) (hB : 0 < B) {W0 : World} : OwnFrom B (fun (_ : List Nat) W => NK W) := by
  intro s X Y row h hg hr i r hn
  obtain ⟨t, e, hc⟩ := h i r hn
  refine ⟨t, e, (World.cell?_of_block (a := ⟨0, i, none⟩) (hg.block 0 h.lt (fun e => ?_))).trans hc⟩
  have := (hr 0 e.symm).1
  omega
set_option maxRecDepth 100000 in
set_option maxHeartbeats 4000000 in
theorem named_none (w : World) (hK : NK w) : Calls Tryd.prog 10 #[.string { data := #[] }] w fun x w' => x = .returned (.tuple #[.int .u8 0, .bool false]) ∧ Below w.heap.size w w' := by
  have h0w := hK.lt
  refine (callsIn_wide (n := 10)).1 ?_
  refine callsIn_of_wp_marks Tryd.func10 rfl trivial ?_ rfl
  simp only [Tryd.ntmps10, List.size_toArray, List.length_cons, List.length_nil, Nat.reduceAdd, Nat.reduceSub, Array.replicate_succ, Array.replicate_zero, List.push_toArray, List.append_toArray, List.nil_append, List.cons_append]
  refine wpIn_wide.2 ?_
  go_wp2_with ((go_at_call 19; (with_reducible refine (each_all _).mono ?_); rintro e w1 ⟨rfl, rfl⟩))
  have b0 := (((Boxed.new w 9 (.string { data := #[] })).alloc (.cells #[.int .u8 0] 5)).alloc (.cells #[.bool false] 4)).alloc (.cells #[.int .u32 1048574] 29)
  have b1 := ((Boxed.new (w.alloc (.cells #[.string { data := #[] }] 9)) 5 (.int .u8 0)).alloc (.cells #[.bool false] 4)).alloc (.cells #[.int .u32 1048574] 29)
  have b2 := (Boxed.new ((w.alloc (.cells #[.string { data := #[] }] 9)).alloc (.cells #[.int .u8 0] 5)) 4 (.bool false)).alloc (.cells #[.int .u32 1048574] 29)
  have b3 := Boxed.new (((w.alloc (.cells #[.string { data := #[] }] 9)).alloc (.cells #[.int .u8 0] 5)).alloc (.cells #[.bool false] 4)) 29 (.int .u32 1048574)
  simp only [World.size_alloc] at b1 b2 b3
  have hB0 : Below w.heap.size w ((((w.alloc (.cells #[.string { data := #[] }] 9)).alloc (.cells #[.int .u8 0] 5)).alloc (.cells #[.bool false] 4)).alloc (.cells #[.int .u32 1048574] 29)) := ((((Below.refl _ w).alloc (Nat.le_refl _) _).alloc (by simp) _).alloc (by simp; omega) _).alloc (by simp; omega) _
  have hz0 : ((((w.alloc (.cells #[.string { data := #[] }] 9)).alloc (.cells #[.int .u8 0] 5)).alloc (.cells #[.bool false] 4)).alloc (.cells #[.int .u32 1048574] 29)).heap.size = w.heap.size + 4 := by simp
  obtain ⟨W0, hW0⟩ : ∃ W0, (((w.alloc (.cells #[.string { data := #[] }] 9)).alloc (.cells #[.int .u8 0] 5)).alloc (.cells #[.bool false] 4)).alloc (.cells #[.int .u32 1048574] 29) = W0 := ⟨_, rfl⟩
  rw [hW0] at b0 b1 b2 b3 hB0 hz0 ⊢
  clear hW0
  have hK0 := hK.below hB0
  refine (wpIn_wide (n := 10)).1 ?_
  apply with_frm (α := Nat)
  intro fr hfr
  refine wpIn_range_wide (k := 0) rfl (by decide) (gf := 45) (lb := #[.pointer (some ⟨w.heap.size + 1 + 1 + 1, 0, none⟩)]) rfl trivial (enters_of Tryd.func45 (by kernel_rfl) rfl)
    (fc_w (10 - 1) (by decide) (w.heap.size + 1 + 1 + 1) (w.heap.size + 4) W0 (by omega) (by omega) b3.cell) (fun h k => h.trans k) (fun W l o o' hl h hc hw => belowK_b (w := W0) (by omega) W l o o' hl h hc hw) (fun _ => rfl)
    (fun _ W => (Boxed W w.heap.size 9 (.string { data := #[] }) ∧ Boxed W (w.heap.size + 1) 5 (.int .u8 0) ∧ Boxed W (w.heap.size + 1 + 1) 4 (.bool false)) ∧ NK W ∧ Below w.heap.size w W)
    (fun _ _ _ => False)
    (fun x a' _ => a' = fr x)
    ?own1
    (fun _ _ _ _ _ hs _ _ => hs)
    (fun _ _ _ _ _ _ h _ _ => h)
    ⟨⟨b0, b1, b2⟩, hK0, hB0⟩
    ?assign ?body ?done ?stop
  case own1 =>
    rintro pre X Y row ⟨⟨h0, h1, h2⟩, h3, h4⟩ hg hr
    have f : ∀ b o, X.heap[b]? = some o → b < W0.heap.size → Y.heap[b]? = some o := fun b o h hlt => (hg.block b (Array.getElem?_eq_some_iff.1 h).1 (fun e => by have := (hr _ e.symm).1; omega)).trans h
    exact ⟨⟨f _ _ h0 (by omega), f _ _ h1 (by omega), f _ _ h2 (by omega)⟩, nk_own (W0 := W0) W0.heap.size (by omega) [] X Y row h3 hg hr, ownFrom_below (β := Unit) (Nat.le_refl _) (by omega) () X Y row h4 hg hr⟩
  case assign =>
    intro l pre x W K hI hz hKK
    rw [hfr] at hKK
    dsimp only [encF]
    gi_wp2
    exact hKK _ _ (Same.refl _ _ _) (Nat.le_refl _) (Below.refl _ _) hI rfl
  case body =>
    rintro l pre x a' W ⟨⟨c0, c1, c2⟩, hN, hB⟩ hpx hNB rfl
    rw [hfr]
    clear hfr fr
    obtain ⟨hx1, hx2⟩ := fc_mem 19 (by omega) x (hpx.subset (by simp))
    obtain ⟨s, hs, hc⟩ := hN.some x hx1 hx2
    have k0 := c0.cell
    have hx3 : (0 : Int) ≤ (x : Int) := by omega
    have hx4 : (x : Int) < 20 := by omega
    have hmx : Tryd.prog.follows .mixedOrders = true := by kernel_rfl
    have HE := Lib.hid (And.intro (And.intro c0 (And.intro c1 c2)) (And.intro hN hB))
    clear c0 c1 c2 hN hB
    gi_wp2_with fail
    gi_region_with_o (fail)
    all_goals (try gi_wp2)
    all_goals
      obtain ⟨hC, hN, hB⟩ := HE.out
      exact ⟨Same.drew (Same.refl _ _ _), Nat.le_refl _, (Below.refl _ _).drew, hC, hN.below ((Below.refl _ _).drew), hB.drew⟩
  case stop =>
    rintro D c pre W _ hpx h
    exact h.elim
  case done =>
    rintro D xs W hD rfl ⟨⟨c0, c1, c2⟩, hN, hB⟩ hk
    have k1 := c1.cell
    have k2 := c2.cell
    have f1 := c1.frozen
    have f2 := c2.frozen
    have hs := hB0.size
    have hlt := c2.lt
    have e1 : Boxed ((W.setCell ⟨w.heap.size + 1, 0, none⟩ (.int .u8 0)).setCell ⟨w.heap.size + 1 + 1, 0, none⟩ (.bool false)) (w.heap.size + 1) 5 (.int .u8 0) := (c1.set _).other (by omega) _
    have e2 : Boxed ((W.setCell ⟨w.heap.size + 1, 0, none⟩ (.int .u8 0)).setCell ⟨w.heap.size + 1 + 1, 0, none⟩ (.bool false)) (w.heap.size + 1 + 1) 4 (.bool false) := (c2.other (by omega) _).set _
    have hBl : Below w.heap.size w ((W.setCell ⟨w.heap.size + 1, 0, none⟩ (.int .u8 0)).setCell ⟨w.heap.size + 1 + 1, 0, none⟩ (.bool false)) := ((hB.setCell (p := ⟨w.heap.size + 1, 0, none⟩) (Nat.le_add_right _ _) _).setCell (p := ⟨w.heap.size + 1 + 1, 0, none⟩) (by show w.heap.size ≤ w.heap.size + 1 + 1; omega) _)
    have eK : ((W.setCell ⟨w.heap.size + 1, 0, none⟩ (.int .u8 0)).setCell ⟨w.heap.size + 1 + 1, 0, none⟩ (.bool false)).heap[D]? = some (.deferred (some [])) := (Below.heap_setCell _ _ _ D (by show D ≠ w.heap.size + 1 + 1; omega)).trans ((Below.heap_setCell W _ _ D (by show D ≠ w.heap.size + 1; omega)).trans hk)
    have X := Lib.hid (And.intro e1 (And.intro e2 (And.intro hBl eK)))
    clear e1 e2 hBl eK hk hN hB
    dsimp only
    go_wp2_with fail
    obtain ⟨e1, e2, hBl, eK⟩ := X.out
    refine ⟨by simp, .inl ⟨_, _, rfl, run_takeDeferred eK, ?_⟩⟩
    have g1 := (e1.kept (grownBy_putObj' _ D (.deferred none)) (fun e => by cases e; rw [show _ = _ from e1] at eK; cases eK)).cell
    have g2 := (e2.kept (grownBy_putObj' _ D (.deferred none)) (fun e => by cases e; rw [show _ = _ from e2] at eK; cases eK)).cell
    exact ⟨.tuple #[.int .u8 0, .bool false], by simp [results, Tryd.results10, go_sem, g1, g2], rfl, hBl.trans (belowK_b (w := w) (Nat.le_refl _) _ D _ _ (by omega) eK rfl rfl)⟩
end Go.Proofs.YtgmibdcefljceaaDoor
