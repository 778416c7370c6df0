/-
  kept and spoil.
-/
import Derived.Test.YtocdinaomkmcbaaDoorD
import Derived.Laws.StructEq
namespace Go.Proofs.YtocdinaomkmcbaaDoor
open Go.ChangeShapes Go.WideShapes Go.ChangeAt Go.RowKit
set_option linter.unusedVariables false

theorem below_drewN (B : Nat) (w : World) (n : Nat) (h : B ≤ w.heap.size) : Below B w (w.drewN n) := ⟨rfl, rfl, rfl, Nat.le_refl _, fun _ _ => rfl⟩
theorem mark_cells {w : World} {B g cap : Nat} {l : List Pl} (h : w.ownsRow B 48 2 (.slice (some ⟨g, 0, none⟩) (l.length + 1) cap) (l.length + 1) (flat (l ++ [markP]))) :
    At w (some ⟨g, 0, none⟩) l ∧ w.cell? ⟨g, l.length * 2, none⟩ = some (.string ⟨#[35]⟩) ∧ w.cell? ⟨g, l.length * 2 + 1, none⟩ = some (.int .i64 7) := by
  have hf := flat_get (l ++ [markP]) l.length markP (by simp)
  refine ⟨at_own h (fun j u hu => ?_) (by omega), ?_, ?_⟩
  · rw [flat_snoc, List.getElem?_append_left (List.getElem?_eq_some_iff.1 hu).1]; exact hu
  · rw [h.cellAt _ (by omega)]; exact hf.1
  · rw [h.cellAt _ (by omega)]; exact hf.2

set_option maxRecDepth 100000 in
set_option maxHeartbeats 3200000 in
theorem kept_any (A : Option Addr) (B g cap ca : Nat) (l : List Pl) (w : World) (hA : At w A l) (hn : l.length ≤ 5864062014634)
    (hown : w.ownsRow B 48 2 (.slice (some ⟨g, 0, none⟩) (l.length + 1) cap) (l.length + 1) (flat (l ++ [markP]))) :
    Calls Tryd.prog 18 #[.slice (some ⟨g, 0, none⟩) l.length cap, .slice A l.length ca] w fun e w' => e = .returned (.bool true) ∧ Below w.heap.size w w' := by
  obtain ⟨m0, m1, m2⟩ := mark_cells hown
  obtain ⟨hc1, hc2⟩ := own_cap hown
  have lg := World.block_lt_of_cell? w _ m1
  have H1 := Lib.hid (ref_any A ca l w hA hn)
  have H2 := Lib.hid (fun (W : World) (hb : Below w.heap.size w W) (A' : Option Addr) (c' : Nat) (h : At W A' l) => same_any (some ⟨g, 0, none⟩) A' cap c' l W (m0.below hb (Nat.le_refl _)) h hn)
  have HF := Lib.hid (fun (W : World) (v : Value) (h : W.ownsRow w.heap.size 102 2 v l.length (flat l)) => own_form h)
  clear hA m0 hown
  generalize l.length = n at *
  have hc3 : n ≤ cap := by omega
  have hc4 : (n : Int) + 1 ≤ (cap : Int) := by omega
  go_enter Tryd.func18, Tryd.ntmps18
  go_wp2_with fail
  refine H1.out.mono ?_
  rintro e W ⟨v, rfl, ho, hB⟩
  obtain ⟨A', c', rfl, ha, _⟩ := HF.out _ _ ho
  have d0 := (hB.cell (p := ⟨g, n * 2, none⟩) lg).trans m1
  have d1 := (hB.cell (p := ⟨g, n * 2 + 1, none⟩) lg).trans m2
  clear m1 m2
  go_wp2_with fail
  refine (H2.out _ hB _ _ ha).mono ?_
  rintro e W2 ⟨rfl, m, rfl⟩
  clear ha ho
  go_wp2
  go_ret
  exact ⟨by simp, hB.trans (below_drewN _ _ _ hB.size)⟩
theorem own_any_store {w : World} {B e g n cap : Nat} {xs : List Value} (h : w.ownsRow B e 2 (.slice (some ⟨g, 0, none⟩) n cap) n xs) (j : Nat) (x y : Value) :
    ((w.setCell ⟨g, j, none⟩ x).setCell ⟨g, j + 1, none⟩ y).ownsRow B e 2 (.slice (some ⟨g, 0, none⟩) n cap) n ((xs.set j x).set (j + 1) y) ∧ w.grownBy ((w.setCell ⟨g, j, none⟩ x).setCell ⟨g, j + 1, none⟩ y) (some g) := by
  obtain ⟨h1, g1⟩ := h.stored j x
  obtain ⟨h2, g2⟩ := h1.stored (j + 1) y
  exact ⟨h2, grown_trans g1 g2 (fun j e => .inl e)⟩

set_option maxRecDepth 100000 in
set_option maxHeartbeats 3200000 in
theorem spoil_nil (w : World) (B : Nat) (hB : B ≤ w.heap.size) :
    Calls Tryd.prog 22 #[.slice none 0 0] w fun e w' => (∃ u, e = .returned u) ∧ w.grownBy w' none := by
  obtain ⟨i0, hi0, hz0, hz1, hz2⟩ := info_parts info48
  go_enter Tryd.func22, Tryd.ntmps22
  go_wp2
  refine wp_loop_rounds 1 ?_
  simp only [rounds_succ]
  go_wp2
  go_loopw [0, 3] (fun v t wr => ∃ k : Nat, t = .int .i64 k ∧ k ≤ 40 ∧ (∃ zs, wr.ownsRow B 48 2 v k zs) ∧ (∀ j, v.ownBlock = some j → (none : Option Nat) = some j ∨ w.heap.size ≤ j) ∧ w.grownBy wr (none : Option Nat)) (fun _ t _ => 40 - (intOf t).toNat)
  case atStart => exact ⟨0, rfl, by omega, ⟨_, World.ownsRow_nil _ _ _ _⟩, (fun j e => by cases e), World.grownBy.refl _ _⟩
  case round =>
    obtain ⟨k, rfl, hk, ⟨zs, ho⟩, hrow, hg⟩ := hrel
    have hz := hg.size
    by_cases hlt : k < 40
    · go_wp2_with (at_builtin; refine wpList_append_lies _ rfl _ _ _ rfl B 48 i0 _ 2 24 Tryd.underlying23 hi0 hz0 hz1 hz2 rfl (by omega) _ k zs rfl (ho.alloc _) ⟨wr.heap.size, 0, none⟩ 1 1 (cel (⟨#[94]⟩, 0)) rfl rfl (World.news_of_block (cs := #[.string ⟨#[94]⟩, .int .i64 0]) (t := 48) (fr := (0, 0)) (heap_alloc_new wr _)) (by simp [cel, Value.oneCell']) (by omega) (by unfold maxLen; omega) (by omega) (by simp; omega) (wr.heap.size + 1) (by simp) ?_; intro gg cap' w1 hown1 hgrow hat hlt1)
      go_roundw
      case rel =>
        refine ⟨k + 1, by go_num, by omega, ⟨_, hown1⟩, fun j e => ?_, grown_trans (grown_trans hg (World.grownBy_alloc wr _ none) (fun j e => by cases e)) hgrow (fun j e => hrow j e)⟩
        cases e
        rcases hat with h | h
        · exact hrow _ h
        · exact .inr (by simp at h ⊢; omega)
      case measure => simp [intOf]; omega
    · go_wp2
      go_end0
      exact ⟨⟨_, rfl⟩, hg⟩

set_option maxRecDepth 100000 in
set_option maxHeartbeats 3200000 in
theorem spoil_own (g cap B n : Nat) (xs : List Value) (w : World) (hown : w.ownsRow B 48 2 (.slice (some ⟨g, 0, none⟩) n cap) n xs) (hB : B ≤ w.heap.size) (hn : n ≤ 5864062014634) :
    Calls Tryd.prog 22 #[.slice (some ⟨g, 0, none⟩) n cap] w fun e w' => (∃ u, e = .returned u) ∧ w.grownBy w' (some g) := by
  obtain ⟨i0, hi0, hz0, hz1, hz2⟩ := info_parts info48
  go_enter Tryd.func22, Tryd.ntmps22
  go_wp2
  go_loopw [2] (fun t wr => ∃ k : Nat, t = .int .i64 k ∧ k ≤ n ∧ (∃ ys, wr.ownsRow B 48 2 (.slice (some ⟨g, 0, none⟩) n cap) n ys) ∧ w.grownBy wr (some g)) (fun t _ => n - (intOf t).toNat)
  case atStart => exact ⟨0, rfl, by omega, ⟨_, hown⟩, World.grownBy.refl _ _⟩
  case round =>
    obtain ⟨k, rfl, hk, ⟨ys, ho⟩, hg⟩ := hrel
    by_cases hlt : k < n
    · have hl := ho.1
      have c0 := ho.cellAt (k * 2) (by omega)
      have c1 := ho.cellAt (k * 2 + 1) (by omega)
      have f0 := ho.frozenAt (k * 2)
      have f1 := ho.frozenAt (k * 2 + 1)
      rw [List.getElem?_eq_getElem (by omega)] at c0 c1
      obtain ⟨x0, hx0⟩ : ∃ x, ys[k * 2] = x := ⟨_, rfl⟩
      obtain ⟨x1, hx1⟩ : ∃ x, ys[k * 2 + 1] = x := ⟨_, rfl⟩
      rw [hx0] at c0
      rw [hx1] at c1
      clear hx0 hx1 hl
      have hk0 : (0 : Int) ≤ (k : Int) := Int.natCast_nonneg _
      have hk1 : (k : Int) < (n : Int) := by omega
      go_wp2
      go_roundw
      case rel => exact ⟨k + 1, by go_num, by omega, ⟨_, (own_any_store ho (k * 2) (.string ⟨#[126]⟩) (.int .i64 0)).1⟩, grown_trans hg (own_any_store ho (k * 2) (.string ⟨#[126]⟩) (.int .i64 0)).2 (fun j e => .inl e)⟩
      case measure => simp [intOf]; omega
    · have hkn : k = n := by omega
      subst hkn
      clear hown
      have hg0 := hg
      have ho0 := ho
      go_wp2
      go_loopw [0, 3] (fun v t wr => ∃ i : Nat, t = .int .i64 i ∧ i ≤ 40 ∧ (∃ zs, wr.ownsRow B 48 2 v (k + i) zs) ∧ (∀ j, v.ownBlock = some j → (some g : Option Nat) = some j ∨ w.heap.size ≤ j) ∧ w.grownBy wr (some g : Option Nat)) (fun _ t _ => 40 - (intOf t).toNat)
      case atStart => exact ⟨0, rfl, by omega, ⟨_, ho0⟩, fun j e => .inl e, hg0⟩
      case round =>
        obtain ⟨i, rfl, hi, ⟨zs, ho⟩, hrow, hg⟩ := hrel
        have hz := hg.size
        by_cases hlt : i < 40
        · go_wp2_with (at_builtin; refine wpList_append_lies _ rfl _ _ _ rfl B 48 i0 _ 2 24 Tryd.underlying23 hi0 hz0 hz1 hz2 rfl (by omega) _ (k + i) zs rfl (ho.alloc _) ⟨wr.heap.size, 0, none⟩ 1 1 (cel (⟨#[94]⟩, 0)) rfl rfl (World.news_of_block (cs := #[.string ⟨#[94]⟩, .int .i64 0]) (t := 48) (fr := (0, 0)) (heap_alloc_new wr _)) (by simp [cel, Value.oneCell']) (by omega) (by unfold maxLen; omega) (by omega) (by simp; omega) (wr.heap.size + 1) (by simp) ?_; intro gg cap' w1 hown1 hgrow hat hlt1)
          go_roundw
          case rel =>
            refine ⟨i + 1, by go_num, by omega, ⟨_, hown1⟩, fun j e => ?_, grown_trans (grown_trans hg (World.grownBy_alloc wr _ none) (fun j e => by cases e)) hgrow (fun j e => hrow j e)⟩
            cases e
            rcases hat with h | h
            · exact hrow _ h
            · exact .inr (by simp at h ⊢; omega)
          case measure => simp [intOf]; omega
        · go_wp2
          go_end0
          exact ⟨⟨_, rfl⟩, hg⟩

theorem spoil_any (v : Value) (B n : Nat) (xs : List Value) (w : World) (hown : w.ownsRow B 48 2 v n xs) (hB : B ≤ w.heap.size) (hn : n ≤ 5864062014634) :
    Calls Tryd.prog 22 #[v] w fun e w' => (∃ u, e = .returned u) ∧ w.grownBy w' v.ownBlock := by
  rcases hown.2 with ⟨rfl, rfl⟩ | ⟨g, cap, cur, rfl, _⟩
  · exact spoil_nil w B hB
  · exact spoil_own g cap B n xs w hown hB hn
end Go.Proofs.YtocdinaomkmcbaaDoor
