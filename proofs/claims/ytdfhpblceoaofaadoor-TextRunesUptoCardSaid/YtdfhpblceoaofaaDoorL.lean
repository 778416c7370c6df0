/-
  Appending to a row of numbers: the row that comes of it is the old one, or a new one.
-/
import Derived.Test.YtdfhpblceoaofaaDoorK
import Derived.ArgAppend
namespace Go.Proofs.YtdfhpblceoaofaaDoor
open Go.ChangeShapes Go.WideShapes Go.ChangeAt Go.RowKit Go.Shelf
set_option linter.unusedVariables false

theorem run_apart (w : World) (base : Nat) (ty : TypeId) (v : Value) (k : Nat) (xs : List Value) (hown : w.ownsRow base 3 1 v k xs)
    (ad : Addr) (m c : Nat) (news : List Value) (hn : news.length = m * 1) (hc : ∀ j u, news[j]? = some u → w.cell? (ad.add j) = some u) (h1c : ∀ u ∈ news, u.oneCell' = true)
    (b1 : k + m ≤ maxLen) (b2 : (k + m) * 8 ≤ 140737488355328) (hbase : base ≤ w.heap.size) :
    ∃ v' w', (Builtin.append_ #[29, 29] ty #[v, .slice (some ad) m c]).run Tryd.prog w = .ok v' w' ∧ w'.ownsRow base 3 1 v' (k + m) (xs ++ news) ∧ w.grownBy w' v.ownBlock ∧
      (∀ g, v'.ownBlock = some g → v.ownBlock = some g ∨ w.heap.size ≤ g) := by
  obtain ⟨i0, hi, hz0, hz1, hz2⟩ := info_parts info3
  rcases hown.2 with ⟨rfl, rfl⟩ | ⟨g, cap, cur, rfl, hbg, hg, hnc, hcm, hcs, htake⟩
  · obtain rfl : xs = [] := List.eq_nil_of_length_eq_zero (by simpa using hown.1)
    obtain ⟨v', w', hr, ho, hgr, _⟩ := run_append_own (P := Tryd.prog) w w.heap.size 29 ty 3 i0 (.int .i64 0) 1 8 Tryd.underlying29 hi hz0 hz1 hz2 rfl (by decide) (.slice none 0 0) 0 [] (World.ownsRow_nil w _ 3 1) ad m c news hn hc h1c b1 b2 (Nat.le_refl _)
    exact ⟨v', w', hr, own_base ho hbase, hgr, fun g hg => .inr (ho.lt g hg).1⟩
  · by_cases hroom : k + m ≤ cap
    · obtain ⟨w', hr, ho, hgr⟩ := run_append_fits (P := Tryd.prog) w base 29 ty 3 i0 1 Tryd.underlying29 hi hz1 g k cap xs hown ad m c news hn hc h1c hroom
      exact ⟨_, w', hr, ho, hgr, fun j hj => .inl hj⟩
    · obtain ⟨v', w', hr, ho, hgr⟩ := run_append_arg_grows (P := Tryd.prog) w 29 ty 3 i0 (.int .i64 0) 1 8 Tryd.underlying29 hi hz0 hz1 hz2 rfl (by decide) ⟨g, 0, none⟩ k cap xs (by have := hown.1; simpa using this) (hown.cells rfl) ad m c news hn hc (by omega) b1 b2
      exact ⟨v', w', hr, own_base ho hbase, ⟨hgr.os, hgr.tape, hgr.output, hgr.size, fun j hj _ => hgr.block j hj (by simp)⟩, fun j hj => .inr (ho.lt j hj).1⟩

theorem append_apart {F : Fence} {n : Nat} (w : World) {ops : Array Oper} {rest : List Oper} {o : Oper} {a : Act} {Q : Exit → Act → World → Prop}
    (hgd : o.guard = none) (s x : Operand) (hop : o.op = .call { callee := .builtin .append, args := #[s, x], argTypes := #[29, 29] })
    (base : Nat) (v : Value) (k : Nat) (xs : List Value) (hs : a.eval s = v) (hown : w.ownsRow base 3 1 v k xs)
    (ad : Addr) (m c : Nat) (news : List Value) (hx : a.eval x = .slice (some ad) m c) (hn : news.length = m * 1) (hc : ∀ j u, news[j]? = some u → w.cell? (ad.add j) = some u) (h1c : ∀ u ∈ news, u.oneCell' = true)
    (b1 : k + m ≤ maxLen) (b2 : (k + m) * 8 ≤ 140737488355328) (hbase : base ≤ w.heap.size)
    (hK : ∀ v' w', w'.ownsRow base 3 1 v' (k + m) (xs ++ news) → w.grownBy w' v.ownBlock → (∀ g, v'.ownBlock = some g → v.ownBlock = some g ∨ w.heap.size ≤ g) → wpListIn F n Tryd.prog ops Q rest (a.put o.dst v') w') :
    wpListIn F n Tryd.prog ops Q (o :: rest) a w := by
  refine wpListIn_plain hgd fun K hK' => ?_
  obtain ⟨v', w', hrun, r1, r2, r3⟩ := run_apart w base o.type v k xs hown ad m c news hn hc h1c b1 b2 hbase
  unfold Oper.wpIn
  refine ⟨?_, ?_⟩
  · simp [Oper.about, hop, resolve, Target.leads, Sem.run_pure]
  · rw [Oper.semAt_plain F _ _ (by rw [hop]; intro c hc'; cases hc')]
    simp [execOp, hop, resolve, invoke, builtin, hs, hx, hrun, Result.andThen]
    exact hK' _ _ (hK v' w' r1 r2 r3)

/-- What stands at the end of TextRunes: two rows of numbers, the result's box, the two blocks for the loops' deferred calls. -/
structure Tail (w : World) (B0 BB D0 D1 : Nat) (v0 vb : Value) (xs : List Int) (W : World) : Prop where
  h0 : W.ownsRow B0 3 1 v0 xs.length (xs.map (Value.int .i64))
  hb : W.ownsRow BB 3 1 vb xs.length (xs.map (Value.int .i64))
  box : Boxed W (w.heap.size + 1) 4 (.bool false)
  d0 : W.heap[D0]? = some (.deferred (some []))
  d1 : W.heap[D1]? = some (.deferred (some []))
  below : Below w.heap.size w W
/-- A block that is none of these. -/
def Free (w : World) (D0 D1 : Nat) (v0 vb : Value) (g : Nat) : Prop := v0.ownBlock ≠ some g ∧ vb.ownBlock ≠ some g ∧ w.heap.size + 2 ≤ g ∧ g ≠ D0 ∧ g ≠ D1
theorem Tail.step {w : World} {B0 BB D0 D1 : Nat} {v0 vb : Value} {xs : List Int} {W W' : World} {row : Option Nat} (h : Tail w B0 BB D0 D1 v0 vb xs W) (hg : W.grownBy W' row) (hr : ∀ g, row = some g → Free w D0 D1 v0 vb g) : Tail w B0 BB D0 D1 v0 vb xs W' where
  h0 := h.h0.kept hg (by
    cases row with
    | none => cases hv : v0.ownBlock with
      | none => exact .inl rfl
      | some g => exact .inr (by simp)
    | some g => exact .inr (hr g rfl).1)
  hb := h.hb.kept hg (by
    cases row with
    | none => cases hv : vb.ownBlock with
      | none => exact .inl rfl
      | some g => exact .inr (by simp)
    | some g => exact .inr (hr g rfl).2.1)
  box := h.box.kept hg (fun e => by have := (hr _ e.symm).2.2.1; omega)
  d0 := (hg.block D0 (Array.getElem?_eq_some_iff.1 h.d0).1 (fun e => (hr _ e.symm).2.2.2.1 rfl)).trans h.d0
  d1 := (hg.block D1 (Array.getElem?_eq_some_iff.1 h.d1).1 (fun e => (hr _ e.symm).2.2.2.2 rfl)).trans h.d1
  below := h.below.grown hg h.below.size (fun g e => by have := (hr g e).2.2.1; omega)
theorem Tail.new {w : World} {B0 BB D0 D1 : Nat} {v0 vb : Value} {xs : List Int} {W : World} {g : Nat} (h : Tail w B0 BB D0 D1 v0 vb xs W) (hg : W.heap.size ≤ g) : Free w D0 D1 v0 vb g :=
  ⟨fun e => by have := (h.h0.lt g e).2; omega, fun e => by have := (h.hb.lt g e).2; omega, by have := h.box.lt; omega, by have := (Array.getElem?_eq_some_iff.1 h.d0).1; omega, by have := (Array.getElem?_eq_some_iff.1 h.d1).1; omega⟩
theorem Reads.drewN {w : World} {v : Value} {xs : List Int} (h : Reads w v xs) (m : Nat) : Reads (w.drewN m) v xs := h.below ((Below.refl _ w).trans ⟨rfl, rfl, rfl, Nat.le_refl _, fun _ _ => rfl⟩)
theorem own_drewN {w : World} {B e size k : Nat} {v : Value} {xs : List Value} (h : w.ownsRow B e size v k xs) (m : Nat) : (w.drewN m).ownsRow B e size v k xs := own_below h ((Below.refl _ w).trans ⟨rfl, rfl, rfl, Nat.le_refl _, fun _ _ => rfl⟩)
theorem own_store {w : World} {B k g cap : Nat} {ys : List Int} (h : w.ownsRow B 3 1 (.slice (some ⟨g, 0, none⟩) k cap) k (ys.map (Value.int .i64))) (j : Nat) (x : Int) :
    (w.setCell ⟨g, j, none⟩ (.int .i64 x)).ownsRow B 3 1 (.slice (some ⟨g, 0, none⟩) k cap) k ((ys.set j x).map (Value.int .i64)) ∧ w.grownBy (w.setCell ⟨g, j, none⟩ (.int .i64 x)) (some g) := by
  have := h.stored j (.int .i64 x)
  rw [← List.map_set] at this
  exact this
end Go.Proofs.YtdfhpblceoaofaaDoor
