/-
  What TextParts holds between two rounds.
-/
import Derived.Test.YtdfhpblceoaofaaDoorTW
namespace Go.Proofs.YtdfhpblceoaofaaDoor
open Go.ChangeShapes Go.WideShapes Go.ChangeAt Go.RowKit Go.Shelf
set_option linter.unusedVariables false

/-- A rune, as a text. -/
theorem conv_rune (r : Int) (w : World) :
    (convert 47 9 (.slice (some ⟨w.heap.size, 0, none⟩) 1 1)).run Tryd.prog (w.alloc (.cells #[.int .i32 r] 21)) = .ok (.string (Utf8.encode r)) (w.alloc (.cells #[.int .i32 r] 21)) := by
  simp [convert, run_underlying Tryd.underlying47, run_underlying Tryd.underlying9, run_underlying Tryd.underlying21, Conv.runesToString, go_sem]
/-- The boxes of TextParts. -/
structure Pi (h k : Nat) (s : ByteArray) (one two : Int) (last sum was n : Int) (w₀ W : World) : Prop where
  bs : Boxed W h 9 (.string s)
  b1 : Boxed W (h + 1) 3 (.int .i64 one)
  b2 : Boxed W (h + 1 + 1) 3 (.int .i64 two)
  br : Boxed W (h + 1 + 1 + 1) 4 (.bool false)
  bl : Boxed W k 3 (.int .i64 last)
  bm : Boxed W (k + 1) 3 (.int .i64 sum)
  bw : Boxed W (k + 1 + 1) 21 (.int .i32 was)
  bn : Boxed W (k + 1 + 1 + 1) 3 (.int .i64 n)
  bt : Boxed W (k + 1 + 1 + 1 + 1) 9 (.string s)
  be : Below h w₀ W
section
variable {h k : Nat} {s : ByteArray} {one two : Int} {last sum was n : Int} {w₀ W W' : World}
theorem Pi.call (t : Pi h k s one two last sum was n w₀ W) (hk : h + 4 ≤ k) (hb : Below W.heap.size W W') : Pi h k s one two last sum was n w₀ W' := by
  have f : ∀ B ty u, Boxed W B ty u → Boxed W' B ty u := fun B ty u hB => hB.kept (grownBy_below hb) (by simp)
  exact ⟨f _ _ _ t.bs, f _ _ _ t.b1, f _ _ _ t.b2, f _ _ _ t.br, f _ _ _ t.bl, f _ _ _ t.bm, f _ _ _ t.bw, f _ _ _ t.bn, f _ _ _ t.bt, t.be.trans (hb.mono (by have := t.bs.lt; omega))⟩
theorem Pi.drew (t : Pi h k s one two last sum was n w₀ W) : Pi h k s one two last sum was n w₀ W.drew :=
  ⟨t.bs, t.b1, t.b2, t.br, t.bl, t.bm, t.bw, t.bn, t.bt, t.be.drew⟩
theorem Pi.alloc (t : Pi h k s one two last sum was n w₀ W) (hk : h + 4 ≤ k) (o : Obj) : Pi h k s one two last sum was n w₀ (W.alloc o) :=
  t.call hk ((Below.refl _ W).alloc (Nat.le_refl _) o)
theorem Pi.setL (t : Pi h k s one two last sum was n w₀ W) (hk : h + 4 ≤ k) (x : Int) : Pi h k s one two x sum was n w₀ (W.setCell ⟨k, 0, none⟩ (.int .i64 x)) :=
  ⟨t.bs.other (by omega) _, t.b1.other (by omega) _, t.b2.other (by omega) _, t.br.other (by omega) _, t.bl.set _, t.bm.other (by omega) _, t.bw.other (by omega) _, t.bn.other (by omega) _, t.bt.other (by omega) _, t.be.setCell (p := ⟨k, 0, none⟩) (by show h ≤ k; omega) _⟩
theorem Pi.setM (t : Pi h k s one two last sum was n w₀ W) (hk : h + 4 ≤ k) (x : Int) : Pi h k s one two last x was n w₀ (W.setCell ⟨k + 1, 0, none⟩ (.int .i64 x)) :=
  ⟨t.bs.other (by omega) _, t.b1.other (by omega) _, t.b2.other (by omega) _, t.br.other (by omega) _, t.bl.other (by omega) _, t.bm.set _, t.bw.other (by omega) _, t.bn.other (by omega) _, t.bt.other (by omega) _, t.be.setCell (p := ⟨k + 1, 0, none⟩) (by show h ≤ k + 1; omega) _⟩
theorem Pi.setW (t : Pi h k s one two last sum was n w₀ W) (hk : h + 4 ≤ k) (x : Int) : Pi h k s one two last sum x n w₀ (W.setCell ⟨k + 1 + 1, 0, none⟩ (.int .i32 x)) :=
  ⟨t.bs.other (by omega) _, t.b1.other (by omega) _, t.b2.other (by omega) _, t.br.other (by omega) _, t.bl.other (by omega) _, t.bm.other (by omega) _, t.bw.set _, t.bn.other (by omega) _, t.bt.other (by omega) _, t.be.setCell (p := ⟨k + 1 + 1, 0, none⟩) (by show h ≤ k + 1 + 1; omega) _⟩
theorem Pi.setN (t : Pi h k s one two last sum was n w₀ W) (hk : h + 4 ≤ k) (x : Int) : Pi h k s one two last sum was x w₀ (W.setCell ⟨k + 1 + 1 + 1, 0, none⟩ (.int .i64 x)) :=
  ⟨t.bs.other (by omega) _, t.b1.other (by omega) _, t.b2.other (by omega) _, t.br.other (by omega) _, t.bl.other (by omega) _, t.bm.other (by omega) _, t.bw.other (by omega) _, t.bn.set _, t.bt.other (by omega) _, t.be.setCell (p := ⟨k + 1 + 1 + 1, 0, none⟩) (by show h ≤ k + 1 + 1 + 1; omega) _⟩
end
/-- What last, sum and was are behind a beginning. -/
def Lk {s : ByteArray} (pre : List (Sub s)) (last sum was : Int) : Prop :=
  (pre = [] ∧ last = 0 ∧ sum = 0 ∧ was = 0) ∨ ∃ q y, pre = q ++ [y] ∧ last = (y.1 : Int) ∧ sum = (wsum q : Int) ∧ was = (pc s y.1).r
theorem pi_own (h k : Nat) (s : ByteArray) (one two : Int) (w₀ : World) (hw : h ≤ w₀.heap.size) (hk : h + 4 ≤ k) (B : Nat) (hB : B = k + 5) : OwnFrom B (fun (pre : List (Sub s)) W => ∃ last sum was, Lk pre last sum was ∧ Pi h k s one two last sum was pre.length w₀ W) := by
  rintro pre A C row ⟨last, sum, was, hl, t⟩ hg hr
  refine ⟨last, sum, was, hl, ?_⟩
  have f : ∀ b t' u, Boxed A b t' u → b < B → Boxed C b t' u := fun b t' u hb hlt => hb.kept hg (fun e => by have := (hr _ e.symm).1; omega)
  exact ⟨f _ _ _ t.bs (by omega), f _ _ _ t.b1 (by omega), f _ _ _ t.b2 (by omega), f _ _ _ t.br (by omega), f _ _ _ t.bl (by omega), f _ _ _ t.bm (by omega), f _ _ _ t.bw (by omega), f _ _ _ t.bn (by omega), f _ _ _ t.bt (by omega),
    ownFrom_below (β := Unit) hw (by omega) () A C row t.be hg hr⟩
/-- The same within a round. -/
structure Rd (B h k : Nat) (s : ByteArray) (one two : Int) (last sum was n : Int) (w₀ V W : World) : Prop where
  pi : Pi h k s one two last sum was n w₀ W
  sm : Same B (B + 2 + 1) V W
  bl : Below h V W
section
variable {B h k : Nat} {s : ByteArray} {one two : Int} {last sum was n : Int} {w₀ V W W' : World}
theorem Rd.call (t : Rd B h k s one two last sum was n w₀ V W) (hk : h + 4 ≤ k) (hN : NoB B (B + 2 + 1) V) (hb : Below W.heap.size W W') : Rd B h k s one two last sum was n w₀ V W' :=
  ⟨t.pi.call hk hb, t.sm.trans (Same.of_below hb (by have := hN.top (by omega); have := t.bl.size; omega)), t.bl.trans (hb.mono (by have := t.pi.bs.lt; omega))⟩
theorem Rd.drew (t : Rd B h k s one two last sum was n w₀ V W) : Rd B h k s one two last sum was n w₀ V W.drew := ⟨t.pi.drew, t.sm.drew, t.bl.drew⟩
theorem Rd.alloc (t : Rd B h k s one two last sum was n w₀ V W) (hk : h + 4 ≤ k) (hN : NoB B (B + 2 + 1) V) (o : Obj) : Rd B h k s one two last sum was n w₀ V (W.alloc o) := t.call hk hN ((Below.refl _ W).alloc (Nat.le_refl _) o)
theorem Rd.setL (t : Rd B h k s one two last sum was n w₀ V W) (hk : h + 4 ≤ k) (hB : k + 5 ≤ B) (x : Int) : Rd B h k s one two x sum was n w₀ V (W.setCell ⟨k, 0, none⟩ (.int .i64 x)) :=
  ⟨t.pi.setL hk x, t.sm.trans (Same.setCell _ _ _ (.inl (by show k < B; omega))), t.bl.setCell (p := ⟨k, 0, none⟩) (by show h ≤ k; omega) _⟩
theorem Rd.setM (t : Rd B h k s one two last sum was n w₀ V W) (hk : h + 4 ≤ k) (hB : k + 5 ≤ B) (x : Int) : Rd B h k s one two last x was n w₀ V (W.setCell ⟨k + 1, 0, none⟩ (.int .i64 x)) :=
  ⟨t.pi.setM hk x, t.sm.trans (Same.setCell _ _ _ (.inl (by show k + 1 < B; omega))), t.bl.setCell (p := ⟨k + 1, 0, none⟩) (by show h ≤ k + 1; omega) _⟩
theorem Rd.setW (t : Rd B h k s one two last sum was n w₀ V W) (hk : h + 4 ≤ k) (hB : k + 5 ≤ B) (x : Int) : Rd B h k s one two last sum x n w₀ V (W.setCell ⟨k + 1 + 1, 0, none⟩ (.int .i32 x)) :=
  ⟨t.pi.setW hk x, t.sm.trans (Same.setCell _ _ _ (.inl (by show k + 1 + 1 < B; omega))), t.bl.setCell (p := ⟨k + 1 + 1, 0, none⟩) (by show h ≤ k + 1 + 1; omega) _⟩
theorem Rd.setN (t : Rd B h k s one two last sum was n w₀ V W) (hk : h + 4 ≤ k) (hB : k + 5 ≤ B) (x : Int) : Rd B h k s one two last sum was x w₀ V (W.setCell ⟨k + 1 + 1 + 1, 0, none⟩ (.int .i64 x)) :=
  ⟨t.pi.setN hk x, t.sm.trans (Same.setCell _ _ _ (.inl (by show k + 1 + 1 + 1 < B; omega))), t.bl.setCell (p := ⟨k + 1 + 1 + 1, 0, none⟩) (by show h ≤ k + 1 + 1 + 1; omega) _⟩
theorem Rd.done {s : ByteArray} {B h k : Nat} {one two last sum was n : Int} {w₀ V W : World} {pre : List (Sub s)} {x : Sub s} (t : Rd B h k s one two last sum was n w₀ V W) (hV : Boxed V (k + 1 + 1 + 1 + 1) 9 (.string s)) (hL : Lk (pre ++ [x]) last sum was) (hn : n = (pre.length : Int) + 1) :
    Same B (B + 2 + 1) V W ∧ V.heap.size ≤ W.heap.size ∧ Stay h (k + 1 + 1 + 1 + 1) V W ∧ ∃ last sum was, Lk (pre ++ [x]) last sum was ∧ Pi h k s one two last sum was ((pre ++ [x]).length : Int) w₀ W :=
  ⟨t.sm, t.bl.size, ⟨t.bl, Eq.trans t.pi.bt (Eq.symm hV)⟩, last, sum, was, hL, by
    have := t.pi
    rw [hn] at this
    rw [List.length_append, List.length_singleton, Int.natCast_add]; exact this⟩
end
end Go.Proofs.YtdfhpblceoaofaaDoor
