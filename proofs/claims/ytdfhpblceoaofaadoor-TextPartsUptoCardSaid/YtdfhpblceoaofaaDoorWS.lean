/-
  What Wrap's loop has in hand between two operations, and what each operation makes of it.
-/
import Derived.Test.YtdfhpblceoaofaaDoorWQ
namespace Go.Proofs.YtdfhpblceoaofaaDoor
open Go.ChangeShapes Go.WideShapes Go.ChangeAt Go.RowKit Go.Shelf
set_option linter.unusedVariables false

structure St (h : Nat) (s : ByteArray) (width : Int) (vb v : Value) (out : List ByteArray) (line : List UInt8) (fil : Int) (Wr W : World) : Prop where
  l : Boxed W (h + 1) 42 vb
  f : Boxed W (h + 1 + 1 + 1) 3 (.int .i64 fil)
  w : Boxed W h 3 (.int .i64 width)
  s : Boxed W (h + 1 + 1 + 1 + 1) 9 (.string s)
  x : Boxed W (h + 1 + 1 + 1 + 1 + 1) 3 (.int .i64 width)
  row : W.ownsRow (h + 13) 9 1 v out.length (out.map Value.string)
  bd : Lib.IsBuilderF 57 5 (h + 1 + 1) (h + 1 + 1) (Lib.byteCells line) W
  sm : Same (h + 6) (h + 13) Wr W
  nb : NoB (h + 6) (h + 13) W
  bl : Below h Wr W

variable {h : Nat} {s : ByteArray} {width : Int} {vb v : Value} {out : List ByteArray} {line : List UInt8} {fil : Int} {Wr W W' : World}
theorem St.top (t : St h s width vb v out line fil Wr W) : h + 13 ≤ W.heap.size := t.nb.top (by omega)
theorem box_others {k b : Nat} {t : TypeId} {u : Value} (hb : Boxed W k t u) (ho : Lib.OthersKept 5 (some b) W W') (hk : k ≠ b) (ht : t ≠ 5) : Boxed W' k t u :=
  ho k _ hb (by simpa using hk) (fun c fz e => by cases e; exact ht rfl)
/-- A Builder's call. -/
theorem St.call (t : St h s width vb v out line fil Wr W) {line' : List UInt8} (hI : Lib.IsBuilderF 57 5 (h + 1 + 1) (h + 1 + 1) (Lib.byteCells line') W') (hb : Below (h + 1 + 1) W W') (ho : Lib.OthersKept 5 (some (h + 1 + 1)) W W') : St h s width vb v out line' fil Wr W' where
  l := box_others t.l ho (by omega) (by decide)
  f := box_others t.f ho (by omega) (by decide)
  w := box_others t.w ho (by omega) (by decide)
  s := box_others t.s ho (by omega) (by decide)
  x := box_others t.x ho (by omega) (by decide)
  row := row_others t.row ho (fun r e => by cases e; omega)
  bd := hI
  sm := t.sm.trans (t.nb.others ho (fun r e => by cases e; omega))
  nb := t.nb.same (t.nb.others ho (fun r e => by cases e; omega))
  bl := t.bl.trans (hb.mono (by omega))
/-- A new block. -/
theorem St.alloc (t : St h s width vb v out line fil Wr W) (o : Obj) : St h s width vb v out line fil Wr (W.alloc o) where
  l := t.l.alloc o
  f := t.f.alloc o
  w := t.w.alloc o
  s := t.s.alloc o
  x := t.x.alloc o
  row := t.row.alloc o
  bd := t.bd.alloc o
  sm := t.sm.trans (Same.grown (World.grownBy_alloc W o none) t.top (fun r e => by cases e))
  nb := t.nb.same (Same.grown (World.grownBy_alloc W o none) t.top (fun r e => by cases e))
  bl := t.bl.alloc (by have := t.top; omega) o
theorem St.drew (t : St h s width vb v out line fil Wr W) : St h s width vb v out line fil Wr W.drew where
  l := t.l
  f := t.f
  w := t.w
  s := t.s
  x := t.x
  row := t.row
  bd := t.bd
  sm := t.sm
  nb := t.nb
  bl := t.bl.drew
/-- A line more. -/
theorem St.append (t : St h s width vb v out line fil Wr W) {v' : Value} {y : ByteArray} (hown : W'.ownsRow (h + 13) 9 1 v' (out.length + 1) (out.map Value.string ++ [.string y])) (hg : W.grownBy W' v.ownBlock) : St h s width vb v' (out ++ [y]) line fil Wr W' := by
  have hr : ∀ r, v.ownBlock = some r → h + 13 ≤ r := fun r e => (row_block t.row r e).1
  have hs : Same (h + 6) (h + 13) W W' := Same.grown hg t.top (fun r e => .inr (hr r e))
  have hb : ∀ k t' u, Boxed W k t' u → k < h + 13 → Boxed W' k t' u := fun k t' u hb hk => hb.kept hg (fun e => by have := hr _ e.symm; omega)
  exact {
    l := hb _ _ _ t.l (by omega), f := hb _ _ _ t.f (by omega), w := hb _ _ _ t.w (by omega), s := hb _ _ _ t.s (by omega), x := hb _ _ _ t.x (by omega)
    row := by rw [List.length_append, List.map_append]; exact hown
    bd := builder_kept t.bd hg (fun r e => by obtain ⟨c, fz, ho⟩ := (row_block t.row r e).2; exact ⟨_, _, _, ho, by decide, by decide⟩)
    sm := t.sm.trans hs
    nb := t.nb.same hs
    bl := t.bl.grown hg (by have := t.top; omega) (fun j e => by have := hr j e; omega) }
/-- The lines' variable. -/
theorem St.setL (t : St h s width vb v out line fil Wr W) (u : Value) : St h s width u v out line fil Wr (W.setCell ⟨h + 1, 0, none⟩ u) where
  l := t.l.set u
  f := t.f.other (by omega) u
  w := t.w.other (by omega) u
  s := t.s.other (by omega) u
  x := t.x.other (by omega) u
  row := t.row.kept (grownBy_setCell' W (h + 1) u) (.inr (fun e => by have := (row_block t.row _ e).1; omega))
  bd := builder_set t.bd t.l (by decide) (by decide) u
  sm := t.sm.trans (Same.setCell W ⟨h + 1, 0, none⟩ u (.inl (by show h + 1 < h + 6; omega)))
  nb := t.nb.same (Same.setCell W ⟨h + 1, 0, none⟩ u (.inl (by show h + 1 < h + 6; omega)))
  bl := t.bl.setCell (p := ⟨h + 1, 0, none⟩) (by show h ≤ h + 1; omega) u
/-- How much is filled. -/
theorem St.setF (t : St h s width vb v out line fil Wr W) (z : Int) : St h s width vb v out line z Wr (W.setCell ⟨h + 1 + 1 + 1, 0, none⟩ (.int .i64 z)) where
  l := t.l.other (by omega) _
  f := t.f.set _
  w := t.w.other (by omega) _
  s := t.s.other (by omega) _
  x := t.x.other (by omega) _
  row := t.row.kept (grownBy_setCell' W (h + 1 + 1 + 1) _) (.inr (fun e => by have := (row_block t.row _ e).1; omega))
  bd := builder_set t.bd t.f (by decide) (by decide) _
  sm := t.sm.trans (Same.setCell W ⟨h + 1 + 1 + 1, 0, none⟩ _ (.inl (by show h + 1 + 1 + 1 < h + 6; omega)))
  nb := t.nb.same (Same.setCell W ⟨h + 1 + 1 + 1, 0, none⟩ _ (.inl (by show h + 1 + 1 + 1 < h + 6; omega)))
  bl := t.bl.setCell (p := ⟨h + 1 + 1 + 1, 0, none⟩) (by show h ≤ h + 1 + 1 + 1; omega) _
/-- Reset. -/
theorem St.reset (t : St h s width vb v out line fil Wr W) (hI : Lib.IsBuilderF 57 5 (h + 1 + 1) (h + 1 + 1) [] W') (hg : W.grownBy W' (some (h + 1 + 1))) : St h s width vb v out [] fil Wr W' where
  l := t.l.kept hg (fun e => by have := Option.some.inj e; omega)
  f := t.f.kept hg (fun e => by have := Option.some.inj e; omega)
  w := t.w.kept hg (fun e => by have := Option.some.inj e; omega)
  s := t.s.kept hg (fun e => by have := Option.some.inj e; omega)
  x := t.x.kept hg (fun e => by have := Option.some.inj e; omega)
  row := t.row.kept hg (.inr (fun e => by have := (row_block t.row _ e).1; omega))
  bd := hI
  sm := t.sm.trans (Same.grown hg t.top (fun r e => by cases e; omega))
  nb := t.nb.same (Same.grown hg t.top (fun r e => by cases e; omega))
  bl := t.bl.grown hg (by have := t.top; omega) (fun j e => by cases e; omega)
end Go.Proofs.YtdfhpblceoaofaaDoor
