/-
  Lines: what Wrap has in hand; a Builder and a row of texts beside each other; Reset; an append as a step of a region that draws.
-/
import Derived.Test.YtdfhpblceoaofaaDoorFF
import Derived.Test.YtdfhpblceoaofaaDoorP
namespace Go.Proofs.YtdfhpblceoaofaaDoor
open Go.ChangeShapes Go.WideShapes Go.ChangeAt Go.RowKit Go.Shelf
set_option linter.unusedVariables false

/-- The lines so far, the line under way, how much of it is filled. -/
structure Ls where
  out : List ByteArray
  line : List UInt8
  fil : Nat
def stepL (width : Int) (st : Ls) (p : ByteArray × Nat) : Ls :=
  if st.line = [] then ⟨st.out, p.1.data.toList, st.fil + p.2⟩
  else if width - (st.fil : Int) < 1 + (p.2 : Int) then ⟨st.out ++ [⟨st.line.toArray⟩], p.1.data.toList, p.2⟩
  else ⟨st.out, st.line ++ 32 :: p.1.data.toList, st.fil + 1 + p.2⟩
def foldL (width : Int) (l : List (ByteArray × Nat)) : Ls := l.foldl (stepL width) ⟨[], [], 0⟩
theorem foldL_snoc (width : Int) (l : List (ByteArray × Nat)) (p : ByteArray × Nat) : foldL width (l ++ [p]) = stepL width (foldL width l) p := by
  simp [foldL]
def linesOf (width : Int) (l : List (ByteArray × Nat)) : List ByteArray :=
  if (foldL width l).line = [] then (foldL width l).out else (foldL width l).out ++ [⟨(foldL width l).line.toArray⟩]
theorem step_empty {width : Int} {st : Ls} {p : ByteArray × Nat} (h : st.line = []) : stepL width st p = ⟨st.out, p.1.data.toList, st.fil + p.2⟩ := by unfold stepL; rw [if_pos h]
theorem step_flush {width : Int} {st : Ls} {p : ByteArray × Nat} (h : st.line ≠ []) (h2 : width - (st.fil : Int) < 1 + (p.2 : Int)) : stepL width st p = ⟨st.out ++ [⟨st.line.toArray⟩], p.1.data.toList, p.2⟩ := by unfold stepL; rw [if_neg h, if_pos h2]
theorem step_go {width : Int} {st : Ls} {p : ByteArray × Nat} (h : st.line ≠ []) (h2 : ¬ width - (st.fil : Int) < 1 + (p.2 : Int)) : stepL width st p = ⟨st.out, st.line ++ 32 :: p.1.data.toList, st.fil + 1 + p.2⟩ := by unfold stepL; rw [if_neg h, if_neg h2]

/-! ### How large it may be -/
def cost (l : List (ByteArray × Nat)) : Nat := (l.map fun p => p.1.size + p.2 + 1).sum
theorem cost_cons (p : ByteArray × Nat) (l : List (ByteArray × Nat)) : cost (p :: l) = p.1.size + p.2 + 1 + cost l := by simp [cost]
theorem cost_append (l k : List (ByteArray × Nat)) : cost (l ++ k) = cost l + cost k := by simp [cost]
theorem cost_prefix {l k : List (ByteArray × Nat)} (h : l <+: k) : cost l ≤ cost k := by
  obtain ⟨r, rfl⟩ := h; rw [cost_append]; omega
theorem step_le (width : Int) (st : Ls) (p : ByteArray × Nat) (c : Nat) (h1 : st.line.length ≤ c) (h2 : st.fil ≤ c) (h3 : st.out.length ≤ c) :
    (stepL width st p).line.length ≤ c + (p.1.size + p.2 + 1) ∧ (stepL width st p).fil ≤ c + (p.1.size + p.2 + 1) ∧ (stepL width st p).out.length ≤ c + (p.1.size + p.2 + 1) := by
  have e : p.1.data.toList.length = p.1.size := by simp
  unfold stepL
  split
  · refine ⟨?_, ?_, ?_⟩ <;> simp only <;> omega
  · split
    · refine ⟨?_, ?_, ?_⟩
      · simp only; omega
      · simp only; omega
      · simp only [List.length_append, List.length_cons, List.length_nil]; omega
    · refine ⟨?_, ?_, ?_⟩
      · simp only [List.length_append, List.length_cons]; omega
      · simp only; omega
      · simp only; omega
theorem fold_le (width : Int) : ∀ (l : List (ByteArray × Nat)) (st : Ls) (c : Nat), st.line.length ≤ c → st.fil ≤ c → st.out.length ≤ c →
    (l.foldl (stepL width) st).line.length ≤ c + cost l ∧ (l.foldl (stepL width) st).fil ≤ c + cost l ∧ (l.foldl (stepL width) st).out.length ≤ c + cost l
  | [], st, c, h1, h2, h3 => by simpa [cost] using ⟨h1, h2, h3⟩
  | p :: l, st, c, h1, h2, h3 => by
    obtain ⟨g1, g2, g3⟩ := step_le width st p c h1 h2 h3
    have := fold_le width l (stepL width st p) (c + (p.1.size + p.2 + 1)) g1 g2 g3
    rw [List.foldl_cons, cost_cons]
    omega
theorem foldL_le (width : Int) (l : List (ByteArray × Nat)) : (foldL width l).line.length ≤ cost l ∧ (foldL width l).fil ≤ cost l ∧ (foldL width l).out.length ≤ cost l := by
  have := fold_le width l ⟨[], [], 0⟩ 0 (by simp) (by simp) (by simp)
  simpa [foldL] using this
theorem rwsum_G (x : ByteArray) : rwsum (G x 0) ≤ 4 * x.size := Nat.le_trans (rwsum_le _) (by have := G_le x; omega)
theorem cost_part (width : Int) (hw : 4 ≤ width) : ∀ (f : Nat) (x : ByteArray), x.size ≤ f → cost (Pt width x) ≤ 6 * x.size ∧ ∀ p ∈ Pt width x, 0 < p.1.size ∧ p.1.size ≤ x.size ∧ p.2 = rwsum (G p.1 0) ∧ (p.2 : Int) ≤ width
  | 0, x, h => by rw [Pt_nil (by omega)]; exact ⟨by simp [cost], fun p hp => by simp at hp⟩
  | f + 1, x, h => by
    by_cases h0 : x.size = 0
    · rw [Pt_nil h0]; exact ⟨by simp [cost], fun p hp => by simp at hp⟩
    · have hp := fit_pos x width hw (by omega)
      have hl := fit_le x width
      have hwd := fit_wide x width
      have hin := fit_in x width (by omega)
      rw [Pt_cons hw (by omega)]
      obtain ⟨g1, g2⟩ := cost_part width hw f (x.extract (fitP x width).1 x.size) (by rw [rest_size _ _ hl]; omega)
      rw [rest_size _ _ hl] at g1 g2
      have hz : (x.extract 0 (fitP x width).1).size = (fitP x width).1 := by simp; omega
      have hg := rwsum_G (x.extract 0 (fitP x width).1)
      rw [hz] at hg
      refine ⟨?_, fun p hpm => ?_⟩
      · rw [cost_cons]; simp only; rw [hz]; omega
      · rw [List.mem_cons] at hpm
        rcases hpm with rfl | hpm
        · exact ⟨by rw [hz]; exact hp, by rw [hz]; exact hl, hwd, hin⟩
        · obtain ⟨q1, q2, q3, q4⟩ := g2 p hpm
          exact ⟨q1, by omega, q3, q4⟩
def sizes (l : List ByteArray) : Nat := (l.map ByteArray.size).sum
theorem Fl_sizes {s : ByteArray} : ∀ f a i, s.size - i ≤ f → a ≤ i → i ≤ s.size → sizes (Fl s a i) ≤ s.size - a
  | 0, a, i, h, ha, hi => by
    rw [Fl_end (by omega)]
    split
    · simp [sizes]
    · simp [sizes]
  | f + 1, a, i, h, ha, hi => by
    by_cases hlt : i < s.size
    · cases hs : sepB (s.get! i)
      · rw [Fl_on hlt hs]; exact Fl_sizes f a (i + 1) (by omega) (by omega) (by omega)
      · rw [Fl_sep hlt hs]
        have := Fl_sizes (s := s) f (i + 1) (i + 1) (by omega) (Nat.le_refl _) (by omega)
        split
        · simp [sizes] at this ⊢; omega
        · simp [sizes] at this ⊢; omega
    · rw [Fl_end (by omega)]
      split
      · simp [sizes]
      · simp [sizes]
theorem cost_words (width : Int) (hw : 4 ≤ width) : ∀ l : List ByteArray, cost (l.flatMap (Pt width)) ≤ 6 * sizes l
  | [] => by simp [cost, sizes]
  | x :: l => by
    have h1 := (cost_part width hw _ x (Nat.le_refl _)).1
    have h2 := cost_words width hw l
    rw [List.flatMap_cons, cost_append]
    simp [sizes] at h2 ⊢; omega
theorem cost_WL (width : Int) (hw : 4 ≤ width) (s : ByteArray) : cost (WL width s) ≤ 6 * s.size := by
  have h1 := cost_words width hw (FL s)
  have h2 := Fl_sizes (s := s) _ 0 0 (Nat.le_refl _) (Nat.le_refl _) (Nat.zero_le _)
  unfold WL
  unfold FL at *
  omega
theorem WL_mem {width : Int} (hw : 4 ≤ width) {s : ByteArray} {p : ByteArray × Nat} (h : p ∈ WL width s) : 0 < p.1.size ∧ p.1.size ≤ s.size ∧ p.2 = rwsum (G p.1 0) ∧ (p.2 : Int) ≤ width := by
  unfold WL at h
  rw [List.mem_flatMap] at h
  obtain ⟨x, hx, hp⟩ := h
  obtain ⟨a, b, c, d⟩ := (cost_part width hw _ x (Nat.le_refl _)).2 p hp
  exact ⟨a, by have := (FL_size hx).2; omega, c, d⟩

/-! ### Worlds -/
theorem row_others {W W' : World} {B k : Nat} {v : Value} {xs : List Value} {x : Option Nat} (h : W.ownsRow B 9 1 v k xs) (ho : Lib.OthersKept 5 x W W') (hx : ∀ r, x = some r → r < B) : W'.ownsRow B 9 1 v k xs := by
  obtain ⟨h1, h2⟩ := h
  refine ⟨h1, ?_⟩
  rcases h2 with h2 | ⟨g, cap, cur, a, b, c, d⟩
  · exact .inl h2
  · exact .inr ⟨g, cap, cur, a, b, ho g _ c (fun e => by have := hx g e.symm; omega) (fun c fz e => by cases e), d⟩
theorem builder_kept {W W' : World} {B b : Nat} {bs : List Value} {row : Option Nat} (h : Lib.IsBuilderF 57 5 B b bs W) (hg : W.grownBy W' row) (hr : ∀ r, row = some r → ∃ c t fz, W.heap[r]? = some (.cells c t fz) ∧ t ≠ 5 ∧ t ≠ 57) : Lib.IsBuilderF 57 5 B b bs W' := by
  have key : ∀ p, Lib.BuilderAtF 57 5 B b p bs W → Lib.BuilderAtF 57 5 B b p bs W' := by
    rintro p ⟨hB, v, hb, hown, hne⟩
    refine ⟨hB, v, ?_, hown.kept hg ?_, hne⟩
    · refine (hg.block b (Array.getElem?_eq_some_iff.1 hb).1 (fun e' => ?_)).trans hb
      obtain ⟨c, t, fz, ho, h5, h57⟩ := hr b e'.symm
      rw [hb] at ho; cases ho; exact h57 rfl
    · rcases hown.2 with ⟨rfl, _⟩ | ⟨g, cap, cur, fz, rfl, _, hgb, _⟩
      · exact .inl rfl
      · refine .inr (fun e' => ?_)
        obtain ⟨c, t, fz', ho, h5, h57⟩ := hr g e'.symm
        rw [hgb] at ho; cases ho; exact h5 rfl
  exact h.elim (fun a => .inl (key _ a)) (fun a => .inr (key _ a))
theorem builder_set {W : World} {B b k t : Nat} {bs : List Value} {v : Value} (h : Lib.IsBuilderF 57 5 B b bs W) (hb : Boxed W k t v) (h5 : t ≠ 5) (h57 : t ≠ 57) (u : Value) : Lib.IsBuilderF 57 5 B b bs (W.setCell ⟨k, 0, none⟩ u) :=
  builder_kept h (grownBy_setCell' W k u) (fun r e => by cases e; exact ⟨_, _, _, hb, h5, h57⟩)
theorem builder_cells0 {T e : TypeId} {B b : Nat} {bs : List Value} {W : World} (h : Lib.IsBuilderF T e B b bs W) : ∃ p v, W.heap[b]? = some (.cells #[p, v] T (0, 0)) := by
  rcases h with ⟨_, v, hb, _⟩ | ⟨_, v, hb, _⟩ <;> exact ⟨_, _, hb⟩
theorem row_block {W : World} {B e k : Nat} {v : Value} {xs : List Value} (h : W.ownsRow B e 1 v k xs) : ∀ r, v.ownBlock = some r → B ≤ r ∧ ∃ c fz, W.heap[r]? = some (.cells c e fz) := fun r hr => by
  obtain ⟨h1, h2⟩ := h
  rcases h2 with ⟨rfl, _⟩ | ⟨g, cap, cur, rfl, b, c, d⟩
  · simp [Value.ownBlock] at hr
  · simp [Value.ownBlock] at hr; subst hr; exact ⟨b, _, _, c⟩

set_option maxRecDepth 100000 in
theorem reset_any (B b : Nat) (bs : List Value) (w : World) (h : Lib.IsBuilderF 57 5 B b bs w) :
    Calls Tryd.prog 48 #[.pointer (some ⟨b, 0, none⟩)] w fun e w' => e = .returned (.tuple #[]) ∧ Lib.IsBuilderF 57 5 B b [] w' ∧ w.grownBy w' (some b) := by
  have hB : B ≤ b := by rcases h with ⟨hB, _⟩ | ⟨hB, _⟩ <;> exact hB
  obtain ⟨p, v, hb⟩ := builder_cells0 h
  have c0 : w.cell? ⟨b, 0, none⟩ = some p := by simp [World.cell?, hb]
  have c1 : w.cell? ⟨b, 1, none⟩ = some v := by simp [World.cell?, hb]
  have f0 : w.frozen? ⟨b, 0, none⟩ = false := by simp [World.frozen?, hb]
  have f1 : w.frozen? ⟨b, 1, none⟩ = false := by simp [World.frozen?, hb]
  obtain ⟨hlt, hb'⟩ := Array.getElem?_eq_some_iff.1 hb
  have e : ((w.setCell ⟨b, 0, none⟩ (.pointer none)).setCell ⟨b, 1, none⟩ (.slice none 0 0)).heap[b]? = some (.cells #[.pointer none, .slice none 0 0] 57 (0, 0)) := by
    simp [World.setCell, hlt, Array.getElem_modify, hb']
  have g : w.grownBy ((w.setCell ⟨b, 0, none⟩ (.pointer none)).setCell ⟨b, 1, none⟩ (.slice none 0 0)) (some b) := ⟨rfl, rfl, rfl, by simp [World.setCell], fun j hj hne => by
    rw [Below.heap_setCell _ _ _ j (fun e => hne (by rw [e])), Below.heap_setCell _ _ _ j (fun e => hne (by rw [e]))]⟩
  have E := Lib.hid e
  have G' := Lib.hid g
  clear e g hb hb' h
  go_enter Tryd.func48, Tryd.ntmps48
  go_wp2
  go_end0
  exact ⟨rfl, .inl ⟨hB, _, E.out, ⟨rfl, .inl ⟨rfl, rfl⟩⟩, by simp [Value.ownBlock]⟩, G'.out⟩

/-- append to a row of the call's own, as one step of a region that draws, inside a fence. -/
theorem stepIn_append_own {F : Fence} {n : Nat} {P : Program} {ops : Array Oper} {o : Oper} {a : Act} {w : World} {K : Act → World → Prop} {Q : Exit → Act → World → Prop} {E : Prop} (hg : o.guard = none) (s x : Operand) (t : TypeId)
    (ho : o.op = .call { callee := .builtin .append, args := #[s, x], argTypes := #[t, t] })
    (base : Nat) (e : TypeId) (i : TypeInfo) (z : Value) (size bytes : Nat) (ht : P.underlying t = some (.slice e)) (hi : P.info? e = some i) (hz : i.zero = some z)
    (hsize : i.size = size) (hby : i.bytes = bytes) (hzs : z.cells.size = size) (hsz : 0 < size)
    (v : Value) (k : Nat) (xs : List Value) (hs : a.eval s = v) (hown : w.ownsRow base e size v k xs)
    (ad : Addr) (m c : Nat) (news : List Value) (hx : a.eval x = .slice (some ad) m c) (hl : news.length = m * size) (hnews : ∀ j u, news[j]? = some u → w.cell? (ad.add j) = some u) (h1 : ∀ u ∈ news, u.oneCell' = true)
    (h63 : k + m ≤ maxLen) (hbytes : (k + m) * bytes ≤ 140737488355328) (hbase : base ≤ w.heap.size)
    (h : ∀ v' w', w'.ownsRow base e size v' (k + m) (xs ++ news) → w.grownBy w' v.ownBlock → K (a.put o.dst v') w') :
    if Region.wanted o (yielded ops a.tmps) = true then Oper.wpIn F n P o a w K Q else E := by
  have hw : Region.wanted o (yielded ops a.tmps) = true := by simp [Region.wanted, hg]
  rw [if_pos hw]
  obtain ⟨v', w', hrun, r1, r2, _⟩ := run_append_own (P := P) w base t o.type e i z size bytes ht hi hz hsize hby hzs hsz v k xs hown ad m c news hl hnews h1 h63 hbytes hbase
  unfold Oper.wpIn
  refine ⟨?_, ?_⟩
  · simp [Oper.about, ho, resolve, Target.leads, Sem.run_pure]
  · rw [Oper.semAt_plain F _ _ (by rw [ho]; intro c hc'; cases hc')]
    simp [execOp, ho, resolve, invoke, builtin, hs, hx, hrun, Result.andThen]
    exact h v' w' r1 r2
end Go.Proofs.YtdfhpblceoaofaaDoor
