/-
  The contract of Text.
-/
import Derived.Test.YtocdinaomkmcbaaDoorM
import Derived.Laws.EntriesVeiled
namespace Go.Proofs.YtocdinaomkmcbaaDoor
open Go.ChangeShapes Go.WideShapes Go.ChangeAt Go.RowKit Go.Shelf
set_option linter.unusedVariables false
attribute [local go_sem] Oper.semAt_some

theorem with_frm2 {α β : Type} {H : Prop} (z : α → β → Act) (h : ∀ fr, fr = z → H) : H := h z rfl
theorem grownBy_below {W W' : World} (hb : Below W.heap.size W W') : W.grownBy W' none := ⟨hb.os, hb.tape, hb.output, hb.size, fun j hj _ => hb.block j hj⟩
theorem with_frm {α : Type} {H : Prop} (z : α → Act) (h : ∀ fr, fr = z → H) : H := h z rfl
theorem builder_at_own {β : Type} (T e : TypeId) (B b : Nat) (p : Value) (f : β → List Value) : Own (fun s W => Lib.BuilderAtF T e B b p (f s) W) := by
  rintro s X Y row ⟨hB, v, hb, hown, hne⟩ hg hrow
  refine ⟨hB, v, ?_, hown.kept hg ?_, hne⟩
  · refine (hg.block b (Array.getElem?_eq_some_iff.1 hb).1 (fun e' => ?_)).trans hb
    obtain ⟨o, ho, hc⟩ := hrow b e'.symm
    rw [hb] at ho; cases ho; cases hc
  · rcases hown.2 with ⟨rfl, _⟩ | ⟨g, cap, cur, fz, rfl, _, hgb, _⟩
    · exact .inl rfl
    · refine .inr (fun e' => ?_)
      obtain ⟨o, ho, hc⟩ := hrow g e'.symm
      rw [hgb] at ho; cases ho; cases hc
theorem builder_own {β : Type} (T e : TypeId) (B b : Nat) (f : β → List Value) : Own (fun s W => Lib.IsBuilderF T e B b (f s) W) := fun s X Y row h hg hrow =>
  h.elim (fun a => .inl (builder_at_own T e B b _ f s X Y row a hg hrow)) (fun a => .inr (builder_at_own T e B b _ f s X Y row a hg hrow))
theorem builder_below {T e : TypeId} {B b : Nat} {bs : List Value} {W W' : World} (h : Lib.IsBuilderF T e B b bs W) (hb : Below W.heap.size W W') : Lib.IsBuilderF T e B b bs W' :=
  builder_own (β := Unit) T e B b (fun _ => bs) () W W' none h (grownBy_below hb) (fun r e => by cases e)
theorem boxed_others {b k : Nat} {t : TypeId} {v : Value} {W W' : World} (h : Boxed W k t v) (ho : Lib.OthersKept 5 (some b) W W') (hk : k ≠ b) (ht : t ≠ 5) : Boxed W' k t v :=
  ho k _ h (by simpa using hk) (fun c fz e' => by cases e'; exact ht rfl)

theorem str_cells (l : List UInt8) : Lib.strCells (bts l) = Lib.byteCells l := by
  simp [Lib.strCells, Lib.byteCells, bts]
/-- The text of what has come. -/
def txtB (pre : List (Nat × Pl)) : List UInt8 := pre.flatMap fun x => txP x.2 ++ if 0 < x.1 then sepL else []
theorem txtB_snoc (pre : List (Nat × Pl)) (x : Nat × Pl) : txtB (pre ++ [x]) = txtB pre ++ (txP x.2 ++ if 0 < x.1 then sepL else []) := by simp [txtB]
theorem txtB_bw (l : List Pl) : ∀ i, i ≤ l.length → txtB (bwF l i) = join ((l.take i).reverse.map txP) := by
  intro i
  induction i with
  | zero => intro _; rfl
  | succ i ih =>
    intro hi
    have hp : l[i]? = some (l[i]'(by omega)) := List.getElem?_eq_getElem (by omega)
    rw [bwF_at hp, take_snoc' l i _ hp, List.reverse_append, List.map_append]
    have e : txtB ((i, l[i]'(by omega)) :: bwF l i) = (txP (l[i]'(by omega)) ++ if 0 < i then sepL else []) ++ txtB (bwF l i) := by simp [txtB]
    rw [e, ih (by omega)]
    cases i with
    | zero => simp [join]
    | succ i =>
      rw [if_pos (by omega)]
      have hne : ((l.take (i + 1)).reverse.map txP) ≠ [] := by
        intro h
        have hl : ((l.take (i + 1)).reverse.map txP).length = i + 1 := by simp; omega
        rw [h] at hl
        simp at hl
      simp only [List.reverse_cons, List.reverse_nil, List.nil_append, List.map_cons, List.map_nil, List.singleton_append]
      rw [join_cons hne]
theorem bwF_mem {l : List Pl} : ∀ {i : Nat} {x : Nat × Pl}, x ∈ bwF l i → x.2 ∈ l ∧ x.1 < i := by
  intro i
  induction i with
  | zero => intro x h; simp [bwF] at h
  | succ i ih =>
    intro x h
    rw [bwF] at h
    rcases List.mem_append.1 h with h | h
    · cases hp : l[i]? with
      | none => rw [hp] at h; simp at h
      | some p =>
        rw [hp] at h
        simp at h
        subst h
        exact ⟨List.mem_of_getElem? hp, by simp⟩
    · exact ⟨(ih h).1, by have := (ih h).2; omega⟩
theorem bwF_len (l : List Pl) : ∀ i, (bwF l i).length ≤ i
  | 0 => by simp [bwF]
  | i + 1 => by
    have := bwF_len l i
    rw [bwF, List.length_append]
    split <;> simp <;> omega
theorem txtB_len : ∀ (pre : List (Nat × Pl)), (∀ x ∈ pre, may x.2 = true) → (txtB pre).length ≤ 145 * pre.length
  | [], _ => by simp [txtB]
  | x :: pre, h => by
    have h1 := txtB_len pre (fun y hy => h y (by simp [hy]))
    have h2 := txP_size (h x (by simp))
    have e : txtB (x :: pre) = (txP x.2 ++ if 0 < x.1 then sepL else []) ++ txtB pre := by simp [txtB]
    rw [e, List.length_append, List.length_append, List.length_cons]
    have h3 : (if 0 < x.1 then sepL else []).length ≤ 3 := by split <;> simp [sepL]
    omega
theorem ownFrom_blk {β : Type} {B Bx : Nat} {o : Obj} (ho : o.isCells = true) : OwnFrom B (fun (_ : β) W => W.heap[Bx]? = some o) := fun s A C row h hg hr =>
  (hg.block Bx (Array.getElem?_eq_some_iff.1 h).1 (fun e => by obtain ⟨_, o', ho', hc⟩ := hr Bx e.symm; rw [h] at ho'; cases ho'; rw [ho] at hc; cases hc)).trans h
theorem ownFrom_kq {β : Type} {n₀ Bs B : Nat} {w₀ : World} (hn : n₀ ≤ B) (hs : Bs < B) (h0 : n₀ ≤ w₀.heap.size) (hs0 : Bs < w₀.heap.size) : OwnFrom B (fun (_ : β) W => Kq n₀ Bs w₀ W) :=
  fun s A C row h hg hr => ⟨ownFrom_below (β := Unit) h0 hn () A C row h.1 hg hr, (hg.block Bs (by have := h.1.size; omega) (fun e => by have := (hr _ e.symm).1; omega)).trans h.2⟩

set_option maxRecDepth 100000 in
set_option maxHeartbeats 4000000 in
theorem text_in (n : Nat) (hn : 4 ≤ n) (A : Option Addr) (cap : Nat) (ps : List Pl) (w : World) (hE : Env w) (hA : At w A ps) (hc : chk ps = 0) :
    CallsIn Fence.wide n Tryd.prog 11 #[.slice A ps.length cap] w fun e W' => e = .returned (.tuple #[.string (bts (txL ps)), .int .i64 0]) ∧ Below w.heap.size w W' := by
  have h1 : 1 ≤ n := by omega
  obtain ⟨hmay, h64⟩ := chk_ok.1 hc
  have H1 : Hid (Calls Tryd.prog 14 #[.slice A ps.length cap] w fun e w' => e = .returned (.int .i64 0) ∧ Below w.heap.size w w') := Lib.hid (by have := check_any A cap ps w hA (by omega); rwa [hc] at this)
  have HT : Hid (txtB (bwF ps ps.length) = txL ps) := Lib.hid (by rw [txtB_bw ps _ (Nat.le_refl _), List.take_length]; rfl)
  refine callsIn_of_wp_marks Tryd.func11 rfl trivial ?_ rfl
  simp only [Tryd.ntmps11, List.size_toArray, List.length_cons, List.length_nil, Nat.reduceAdd, Nat.reduceSub, Array.replicate_succ, Array.replicate_zero, List.push_toArray, List.append_toArray, List.nil_append, List.cons_append]
  gi_wp2_with fail
  refine ⟨trivial, ?_⟩
  refine (callsIn_wide.2 H1.out).mono ?_
  rintro e W1 ⟨rfl, hb1⟩
  have hE1 := hE.below hb1 (Nat.le_refl _)
  have hA1 := hA.below hb1 (Nat.le_refl _)
  gi_wp2_with fail
  refine ⟨trivial, ?_⟩
  refine (callsIn_wide.2 (backward_any A ps.length cap _)).mono ?_
  rintro e w' ⟨rfl, rfl⟩
  have hz1 := hb1.size
  have bB := (Lib.IsBuilderF.of (Lib.fresh_isBuilder 93 5 W1)).alloc (.cells #[.slice A ps.length cap] 23)
  have bS := Boxed.new (W1.alloc (.cells #[.pointer none, .slice none 0 0] 93)) 23 (.slice A ps.length cap)
  have hB0 : Below W1.heap.size W1 ((W1.alloc (.cells #[.pointer none, .slice none 0 0] 93)).alloc (.cells #[.slice A ps.length cap] 23)) := ((Below.refl _ W1).alloc (Nat.le_refl _) _).alloc (by simp) _
  have hz0 : ((W1.alloc (.cells #[.pointer none, .slice none 0 0] 93)).alloc (.cells #[.slice A ps.length cap] 23)).heap.size = W1.heap.size + 2 := by simp
  simp only [World.size_alloc] at bS
  gi_wp2_with fail
  obtain ⟨W0, hW0⟩ : ∃ W0, (W1.alloc (.cells #[.pointer none, .slice none 0 0] 93)).alloc (.cells #[.slice A ps.length cap] 23) = W0 := ⟨_, rfl⟩
  rw [hW0] at bB bS hB0 hz0 ⊢
  clear hW0
  have hza : W1.heap.size + 2 ≤ W0.heap.size := by omega
  have hzb : W0.heap.size ≤ W1.heap.size + 2 := by omega
  clear hz0
  apply with_frm2 (α := Nat × Pl) (β := Nat)
  intro fr hfr
  refine wpIn_range_wide (k := 0) rfl h1 (gf := 75) (lb := #[.pointer (some ⟨W1.heap.size + 1, 0, none⟩)]) rfl trivial (enters_of Tryd.func75 (by kernel_rfl) rfl)
    (bw_w (n - 1) (by omega) (W1.heap.size + 1) W1.heap.size A cap ps W0 (by omega) (by omega) bS.cell (fun W' h => hA1.below (hB0.trans h) (Nat.le_refl _)) (by omega)) Kq_t (Kq_b (by omega) (by omega)) (fun _ => rfl)
    (fun pre V => Lib.IsBuilderF 93 5 W1.heap.size W1.heap.size (Lib.byteCells (txtB pre)) V ∧ Kq W1.heap.size (W1.heap.size + 1) W0 V)
    (fun _ _ _ => False)
    (fun x a' V => ∃ Bx, W0.heap.size ≤ Bx ∧ V.heap[Bx]? = some (.cells #[.string x.2.1, .int .i64 x.2.2] 48 (0, 0)) ∧ a' = fr x Bx)
    (OwnFrom.and (Own.from (builder_own 93 5 W1.heap.size W1.heap.size (fun pre => Lib.byteCells (txtB pre))) _) (ownFrom_kq (by omega) (by omega) (by omega) (by omega)))
    (fun _ _ _ _ _ hs _ _ => hs)
    (fun x a' s X Y row h hg hr => by
      obtain ⟨Bx, h1, h2, h3⟩ := h
      exact ⟨Bx, h1, ownFrom_blk (β := Unit) (B := W0.heap.size) rfl () X Y row h2 hg hr, h3⟩)
    ⟨bB, Kq_refl _ _ _⟩
    ?assign ?body ?done ?stop
  case assign =>
    intro l pre x W K hI hz hK
    dsimp only [encB]
    gi_wp2
    have hs : Same W0.heap.size (W0.heap.size + 2 + 0) W (W.alloc (.cells #[.string x.2.1, .int .i64 x.2.2] 48)) := Same.of_below ((Below.refl _ W).alloc (Nat.le_refl _) _) (by omega)
    have hk := Kq.of_below (n₀ := W1.heap.size) (Bs := W1.heap.size + 1) ((Below.refl _ W).alloc (Nat.le_refl _) (.cells #[.string x.2.1, .int .i64 x.2.2] 48)) (by omega) (by omega)
    have hb : (W.alloc (.cells #[.string x.2.1, .int .i64 x.2.2] 48)).heap[W.heap.size]? = some (.cells #[.string x.2.1, .int .i64 x.2.2] 48 (0, 0)) := World.alloc_heap_new W _
    have hlt : W0.heap.size ≤ W.heap.size := by omega
    have hi' : Lib.IsBuilderF 93 5 W1.heap.size W1.heap.size (Lib.byteCells (txtB pre)) (W.alloc (.cells #[.string x.2.1, .int .i64 x.2.2] 48)) ∧ Kq W1.heap.size (W1.heap.size + 1) W0 (W.alloc (.cells #[.string x.2.1, .int .i64 x.2.2] 48)) := ⟨hI.1.alloc _, Kq_t hI.2 hk⟩
    have hzz : W.heap.size ≤ (W.alloc (.cells #[.string x.2.1, .int .i64 x.2.2] 48)).heap.size := by simp
    generalize W.alloc (.cells #[.string x.2.1, .int .i64 x.2.2] 48) = V at *
    generalize W.heap.size = Bx at *
    refine hK _ _ hs ?_ hk hi' ⟨Bx, hlt, hb, ?_⟩
    · exact hzz
    · rw [hfr]
  case body =>
    rintro l pre x a' W ⟨hI, hK⟩ hpx hN ⟨Bx, hBx, hblk, rfl⟩
    rw [hfr]
    clear hfr fr
    have hd : 1 ≤ n - 1 - 1 := by omega
    have hxm : x ∈ bwF ps ps.length := hpx.subset (by simp)
    obtain ⟨hx1, hx2⟩ := bwF_mem hxm
    have hmx := hmay _ hx1
    have hpre : ∀ y ∈ pre, may y.2 = true := fun y hy => hmay _ (bwF_mem (hpx.subset (by simp [hy]))).1
    have hpl : pre.length ≤ 64 := by
      have h2 := hpx.length_le
      have := bwF_len ps ps.length
      simp at h2; omega
    have hlen : (txtB pre).length ≤ 9280 := by have := txtB_len pre hpre; omega
    have hl2 := txP_size hmx
    have hWz := hK.1.size
    have bX : Boxed W (W1.heap.size + 1) 23 (.slice A ps.length cap) := hK.2.trans bS
    have c0 : W.cell? ⟨Bx, 0, none⟩ = some (.string x.2.1) := cell_of_row W Bx 0 _ 48 (0, 0) hblk
    have c1 : W.cell? ⟨Bx, 1, none⟩ = some (.int .i64 x.2.2) := cell_of_row W Bx 1 _ 48 (0, 0) hblk
    have H47 := Lib.hid (textOf_any x.2 W (hE1.below (hB0.trans hK.1) (Nat.le_refl _)) hmx)
    clear hpx hxm hpre hmx
    gi_wp2_with fail
    refine ⟨trivial, ?_⟩
    refine (CallsIn.inRound l (callsIn_wide.2 H47.out)).mono ?_
    rintro e W2 ⟨rfl, hb2⟩
    have hz2 := hb2.size
    have hI2 := builder_below hI hb2
    have hS2 : Same W0.heap.size (W0.heap.size + 2 + 0) W W2 := Same.of_below hb2 (hN.top (by omega))
    have hN2 := hN.same hS2
    have hKW := Kq.of_below (n₀ := W1.heap.size) (Bs := W1.heap.size + 1) hb2 (by omega) (by omega)
    have hK2 := Kq_t hK hKW
    have bX2 : Boxed W2 (W1.heap.size + 1) 23 (.slice A ps.length cap) := hK2.2.trans bS
    clear hb2 hI hK bX c0 c1 hblk H47
    gi_wp2_with fail
    refine ⟨trivial, ?_⟩
    refine (CallsIn.inRound l (callsIn_wide.2 (Tryd.Builder_WriteString_k W1.heap.size W1.heap.size _ (bts (txP x.2)) W2 hI2 (by rw [Lib.byteCells_length, bts_size]; omega) (by omega)))).mono ?_
    rintro e W3 ⟨rfl, hI3, hb3, ho3⟩
    have hS3 := hS2.trans (hN2.others ho3 (fun r e => by cases e; omega))
    have hN3 := hN.same hS3
    have bX3 := boxed_others bX2 ho3 (by omega) (by decide)
    have hz3 := hb3.size
    have hK3 : Kq W1.heap.size (W1.heap.size + 1) W0 W3 := ⟨hK2.1.trans hb3, Eq.trans bX3 (Eq.symm bS)⟩
    have hKW3 : Kq W1.heap.size (W1.heap.size + 1) W W3 := Kq_t hKW ⟨hb3, Eq.trans bX3 (Eq.symm bX2)⟩
    rw [str_cells, ← Lib.byteCells_append] at hI3
    have hI3' : Lib.IsBuilderF 93 5 W1.heap.size W1.heap.size (Lib.byteCells (txtB pre ++ txP x.2)) W3 := Or.inr hI3
    clear hI2 hI3 hb3 ho3 hK2 bX2 hN2 hS2
    by_cases hx0 : x.1 = 0
    · have HX : Hid (txtB (pre ++ [x]) = txtB pre ++ txP x.2) := Lib.hid (by rw [txtB_snoc, if_neg (by omega), List.append_nil])
      have e0 : decide (0 < x.1) = false := decide_eq_false (by omega)
      have e2 : ¬ 0 < x.1 := by omega
      clear hx0
      gi_wp2
      exact ⟨hS3, by omega, hKW3, by rw [HX.out]; exact hI3', hK3⟩
    · have HX : Hid (txtB (pre ++ [x]) = txtB pre ++ txP x.2 ++ sepL) := Lib.hid (by rw [txtB_snoc, if_pos (by omega), List.append_assoc])
      have e0 : 0 < x.1 := by omega
      clear hx0
      gi_wp2_with fail
      refine ⟨trivial, ?_⟩
      refine (CallsIn.inRound l (callsIn_wide.2 (Tryd.Builder_WriteString_k W1.heap.size W1.heap.size _ ⟨#[32, 60, 32]⟩ W3 hI3' (by rw [Lib.byteCells_length, List.length_append]; show _ + 3 ≤ _; omega) (by omega)))).mono ?_
      rintro e W4 ⟨rfl, hI4, hb4, ho4⟩
      have hS4 := hS3.trans (hN3.others ho4 (fun r e => by cases e; omega))
      have bX4 := boxed_others bX3 ho4 (by omega) (by decide)
      have hz4 := hb4.size
      have hK4 : Kq W1.heap.size (W1.heap.size + 1) W0 W4 := ⟨hK3.1.trans hb4, Eq.trans bX4 (Eq.symm bS)⟩
      have hKW4 : Kq W1.heap.size (W1.heap.size + 1) W W4 := Kq_t hKW3 ⟨hb4, Eq.trans bX4 (Eq.symm bX3)⟩
      have hI4' : Lib.IsBuilderF 93 5 W1.heap.size W1.heap.size (Lib.byteCells (txtB (pre ++ [x]))) W4 := by
        rw [HX.out, Lib.byteCells_append]; exact Or.inr hI4
      gi_wp2
      exact ⟨hS4, by omega, hKW4, hI4', hK4⟩
  case done =>
    rintro D ys W hD rfl ⟨hI, hK⟩ hKd
    have hz := hK.1.size
    gi_wp2_with fail
    refine ⟨trivial, ?_⟩
    refine (callsIn_wide.2 (Tryd.Builder_String_any_k W1.heap.size W1.heap.size (txtB (bwF ps ps.length)) W hI (by omega))).mono ?_
    rintro e W' ⟨rfl, hI', hb', ho'⟩
    have hK' : W'.heap[D]? = some (.deferred (some [])) := ho' D _ hKd (by simp; omega) (fun c fz e' => by cases e')
    have hD' : w.heap.size ≤ D := by have := hb1.size; omega
    gi_wp2
    refine ⟨by simp, .inl ⟨_, _, rfl, run_takeDeferred hK', ?_⟩⟩
    refine ⟨.tuple #[.string ⟨(txtB (bwF ps ps.length)).toArray⟩, .int .i64 0], by simp [results, Tryd.results11, go_sem], ?_, ?_⟩
    · rw [HT.out]; rfl
    · exact (hb1.trans (((hB0.trans hK.1).trans hb').mono hb1.size)).trans (belowK_b (w := w) (Nat.le_refl _) W' D _ _ hD' hK' rfl rfl)
  case stop =>
    rintro D c pre W _ _ h _
    exact h.elim

theorem text_any (A : Option Addr) (cap : Nat) (ps : List Pl) (w : World) (hE : Env w) (hA : At w A ps) (hc : chk ps = 0) :
    Calls Tryd.prog 11 #[.slice A ps.length cap] w fun e W' => e = .returned (.tuple #[.string (bts (txL ps)), .int .i64 0]) ∧ Below w.heap.size w W' :=
  callsIn_wide.1 (text_in 4 (Nat.le_refl _) A cap ps w hE hA hc)
end Go.Proofs.YtocdinaomkmcbaaDoor
