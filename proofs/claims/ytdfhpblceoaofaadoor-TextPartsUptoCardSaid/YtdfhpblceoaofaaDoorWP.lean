/-
  The contract of text.Wrap.
-/
import Derived.Test.YtdfhpblceoaofaaDoorWS
import Derived.Test.YtdfhpblceoaofaaDoorWD
namespace Go.Proofs.YtdfhpblceoaofaaDoor
open Go.ChangeShapes Go.WideShapes Go.ChangeAt Go.RowKit Go.Shelf
set_option linter.unusedVariables false
attribute [local go_sem] Oper.semAt_some

theorem len_any (B b : Nat) (line : List UInt8) (w : World) (h : Lib.IsBuilderF 57 5 B b (Lib.byteCells line) w) :
    Calls Tryd.prog 47 #[.pointer (some ⟨b, 0, none⟩)] w fun e w' => e = .returned (.int .i64 (line.length : Int)) ∧ w = w' :=
  (Tryd.Builder_Len_f B b _ w h).mono fun e w' h => ⟨by rw [h.1, Lib.byteCells_length], h.2.symm⟩

/-- What Wrap's loop holds between two rounds. -/
structure Ih (h : Nat) (s : ByteArray) (width : Int) (v : Value) (st : Ls) (w₀ W : World) : Prop where
  l : Boxed W (h + 1) 42 v
  f : Boxed W (h + 1 + 1 + 1) 3 (.int .i64 (st.fil : Int))
  w : Boxed W h 3 (.int .i64 width)
  s : Boxed W (h + 1 + 1 + 1 + 1) 9 (.string s)
  x : Boxed W (h + 1 + 1 + 1 + 1 + 1) 3 (.int .i64 width)
  row : W.ownsRow (h + 13) 9 1 v st.out.length (st.out.map Value.string)
  bd : Lib.IsBuilderF 57 5 (h + 1 + 1) (h + 1 + 1) (Lib.byteCells st.line) W
  bl : Below h w₀ W
theorem ih_own (h : Nat) (s : ByteArray) (width : Int) (w₀ : World) (hw : h ≤ w₀.heap.size) : OwnFrom (h + 6) (fun (pre : List (ByteArray × Nat)) W => ∃ v, Ih h s width v (foldL width pre) w₀ W) := by
  rintro pre A B row ⟨v, i⟩ hg hr
  refine ⟨v, ?_⟩
  have hb : ∀ k t' u, Boxed A k t' u → k < h + 6 → Boxed B k t' u := fun k t' u hb hk => hb.kept hg (fun e => by have := (hr _ e.symm).1; omega)
  exact {
    l := hb _ _ _ i.l (by omega), f := hb _ _ _ i.f (by omega), w := hb _ _ _ i.w (by omega), s := hb _ _ _ i.s (by omega), x := hb _ _ _ i.x (by omega)
    row := i.row.kept hg (by
      cases hv : v.ownBlock with
      | none => exact .inl rfl
      | some g => exact .inr (fun e => by
          obtain ⟨_, c, fz, ho⟩ := row_block i.row g hv
          obtain ⟨_, o, ho', hc⟩ := hr g e.symm
          rw [ho] at ho'; cases ho'; cases hc))
    bd := Own.from (builder_own 57 5 (h + 1 + 1) (h + 1 + 1) (fun _ : Unit => Lib.byteCells (foldL width pre).line)) (h + 6) () A B row i.bd hg hr
    bl := ownFrom_below (β := Unit) hw (by omega) () A B row i.bl hg hr }
theorem ws_any (B b : Nat) (line : List UInt8) (y : ByteArray) (w : World) (h : Lib.IsBuilderF 57 5 B b (Lib.byteCells line) w) (hlen : line.length + y.size ≤ 140737488355328) (hB : B ≤ w.heap.size) :
    Calls Tryd.prog 49 #[.pointer (some ⟨b, 0, none⟩), .string y] w fun e w' => e = .returned (.tuple #[.int .i64 (y.size : Int), .nilIface]) ∧ Lib.IsBuilderF 57 5 B b (Lib.byteCells (line ++ y.data.toList)) w' ∧ Below B w w' ∧ Lib.OthersKept 5 (some b) w w' :=
  (Tryd.Builder_WriteString_k B b _ y w h (by rw [Lib.byteCells_length]; exact hlen) hB).mono fun e w' h => ⟨h.1, .inr (by rw [Lib.byteCells_append]; exact h.2.1), h.2.2.1, h.2.2.2⟩
theorem wb_any (B b : Nat) (line : List UInt8) (w : World) (h : Lib.IsBuilderF 57 5 B b (Lib.byteCells line) w) (hlen : line.length + 1 ≤ 140737488355328) (hB : B ≤ w.heap.size) :
    Calls Tryd.prog 40 #[.pointer (some ⟨b, 0, none⟩), .int .u8 32] w fun e w' => e = .returned .nilIface ∧ Lib.IsBuilderF 57 5 B b (Lib.byteCells (line ++ [32])) w' ∧ Below B w w' ∧ Lib.OthersKept 5 (some b) w w' :=
  (Tryd.Builder_WriteByte_k B b _ 32 w h (by rw [Lib.byteCells_length]; exact hlen) hB).mono fun e w' h => ⟨h.1, .inr (by rw [Lib.byteCells_append]; exact h.2.1), h.2.2.1, h.2.2.2⟩
theorem post_of {h B : Nat} {s : ByteArray} {width : Int} {v : Value} {out : List ByteArray} {line : List UInt8} {fil : Nat} {V W' w₀ : World} {l : List (ByteArray × Nat)} (T : St h s width v v out line (fil : Int) V W') (hbl : Below h w₀ V) (z1 : B ≤ h + 6) (z2 : h + 6 ≤ B)
    (bS : Boxed V (h + 1 + 1 + 1 + 1) 9 (.string s)) (bX : Boxed V (h + 1 + 1 + 1 + 1 + 1) 3 (.int .i64 width)) (HS : foldL width l = ⟨out, line, fil⟩) :
    Same B (B + 2 + 5) V W' ∧ V.heap.size ≤ W'.heap.size ∧ Kq h (h + 1 + 1 + 1 + 1) (h + 1 + 1 + 1 + 1 + 1) V W' ∧ ∃ v, Ih h s width v (foldL width l) w₀ W' :=
  ⟨T.sm.mono (by omega) (by omega), T.bl.size, ⟨T.bl, Eq.trans T.s (Eq.symm bS), Eq.trans T.x (Eq.symm bX)⟩, v, by
    rw [HS]
    exact { l := T.l, f := T.f, w := T.w, s := T.s, x := T.x, row := T.row, bd := T.bd, bl := hbl.trans T.bl }⟩
/-- What is in hand behind the loop. -/
structure Fn (h D : Nat) (vb v : Value) (out : List ByteArray) (line : List UInt8) (w₀ W : World) : Prop where
  l : Boxed W (h + 1) 42 vb
  row : W.ownsRow h 9 1 v out.length (out.map Value.string)
  bd : Lib.IsBuilderF 57 5 (h + 1 + 1) (h + 1 + 1) (Lib.byteCells line) W
  bl : Below h w₀ W
  dk : W.heap[D]? = some (.deferred (some []))
theorem Fn.lt {h D : Nat} {vb v : Value} {out : List ByteArray} {line : List UInt8} {w₀ W : World} (t : Fn h D vb v out line w₀ W) : h + 1 + 1 < W.heap.size := by
  obtain ⟨p, u, hb⟩ := builder_cells0 t.bd
  exact (Array.getElem?_eq_some_iff.1 hb).1
theorem Fn.call {h D : Nat} {vb v : Value} {out : List ByteArray} {line : List UInt8} {w₀ W W' : World} (t : Fn h D vb v out line w₀ W) (hI : Lib.IsBuilderF 57 5 (h + 1 + 1) (h + 1 + 1) (Lib.byteCells line) W') (hb : Below (h + 1 + 1) W W') (ho : Lib.OthersKept 5 (some (h + 1 + 1)) W W') : Fn h D vb v out line w₀ W' where
  l := box_others t.l ho (by omega) (by decide)
  row := by
    obtain ⟨h1, h2⟩ := t.row
    refine ⟨h1, ?_⟩
    rcases h2 with h2 | ⟨g, cap, cur, a, b, c, d⟩
    · exact .inl h2
    · refine .inr ⟨g, cap, cur, a, b, ho g _ c (fun e => ?_) (fun c fz e => by cases e), d⟩
      obtain ⟨p, u, hb⟩ := builder_cells0 t.bd
      rw [Option.some.inj e] at c
      rw [hb] at c; cases c
  bd := hI
  bl := t.bl.trans (hb.mono (by omega))
  dk := ho D _ t.dk (fun e => by
    obtain ⟨p, u, hb⟩ := builder_cells0 t.bd
    have := t.dk
    rw [Option.some.inj e, hb] at this; cases this) (fun c fz e => by cases e)
theorem Fn.alloc {h D : Nat} {vb v : Value} {out : List ByteArray} {line : List UInt8} {w₀ W : World} (t : Fn h D vb v out line w₀ W) (o : Obj) : Fn h D vb v out line w₀ (W.alloc o) where
  l := t.l.alloc o
  row := t.row.alloc o
  bd := t.bd.alloc o
  bl := t.bl.alloc (by have := t.lt; omega) o
  dk := (Below.heap_alloc W o D (Array.getElem?_eq_some_iff.1 t.dk).1).trans t.dk
theorem Fn.drew {h D : Nat} {vb v : Value} {out : List ByteArray} {line : List UInt8} {w₀ W : World} (t : Fn h D vb v out line w₀ W) : Fn h D vb v out line w₀ W.drew where
  l := t.l
  row := t.row
  bd := t.bd
  bl := t.bl.drew
  dk := t.dk
theorem Fn.append {h D : Nat} {vb v : Value} {out : List ByteArray} {line : List UInt8} {w₀ W W' : World} (t : Fn h D vb v out line w₀ W) {v' : Value} {y : ByteArray} (hown : W'.ownsRow h 9 1 v' (out.length + 1) (out.map Value.string ++ [.string y])) (hg : W.grownBy W' v.ownBlock) : Fn h D vb v' (out ++ [y]) line w₀ W' where
  l := t.l.kept hg (fun e => by
    obtain ⟨_, c, fz, ho⟩ := row_block t.row _ e.symm
    rw [show _ = _ from t.l] at ho; cases ho)
  row := by rw [List.length_append, List.map_append]; exact hown
  bd := builder_kept t.bd hg (fun r e => by obtain ⟨c, fz, ho⟩ := (row_block t.row r e).2; exact ⟨_, _, _, ho, by decide, by decide⟩)
  bl := t.bl.grown hg (by have := t.lt; omega) (fun j e => (row_block t.row j e).1)
  dk := (hg.block D (Array.getElem?_eq_some_iff.1 t.dk).1 (fun e => by
    obtain ⟨_, c, fz, ho⟩ := row_block t.row D e.symm
    rw [t.dk] at ho; cases ho)).trans t.dk
theorem Fn.setL {h D : Nat} {vb v : Value} {out : List ByteArray} {line : List UInt8} {w₀ W : World} (t : Fn h D vb v out line w₀ W) (u : Value) : Fn h D u v out line w₀ (W.setCell ⟨h + 1, 0, none⟩ u) where
  l := t.l.set u
  row := t.row.kept (grownBy_setCell' W (h + 1) u) (.inr (fun e => by
    obtain ⟨_, c, fz, ho⟩ := row_block t.row _ e
    rw [show _ = _ from t.l] at ho; cases ho))
  bd := builder_set t.bd t.l (by decide) (by decide) u
  bl := t.bl.setCell (p := ⟨h + 1, 0, none⟩) (by show h ≤ h + 1; omega) u
  dk := (KeepsOthers.setCell W ⟨h + 1, 0, none⟩ u).same D _ t.dk rfl
theorem with_frm3 {H : Prop} (z : Nat → Nat → Nat → Act) (h : ∀ fr, fr = z → H) : H := h z rfl
theorem info9 : (Tryd.prog.info? 9).map (fun i => (i.zero, i.size, i.bytes)) = some (some (.string ByteArray.empty), 1, 16) := by kernel_rfl

set_option maxRecDepth 100000 in
set_option maxHeartbeats 4000000 in
theorem wrap_in (n : Nat) (hn : 10 ≤ n) (s : ByteArray) (width : Int) (w : World) (h2 : 2 ≤ w.heap.size) (hT : Lib.Utf8Tabs 0 1 w) (hsz : s.size ≤ 1099511627776) (hw4 : 4 ≤ width) (hhi : width ≤ 9223372036854775807) :
    CallsIn Fence.wide n Tryd.prog 27 #[.string s, .int .i64 width] w fun e W' => (∃ v, e = .returned (.tuple #[v, .int .i64 0]) ∧ W'.ownsRow w.heap.size 9 1 v (linesOf width (WL width s)).length ((linesOf width (WL width s)).map Value.string)) ∧ Below w.heap.size w W' := by
  have h1 : 1 ≤ n := by omega
  obtain ⟨i0, hi, hz0, hz1, hz2⟩ := info_parts info9
  refine callsIn_of_wp_marks Tryd.func27 rfl trivial ?_ rfl
  have hd4 : decide (width < 4) = false := decide_eq_false (by omega)
  simp only [Tryd.ntmps27, List.size_toArray, List.length_cons, List.length_nil, Nat.reduceAdd, Nat.reduceSub, Array.replicate_succ, Array.replicate_zero, List.push_toArray, List.append_toArray, List.nil_append, List.cons_append]
  gi_wp2_with fail
  refine ⟨trivial, ?_⟩
  refine (callsIn_wide.2 (wordsSeq_any s width _)).mono ?_
  rintro e w' ⟨rfl, rfl⟩
  gi_wp2
  have hz0 : ((((((w.alloc (.cells #[.int .i64 width] 3)).alloc (.cells #[.slice none 0 0] 42)).alloc (.cells #[.pointer none, .slice none 0 0] 57)).alloc (.cells #[.int .i64 0] 3)).alloc (.cells #[.string s] 9)).alloc (.cells #[.int .i64 width] 3)).heap.size = w.heap.size + 6 := by simp
  have i0' : Ih w.heap.size s width (.slice none 0 0) (foldL width []) w ((((((w.alloc (.cells #[.int .i64 width] 3)).alloc (.cells #[.slice none 0 0] 42)).alloc (.cells #[.pointer none, .slice none 0 0] 57)).alloc (.cells #[.int .i64 0] 3)).alloc (.cells #[.string s] 9)).alloc (.cells #[.int .i64 width] 3)) := {
    l := by
      have := ((((Boxed.new (w.alloc (.cells #[.int .i64 width] 3)) 42 (.slice none 0 0)).alloc (.cells #[.pointer none, .slice none 0 0] 57)).alloc (.cells #[.int .i64 0] 3)).alloc (.cells #[.string s] 9)).alloc (.cells #[.int .i64 width] 3)
      simpa only [World.size_alloc] using this
    f := by
      have := ((Boxed.new (((w.alloc (.cells #[.int .i64 width] 3)).alloc (.cells #[.slice none 0 0] 42)).alloc (.cells #[.pointer none, .slice none 0 0] 57)) 3 (.int .i64 0)).alloc (.cells #[.string s] 9)).alloc (.cells #[.int .i64 width] 3)
      simp only [World.size_alloc] at this; exact this
    w := (((((Boxed.new w 3 (.int .i64 width)).alloc (.cells #[.slice none 0 0] 42)).alloc (.cells #[.pointer none, .slice none 0 0] 57)).alloc (.cells #[.int .i64 0] 3)).alloc (.cells #[.string s] 9)).alloc (.cells #[.int .i64 width] 3)
    s := by
      have := (Boxed.new ((((w.alloc (.cells #[.int .i64 width] 3)).alloc (.cells #[.slice none 0 0] 42)).alloc (.cells #[.pointer none, .slice none 0 0] 57)).alloc (.cells #[.int .i64 0] 3)) 9 (.string s)).alloc (.cells #[.int .i64 width] 3)
      simpa only [World.size_alloc] using this
    x := by
      have := Boxed.new (((((w.alloc (.cells #[.int .i64 width] 3)).alloc (.cells #[.slice none 0 0] 42)).alloc (.cells #[.pointer none, .slice none 0 0] 57)).alloc (.cells #[.int .i64 0] 3)).alloc (.cells #[.string s] 9)) 3 (.int .i64 width)
      simpa only [World.size_alloc] using this
    row := World.ownsRow_nil _ _ _ _
    bd := by
      have := (((Lib.IsBuilderF.of (Lib.fresh_isBuilder 57 5 ((w.alloc (.cells #[.int .i64 width] 3)).alloc (.cells #[.slice none 0 0] 42)))).alloc (.cells #[.int .i64 0] 3)).alloc (.cells #[.string s] 9)).alloc (.cells #[.int .i64 width] 3)
      simp only [World.size_alloc] at this; exact this
    bl := ((((((Below.refl _ w).alloc (Nat.le_refl _) _).alloc (by simp) _).alloc (by simp; omega) _).alloc (by simp; omega) _).alloc (by simp; omega) _).alloc (by simp; omega) _ }
  obtain ⟨W0, hW0⟩ : ∃ W0, (((((w.alloc (.cells #[.int .i64 width] 3)).alloc (.cells #[.slice none 0 0] 42)).alloc (.cells #[.pointer none, .slice none 0 0] 57)).alloc (.cells #[.int .i64 0] 3)).alloc (.cells #[.string s] 9)).alloc (.cells #[.int .i64 width] 3) = W0 := ⟨_, rfl⟩
  rw [hW0] at i0' hz0 ⊢
  clear hW0
  have hza : w.heap.size + 6 ≤ W0.heap.size := by omega
  have hzb : W0.heap.size ≤ w.heap.size + 6 := by omega
  have hT0 := tabs_below hT i0'.bl h2
  have hO := ih_own w.heap.size s width w (Nat.le_refl _)
  rw [← hz0] at hO
  clear hz0
  apply with_frm (α := ByteArray × Nat)
  intro fr hfr
  refine wpIn_range_wide (k := 5) rfl h1 (gf := 58) (lb := #[.pointer (some ⟨w.heap.size + 1 + 1 + 1 + 1, 0, none⟩), .pointer (some ⟨w.heap.size + 1 + 1 + 1 + 1 + 1, 0, none⟩)]) rfl trivial (enters_of Tryd.func58 (by kernel_rfl) rfl)
    (words_w (n - 1) (by omega) (w.heap.size + 1 + 1 + 1 + 1) (w.heap.size + 1 + 1 + 1 + 1 + 1) w.heap.size s width W0 (by omega) (by omega) (by omega) h2 i0'.s.cell i0'.x.cell hT0 hsz hw4 hhi) Kq_t (Kq_b (by omega) (by omega) (by omega)) (fun _ => rfl)
    (fun pre V => ∃ v, Ih w.heap.size s width v (foldL width pre) w V)
    (fun _ _ _ => False)
    hO
    (fun _ _ _ _ _ hs _ _ => hs)
    ⟨_, i0'⟩
    fr ?assign ?body ?done ?stop
  case assign =>
    intro l x W K hK
    rw [hfr] at hK
    dsimp only [encP]
    gi_wp2
    exact hK
  case stop =>
    rintro D c pre W _ _ h _
    exact h.elim
  case body =>
    rintro l pre x V ⟨v, iV⟩ hpx hN
    rw [hfr]
    clear hfr hO i0' hT0
    have hcost := cost_prefix hpx
    have hcW := cost_WL width hw4 s
    rw [cost_append, cost_cons, show cost [] = 0 from rfl] at hcost
    obtain ⟨f1, f2, f3⟩ := foldL_le width pre
    obtain ⟨m1, m2, m3, m4⟩ := WL_mem hw4 (hpx.subset (by simp : x ∈ pre ++ [x]))
    have hsn := foldL_snoc width pre x
    clear hpx m3
    generalize foldL width pre = st at *
    generalize cost pre = c at *
    generalize cost (WL width s) = cw at *
    obtain ⟨out, line, fil⟩ := st
    simp only at f1 f2 f3
    have T0 : St w.heap.size s width v v out line (fil : Int) V V := { l := iV.l, f := iV.f, w := iV.w, s := iV.s, x := iV.x, row := iV.row, bd := iV.bd, sm := Same.refl _ _ _, nb := fun j h1 h2 => hN j (by omega) (by omega), bl := Below.refl _ _ }
    have hbl := iV.bl
    clear iV hN
    have hd : 1 ≤ n - 1 - 1 := by omega
    obtain ⟨y, k⟩ := x
    simp only at hcost m1 m2 m4
    have bS := T0.s
    have bX := T0.x
    by_cases hl : line = []
    · have HS := Lib.hid (hsn.trans (step_empty hl))
      subst hl
      clear hsn
      gi_wp2_with fail
      refine ⟨trivial, ?_⟩
      refine (CallsIn.inRound l (callsIn_wide.2 (len_any _ _ _ V T0.bd))).mono ?_
      rintro e w' ⟨rfl, rfl⟩
      gi_wp2_with fail
      refine ⟨trivial, ?_⟩
      refine (CallsIn.inRound l (callsIn_wide.2 (len_any _ _ _ V T0.bd))).mono ?_
      rintro e w' ⟨rfl, rfl⟩
      gi_wp2_with fail
      refine ⟨trivial, ?_⟩
      refine (CallsIn.inRound l (callsIn_wide.2 (ws_any _ _ _ y V T0.bd (by simp; omega) (by have := T0.top; omega)))).mono ?_
      rintro e W1 ⟨rfl, hI1, hb1, ho1⟩
      have T1 := T0.call hI1 hb1 ho1
      clear hI1 hb1 ho1
      have cF := T1.f.cell
      have fF := T1.f.frozen
      have hwr : IntKind.i64.wrap ((fil : Int) + (k : Int)) = (fil : Int) + (k : Int) := IntWalk.i64_in _ (by omega)
      gi_wp2
      have T2 := T1.setF ((fil : Int) + (k : Int))
      exact post_of (fil := fil + k) (by rw [Int.natCast_add]; exact T2) hbl hzb hza bS bX HS.out
    · have hlp : 0 < line.length := by cases line with | nil => exact absurd rfl hl | cons a b => simp
      have hlp' : (0 : Int) < (line.length : Int) := by omega
      have cF := T0.f.cell
      have cW := T0.w.cell
      have hsub : IntKind.i64.wrap (width - (fil : Int)) = width - (fil : Int) := IntWalk.i64_in _ (by omega)
      have hone : IntKind.i64.wrap (1 + (k : Int)) = 1 + (k : Int) := IntWalk.i64_in _ (by omega)
      by_cases hfl : width - (fil : Int) < 1 + (k : Int)
      · have HS := Lib.hid (hsn.trans (step_flush hl hfl))
        have HL := Lib.hid hl
        clear hsn hl
        have hmx : Tryd.prog.follows .mixedOrders = true := by kernel_rfl
        gi_wp2_with fail
        refine ⟨trivial, ?_⟩
        refine (CallsIn.inRound l (callsIn_wide.2 (len_any _ _ _ V T0.bd))).mono ?_
        rintro e w' ⟨rfl, rfl⟩
        gi_wp2_with fail
        apply with_frm3
        intro fb hfb
        refine wpIn_mono (Q := fun e a' W3 => e = .normal ∧ ∃ g cap nb, a' = fb g cap nb ∧ St w.heap.size s width (.slice (some ⟨g, 0, none⟩) (out.length + 1) cap) (.slice (some ⟨g, 0, none⟩) (out.length + 1) cap) (out ++ [⟨line.toArray⟩]) line (fil : Int) V W3) ?reg ?rest
        case reg =>
          refine wpIn_region_any (by assumption) ?_
          change wpAnyIn _ _ _ _ _ _ _ _ _ (World.drew _)
          have Td := T0.drew
          have htop := Td.top
          have cL : V.drew.cell? ⟨w.heap.size + 1, 0, none⟩ = some v := Td.l.cell
          refine wpAnyIn_ready (rs := [0, 1]) (by kernel_rfl) (by simp) ?_
          refine AllReadyIn.cons rfl (fun K hK => ?_) (AllReadyIn.cons rfl (fun K hK => ?_) AllReadyIn.nil)
          · -- the load, the call, the block
            go_simp
            refine hK _ _ ?_
            clear hK K
            refine wpAnyIn_ready (rs := [1]) (by kernel_rfl) (by simp) ?_
            refine AllReadyIn.cons rfl (fun K hK => ?_) AllReadyIn.nil
            go_simp
            gi_wp2_with (refine ⟨trivial, ?_⟩; gi_at_call 36; refine (CallsIn.inRound l (callsIn_wide.2 (Tryd.Builder_String_any_k _ _ line _ Td.bd (by omega)))).mono ?_; rintro e W2 ⟨rfl, hI2, hb2, ho2⟩)
            have T2 := Td.call hI2 hb2 ho2
            clear cL hI2 hb2 ho2
            refine wpAnyIn_ready (rs := [2]) (by kernel_rfl) (by simp) ?_
            refine AllReadyIn.cons rfl (fun K hK => ?_) AllReadyIn.nil
            go_simp
            refine hK _ _ ?_
            clear hK K
            refine wpAnyIn_ready (rs := [3]) (by kernel_rfl) (by simp) ?_
            refine AllReadyIn.cons rfl (fun K hK => ?_) AllReadyIn.nil
            have Ta := T2.alloc (.cells #[.string ⟨line.toArray⟩] 9)
            have hta := Ta.top
            refine stepIn_append_own (by rfl) (.tmp 28) (.tmp 30) 42 (by rfl) (w.heap.size + 13) 9 i0 (.string ByteArray.empty) 1 16 Tryd.underlying42 hi hz0 hz1 hz2 (by rfl) (by decide) v out.length (out.map Value.string) (by rfl) Ta.row ⟨W2.heap.size, 0, none⟩ 1 1 [.string ⟨line.toArray⟩] (by rfl) (by rfl) (cell_one_new _ _ _) (by simp [Value.oneCell']) (by unfold maxLen; omega) (by omega) hta ?_
            intro v' W3 hown hgrow
            refine hK _ _ ?_
            clear hK K
            obtain ⟨g', cap', rfl⟩ := ownsRow_succ hown
            have T3 := Ta.append hown hgrow
            have cL3 := T3.l.cell
            have fL3 := T3.l.frozen
            clear hown hgrow Ta T2
            refine wpAnyIn_ready (rs := [4]) (by kernel_rfl) (by simp) ?_
            refine AllReadyIn.cons rfl (fun K hK => ?_) AllReadyIn.nil
            go_simp
            refine hK _ _ ?_
            clear hK K
            refine wpAnyIn_done (by kernel_rfl) ?_ _
            refine ⟨rfl, g', cap', W2.heap.size, ?_, T3.setL _⟩
            generalize W2.heap.size = nb
            exact (congrFun (congrFun (congrFun hfb g') cap') nb).symm
          · -- the call ahead of the load
            go_simp
            gi_wp2_with (refine ⟨trivial, ?_⟩; gi_at_call 36; refine (CallsIn.inRound l (callsIn_wide.2 (Tryd.Builder_String_any_k _ _ line _ Td.bd (by omega)))).mono ?_; rintro e W2 ⟨rfl, hI2, hb2, ho2⟩)
            have T2 := Td.call hI2 hb2 ho2
            clear cL hI2 hb2 ho2
            refine wpAnyIn_ready (rs := [0, 2]) (by kernel_rfl) (by simp) ?_
            refine AllReadyIn.cons rfl (fun K hK => ?_) (AllReadyIn.cons rfl (fun K hK => ?_) AllReadyIn.nil)
            have cL : W2.cell? ⟨w.heap.size + 1, 0, none⟩ = some v := T2.l.cell
            go_simp
            refine hK _ _ ?_
            clear hK K
            refine wpAnyIn_ready (rs := [2]) (by kernel_rfl) (by simp) ?_
            refine AllReadyIn.cons rfl (fun K hK => ?_) AllReadyIn.nil
            go_simp
            refine hK _ _ ?_
            clear hK K
            clear cL
            refine wpAnyIn_ready (rs := [3]) (by kernel_rfl) (by simp) ?_
            refine AllReadyIn.cons rfl (fun K hK => ?_) AllReadyIn.nil
            have Ta := T2.alloc (.cells #[.string ⟨line.toArray⟩] 9)
            have hta := Ta.top
            refine stepIn_append_own (by rfl) (.tmp 28) (.tmp 30) 42 (by rfl) (w.heap.size + 13) 9 i0 (.string ByteArray.empty) 1 16 Tryd.underlying42 hi hz0 hz1 hz2 (by rfl) (by decide) v out.length (out.map Value.string) (by rfl) Ta.row ⟨W2.heap.size, 0, none⟩ 1 1 [.string ⟨line.toArray⟩] (by rfl) (by rfl) (cell_one_new _ _ _) (by simp [Value.oneCell']) (by unfold maxLen; omega) (by omega) hta ?_
            intro v' W3 hown hgrow
            refine hK _ _ ?_
            clear hK K
            obtain ⟨g', cap', rfl⟩ := ownsRow_succ hown
            have T3 := Ta.append hown hgrow
            have cL3 := T3.l.cell
            have fL3 := T3.l.frozen
            clear hown hgrow Ta T2
            refine wpAnyIn_ready (rs := [4]) (by kernel_rfl) (by simp) ?_
            refine AllReadyIn.cons rfl (fun K hK => ?_) AllReadyIn.nil
            go_simp
            refine hK _ _ ?_
            clear hK K
            refine wpAnyIn_done (by kernel_rfl) ?_ _
            refine ⟨rfl, g', cap', W2.heap.size, ?_, T3.setL _⟩
            generalize W2.heap.size = nb
            exact (congrFun (congrFun (congrFun hfb g') cap') nb).symm
            go_simp
            refine hK _ _ ?_
            clear hK K
            have cL : (W2.alloc (.cells #[.string ⟨line.toArray⟩] 9)).cell? ⟨w.heap.size + 1, 0, none⟩ = some v := (T2.alloc _).l.cell
            refine wpAnyIn_ready (rs := [0]) (by kernel_rfl) (by simp) ?_
            refine AllReadyIn.cons rfl (fun K hK => ?_) AllReadyIn.nil
            go_simp
            refine hK _ _ ?_
            clear hK K
            clear cL
            refine wpAnyIn_ready (rs := [3]) (by kernel_rfl) (by simp) ?_
            refine AllReadyIn.cons rfl (fun K hK => ?_) AllReadyIn.nil
            have Ta := T2.alloc (.cells #[.string ⟨line.toArray⟩] 9)
            have hta := Ta.top
            refine stepIn_append_own (by rfl) (.tmp 28) (.tmp 30) 42 (by rfl) (w.heap.size + 13) 9 i0 (.string ByteArray.empty) 1 16 Tryd.underlying42 hi hz0 hz1 hz2 (by rfl) (by decide) v out.length (out.map Value.string) (by rfl) Ta.row ⟨W2.heap.size, 0, none⟩ 1 1 [.string ⟨line.toArray⟩] (by rfl) (by rfl) (cell_one_new _ _ _) (by simp [Value.oneCell']) (by unfold maxLen; omega) (by omega) hta ?_
            intro v' W3 hown hgrow
            refine hK _ _ ?_
            clear hK K
            obtain ⟨g', cap', rfl⟩ := ownsRow_succ hown
            have T3 := Ta.append hown hgrow
            have cL3 := T3.l.cell
            have fL3 := T3.l.frozen
            clear hown hgrow Ta T2
            refine wpAnyIn_ready (rs := [4]) (by kernel_rfl) (by simp) ?_
            refine AllReadyIn.cons rfl (fun K hK => ?_) AllReadyIn.nil
            go_simp
            refine hK _ _ ?_
            clear hK K
            refine wpAnyIn_done (by kernel_rfl) ?_ _
            refine ⟨rfl, g', cap', W2.heap.size, ?_, T3.setL _⟩
            generalize W2.heap.size = nb
            exact (congrFun (congrFun (congrFun hfb g') cap') nb).symm
        case rest =>
          rintro e a' W3 ⟨rfl, g, cap, nb, rfl, T3⟩
          rw [hfb]
          clear hfb
          gi_wp2_with fail
          refine ⟨trivial, ?_⟩
          refine (CallsIn.inRound l (callsIn_wide.2 (reset_any _ _ _ W3 T3.bd))).mono ?_
          rintro e W4 ⟨rfl, hI4, hg4⟩
          have T4 := T3.reset hI4 hg4
          clear hI4 hg4
          have cF4 := T4.f.cell
          have fF4 := T4.f.frozen
          have T5 := T4.setF 0
          gi_wp2_with fail
          refine ⟨trivial, ?_⟩
          refine (CallsIn.inRound l (callsIn_wide.2 (len_any _ _ [] _ T5.bd))).mono ?_
          rintro e w' ⟨rfl, rfl⟩
          gi_wp2_with fail
          refine ⟨trivial, ?_⟩
          refine (CallsIn.inRound l (callsIn_wide.2 (ws_any _ _ [] y _ T5.bd (by simp; omega) (by have := T5.top; omega)))).mono ?_
          rintro e W6 ⟨rfl, hI6, hb6, ho6⟩
          have T6 := T5.call hI6 hb6 ho6
          clear hI6 hb6 ho6 cF fF4 cF4 cW
          have cF6 := T6.f.cell
          have fF6 := T6.f.frozen
          gi_wp2
          exact post_of (fil := k) (T6.setF (k : Int)) hbl hzb hza bS bX HS.out
      · have HS := Lib.hid (hsn.trans (step_go hl hfl))
        have HL := Lib.hid hl
        clear hsn hl
        have hfl' : decide (width - (fil : Int) < 1 + (k : Int)) = false := decide_eq_false hfl
        have hon : IntKind.i64.wrap ((fil : Int) + 1) = (fil : Int) + 1 := IntWalk.i64_in _ (by omega)
        have hon2 : IntKind.i64.wrap ((fil : Int) + 1 + (k : Int)) = (fil : Int) + 1 + (k : Int) := IntWalk.i64_in _ (by omega)
        gi_wp2_with fail
        refine ⟨trivial, ?_⟩
        refine (CallsIn.inRound l (callsIn_wide.2 (len_any _ _ _ V T0.bd))).mono ?_
        rintro e w' ⟨rfl, rfl⟩
        gi_wp2_with fail
        refine ⟨trivial, ?_⟩
        refine (CallsIn.inRound l (callsIn_wide.2 (len_any _ _ _ V T0.bd))).mono ?_
        rintro e w' ⟨rfl, rfl⟩
        gi_wp2_with fail
        refine ⟨trivial, ?_⟩
        refine (CallsIn.inRound l (callsIn_wide.2 (wb_any _ _ _ V T0.bd (by omega) (by have := T0.top; omega)))).mono ?_
        rintro e W1 ⟨rfl, hI1, hb1, ho1⟩
        have T1 := T0.call hI1 hb1 ho1
        clear hI1 hb1 ho1 cF cW
        have cF1 := T1.f.cell
        have fF1 := T1.f.frozen
        have T2 := T1.setF ((fil : Int) + 1)
        gi_wp2_with fail
        refine ⟨trivial, ?_⟩
        refine (CallsIn.inRound l (callsIn_wide.2 (ws_any _ _ _ y _ T2.bd (by simp; omega) (by have := T2.top; omega)))).mono ?_
        rintro e W3 ⟨rfl, hI3, hb3, ho3⟩
        have T3 := T2.call hI3 hb3 ho3
        clear hI3 hb3 ho3 cF1 fF1
        have cF3 := T3.f.cell
        have fF3 := T3.f.frozen
        gi_wp2
        have T4 := T3.setF ((fil : Int) + 1 + (k : Int))
        rw [List.append_assoc] at T4
        exact post_of (fil := fil + 1 + k) (by rw [Int.natCast_add, Int.natCast_add]; exact T4) hbl hzb hza bS bX HS.out
  case done =>
    rintro D ys W hD rfl ⟨v, iV⟩ hK
    clear hfr hO i0' hT0
    have hcW := cost_WL width hw4 s
    obtain ⟨f1, f2, f3⟩ := foldL_le width (WL width s)
    have hlin : linesOf width (WL width s) = if (foldL width (WL width s)).line = [] then (foldL width (WL width s)).out else (foldL width (WL width s)).out ++ [⟨(foldL width (WL width s)).line.toArray⟩] := rfl
    generalize foldL width (WL width s) = st at *
    generalize cost (WL width s) = cw at *
    obtain ⟨out, line, fil⟩ := st
    simp only at f1 f2 f3 hlin
    have T0 : Fn w.heap.size D v v out line w W := { l := iV.l, row := own_base iV.row (Nat.le_add_right _ _), bd := iV.bd, bl := iV.bl, dk := hK }
    clear iV hK
    have hDw : w.heap.size ≤ D := by omega
    by_cases hl : line = []
    · rw [if_pos hl] at hlin
      subst hl
      have HL := Lib.hid hlin
      clear hlin
      have cL := T0.l.cell
      gi_wp2_with fail
      refine ⟨trivial, ?_⟩
      refine (callsIn_wide.2 (len_any _ _ _ W T0.bd)).mono ?_
      rintro e w' ⟨rfl, rfl⟩
      gi_wp2
      refine ⟨by simp, .inl ⟨_, _, rfl, run_takeDeferred T0.dk, ?_⟩⟩
      exact ⟨.tuple #[v, .int .i64 0], by simp [results, Tryd.results27, go_sem], ⟨v, rfl, by rw [HL.out]; exact ownsRow_putObj T0.row _ T0.dk rfl⟩, T0.bl.trans (belowK_b (w := w) (Nat.le_refl _) W D _ _ hDw T0.dk rfl rfl)⟩
    · rw [if_neg hl] at hlin
      have HL := Lib.hid hlin
      have hlp : 0 < line.length := by cases line with | nil => exact absurd rfl hl | cons a b => simp
      have hlp' : (0 : Int) < (line.length : Int) := by omega
      clear hlin hl
      have hmx : Tryd.prog.follows .mixedOrders = true := by kernel_rfl
      gi_wp2_with fail
      refine ⟨trivial, ?_⟩
      refine (callsIn_wide.2 (len_any _ _ _ W T0.bd)).mono ?_
      rintro e w' ⟨rfl, rfl⟩
      gi_wp2_with fail
      apply with_frm3
      intro fb hfb
      refine wpIn_mono (Q := fun e a' W3 => e = .normal ∧ ∃ g cap nb, a' = fb g cap nb ∧ Fn w.heap.size D (.slice (some ⟨g, 0, none⟩) (out.length + 1) cap) (.slice (some ⟨g, 0, none⟩) (out.length + 1) cap) (out ++ [⟨line.toArray⟩]) line w W3) ?reg ?rest
      case reg =>
        refine wpIn_region_any (by assumption) ?_
        change wpAnyIn _ _ _ _ _ _ _ _ _ (World.drew _)
        have Td := T0.drew
        have htop := Td.lt
        have cL : W.drew.cell? ⟨w.heap.size + 1, 0, none⟩ = some v := Td.l.cell
        refine wpAnyIn_ready (rs := [0, 1]) (by kernel_rfl) (by simp) ?_
        refine AllReadyIn.cons rfl (fun K hK => ?_) (AllReadyIn.cons rfl (fun K hK => ?_) AllReadyIn.nil)
        · -- the load, the call, the block
          go_simp
          refine hK _ _ ?_
          clear hK K
          refine wpAnyIn_ready (rs := [1]) (by kernel_rfl) (by simp) ?_
          refine AllReadyIn.cons rfl (fun K hK => ?_) AllReadyIn.nil
          go_simp
          gi_wp2_with (refine ⟨trivial, ?_⟩; gi_at_call 36; refine (callsIn_wide.2 (Tryd.Builder_String_any_k _ _ line _ Td.bd (by omega))).mono ?_; rintro e W2 ⟨rfl, hI2, hb2, ho2⟩)
          have T2 := Td.call hI2 hb2 ho2
          clear cL hI2 hb2 ho2
          refine wpAnyIn_ready (rs := [2]) (by kernel_rfl) (by simp) ?_
          refine AllReadyIn.cons rfl (fun K hK => ?_) AllReadyIn.nil
          go_simp
          refine hK _ _ ?_
          clear hK K
          refine wpAnyIn_ready (rs := [3]) (by kernel_rfl) (by simp) ?_
          refine AllReadyIn.cons rfl (fun K hK => ?_) AllReadyIn.nil
          have Ta := T2.alloc (.cells #[.string ⟨line.toArray⟩] 9)
          have hta := Ta.lt
          refine stepIn_append_own (by rfl) (.tmp 45) (.tmp 47) 42 (by rfl) w.heap.size 9 i0 (.string ByteArray.empty) 1 16 Tryd.underlying42 hi hz0 hz1 hz2 (by rfl) (by decide) v out.length (out.map Value.string) (by rfl) Ta.row ⟨W2.heap.size, 0, none⟩ 1 1 [.string ⟨line.toArray⟩] (by rfl) (by rfl) (cell_one_new _ _ _) (by simp [Value.oneCell']) (by unfold maxLen; omega) (by omega) (by omega) ?_
          intro v' W3 hown hgrow
          refine hK _ _ ?_
          clear hK K
          obtain ⟨g', cap', rfl⟩ := ownsRow_succ hown
          have T3 := Ta.append hown hgrow
          have cL3 := T3.l.cell
          have fL3 := T3.l.frozen
          clear hown hgrow Ta T2
          refine wpAnyIn_ready (rs := [4]) (by kernel_rfl) (by simp) ?_
          refine AllReadyIn.cons rfl (fun K hK => ?_) AllReadyIn.nil
          go_simp
          refine hK _ _ ?_
          clear hK K
          refine wpAnyIn_done (by kernel_rfl) ?_ _
          refine ⟨rfl, g', cap', W2.heap.size, ?_, T3.setL _⟩
          generalize W2.heap.size = nb
          exact (congrFun (congrFun (congrFun hfb g') cap') nb).symm
        · -- the call ahead of the load
          go_simp
          gi_wp2_with (refine ⟨trivial, ?_⟩; gi_at_call 36; refine (callsIn_wide.2 (Tryd.Builder_String_any_k _ _ line _ Td.bd (by omega))).mono ?_; rintro e W2 ⟨rfl, hI2, hb2, ho2⟩)
          have T2 := Td.call hI2 hb2 ho2
          clear cL hI2 hb2 ho2
          refine wpAnyIn_ready (rs := [0, 2]) (by kernel_rfl) (by simp) ?_
          refine AllReadyIn.cons rfl (fun K hK => ?_) (AllReadyIn.cons rfl (fun K hK => ?_) AllReadyIn.nil)
          have cL : W2.cell? ⟨w.heap.size + 1, 0, none⟩ = some v := T2.l.cell
          go_simp
          refine hK _ _ ?_
          clear hK K
          refine wpAnyIn_ready (rs := [2]) (by kernel_rfl) (by simp) ?_
          refine AllReadyIn.cons rfl (fun K hK => ?_) AllReadyIn.nil
          go_simp
          refine hK _ _ ?_
          clear hK K
          clear cL
          refine wpAnyIn_ready (rs := [3]) (by kernel_rfl) (by simp) ?_
          refine AllReadyIn.cons rfl (fun K hK => ?_) AllReadyIn.nil
          have Ta := T2.alloc (.cells #[.string ⟨line.toArray⟩] 9)
          have hta := Ta.lt
          refine stepIn_append_own (by rfl) (.tmp 45) (.tmp 47) 42 (by rfl) w.heap.size 9 i0 (.string ByteArray.empty) 1 16 Tryd.underlying42 hi hz0 hz1 hz2 (by rfl) (by decide) v out.length (out.map Value.string) (by rfl) Ta.row ⟨W2.heap.size, 0, none⟩ 1 1 [.string ⟨line.toArray⟩] (by rfl) (by rfl) (cell_one_new _ _ _) (by simp [Value.oneCell']) (by unfold maxLen; omega) (by omega) (by omega) ?_
          intro v' W3 hown hgrow
          refine hK _ _ ?_
          clear hK K
          obtain ⟨g', cap', rfl⟩ := ownsRow_succ hown
          have T3 := Ta.append hown hgrow
          have cL3 := T3.l.cell
          have fL3 := T3.l.frozen
          clear hown hgrow Ta T2
          refine wpAnyIn_ready (rs := [4]) (by kernel_rfl) (by simp) ?_
          refine AllReadyIn.cons rfl (fun K hK => ?_) AllReadyIn.nil
          go_simp
          refine hK _ _ ?_
          clear hK K
          refine wpAnyIn_done (by kernel_rfl) ?_ _
          refine ⟨rfl, g', cap', W2.heap.size, ?_, T3.setL _⟩
          generalize W2.heap.size = nb
          exact (congrFun (congrFun (congrFun hfb g') cap') nb).symm
          go_simp
          refine hK _ _ ?_
          clear hK K
          have cL : (W2.alloc (.cells #[.string ⟨line.toArray⟩] 9)).cell? ⟨w.heap.size + 1, 0, none⟩ = some v := (T2.alloc _).l.cell
          refine wpAnyIn_ready (rs := [0]) (by kernel_rfl) (by simp) ?_
          refine AllReadyIn.cons rfl (fun K hK => ?_) AllReadyIn.nil
          go_simp
          refine hK _ _ ?_
          clear hK K
          clear cL
          refine wpAnyIn_ready (rs := [3]) (by kernel_rfl) (by simp) ?_
          refine AllReadyIn.cons rfl (fun K hK => ?_) AllReadyIn.nil
          have Ta := T2.alloc (.cells #[.string ⟨line.toArray⟩] 9)
          have hta := Ta.lt
          refine stepIn_append_own (by rfl) (.tmp 45) (.tmp 47) 42 (by rfl) w.heap.size 9 i0 (.string ByteArray.empty) 1 16 Tryd.underlying42 hi hz0 hz1 hz2 (by rfl) (by decide) v out.length (out.map Value.string) (by rfl) Ta.row ⟨W2.heap.size, 0, none⟩ 1 1 [.string ⟨line.toArray⟩] (by rfl) (by rfl) (cell_one_new _ _ _) (by simp [Value.oneCell']) (by unfold maxLen; omega) (by omega) (by omega) ?_
          intro v' W3 hown hgrow
          refine hK _ _ ?_
          clear hK K
          obtain ⟨g', cap', rfl⟩ := ownsRow_succ hown
          have T3 := Ta.append hown hgrow
          have cL3 := T3.l.cell
          have fL3 := T3.l.frozen
          clear hown hgrow Ta T2
          refine wpAnyIn_ready (rs := [4]) (by kernel_rfl) (by simp) ?_
          refine AllReadyIn.cons rfl (fun K hK => ?_) AllReadyIn.nil
          go_simp
          refine hK _ _ ?_
          clear hK K
          refine wpAnyIn_done (by kernel_rfl) ?_ _
          refine ⟨rfl, g', cap', W2.heap.size, ?_, T3.setL _⟩
          generalize W2.heap.size = nb
          exact (congrFun (congrFun (congrFun hfb g') cap') nb).symm
      case rest =>
        rintro e a' W3 ⟨rfl, g, cap, nb, rfl, T3⟩
        rw [hfb]
        clear hfb
        have cL3 := T3.l.cell
        gi_wp2
        refine ⟨by simp, .inl ⟨_, _, rfl, run_takeDeferred T3.dk, ?_⟩⟩
        exact ⟨.tuple #[.slice (some ⟨g, 0, none⟩) (out.length + 1) cap, .int .i64 0], by simp [results, Tryd.results27, go_sem], ⟨_, rfl, by rw [HL.out]; exact ownsRow_putObj T3.row _ T3.dk rfl⟩, T3.bl.trans (belowK_b (w := w) (Nat.le_refl _) W3 D _ _ hDw T3.dk rfl rfl)⟩
/-- Where the width is below the least. -/
theorem wrap_low (s : ByteArray) (width : Int) (w : World) (hw : width < 4) :
    Calls Tryd.prog 27 #[.string s, .int .i64 width] w fun e W' => e = .returned (.tuple #[.slice none 0 0, .int .i64 1]) ∧ Below w.heap.size w W' := by
  go_enter Tryd.func27, Tryd.ntmps27
  go_wp2
  go_ret2
  exact ⟨rfl, (Below.refl _ w).alloc (Nat.le_refl _) _⟩
end Go.Proofs.YtdfhpblceoaofaaDoor
