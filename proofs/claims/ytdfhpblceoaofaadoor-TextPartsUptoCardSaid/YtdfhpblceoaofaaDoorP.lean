/-
  The contracts of Show and Quote.
-/
import Derived.Test.YtdfhpblceoaofaaDoorS
import Derived.Laws.EntriesVeiled
namespace Go.Proofs.YtdfhpblceoaofaaDoor
open Go.ChangeShapes Go.WideShapes Go.ChangeAt Go.RowKit Go.Shelf
set_option linter.unusedVariables false
attribute [local go_sem] Oper.semAt_some

theorem with_frm {α : Type} {H : Prop} (z : α → Act) (h : ∀ fr, fr = z → H) : H := h z rfl

theorem builder_at_own {β : Type} (T e : TypeId) (B b : Nat) (p : Value) (f : β → List Value) : Own (fun s W => Lib.BuilderAtF T e B b p (f s) W) := by
  rintro s X Y row ⟨hB, v, hb, hown, hne⟩ hg hrow
  refine ⟨hB, v, ?_, hown.kept hg ?_, hne⟩
  · refine (hg.block b (Array.getElem?_eq_some_iff.1 hb).1 (fun e' => ?_)).trans hb
    obtain ⟨o, ho, hc⟩ := hrow b e'.symm
    rw [hb] at ho; cases ho; cases hc
  · rcases hown.2 with ⟨rfl, _⟩ | ⟨g, cap, cur, fz, rfl, _, hgb, _⟩
    · exact .inl rfl
    · refine .inr (fun e' => ?_)
      obtain ⟨o, ho, hc⟩ := hrow g e'.symm
      rw [hgb] at ho; cases ho; cases hc
theorem builder_own {β : Type} (T e : TypeId) (B b : Nat) (f : β → List Value) : Own (fun s W => Lib.IsBuilderF T e B b (f s) W) := fun s X Y row h hg hrow =>
  h.elim (fun a => .inl (builder_at_own T e B b _ f s X Y row a hg hrow)) (fun a => .inr (builder_at_own T e B b _ f s X Y row a hg hrow))

theorem builder_cells {T e : TypeId} {B b : Nat} {bs : List Value} {W : World} (h : Lib.IsBuilderF T e B b bs W) : ∃ o, W.heap[b]? = some o ∧ o.isCells = true := by
  rcases h with ⟨_, v, hb, _⟩ | ⟨_, v, hb, _⟩ <;> exact ⟨_, hb, rfl⟩
theorem keeps_of {T e : TypeId} {B b : Nat} {bs : List Value} {W W' : World} (h : Lib.IsBuilderF T e B b bs W) (hb : Below B W W') (ho : Lib.OthersKept e (some b) W W') : KeepsOthers W W' :=
  ⟨hb.size, fun k o hk hc => ho k o hk (fun e' => by cases e'; obtain ⟨o', ho', hc'⟩ := builder_cells h; rw [hk] at ho'; cases ho'; rw [hc] at hc'; cases hc') (fun c fz e' => by subst e'; cases hc)⟩
theorem boxed_others {b k : Nat} {t : TypeId} {v : Value} {W W' : World} (h : Boxed W k t v) (ho : Lib.OthersKept 5 (some b) W W') (hk : k ≠ b) (ht : t ≠ 5) : Boxed W' k t v :=
  ho k _ h (by simpa using hk) (fun c fz e' => by cases e'; exact ht rfl)

/-- What is shown of the things that came. -/
def shL (s : ByteArray) (l : List (Sub s)) : List UInt8 := l.flatMap fun x => shB (pc s x.1).r (s[x.1]'x.2)
theorem shL_snoc (s : ByteArray) (l : List (Sub s)) (x : Sub s) : shL s (l ++ [x]) = shL s l ++ shB (pc s x.1).r (s[x.1]'x.2) := by simp [shL]
theorem encZ_le (r : Int) : (Lib.encodeRuneZ r).length ≤ 4 := by
  unfold Lib.encodeRuneZ
  split <;> (try split) <;> (try split) <;> (try split) <;> simp
theorem shB_le (r : Int) (c : UInt8) : (shB r c).length ≤ 4 := by
  unfold shB
  split
  · simp
  · split
    · simp
    · simp only [Lib.encodeRune, List.length_map]; exact encZ_le r
theorem shL_le (s : ByteArray) : ∀ l : List (Sub s), (shL s l).length ≤ 4 * l.length
  | [] => by simp [shL]
  | x :: l => by
    have := shL_le s l
    have := shB_le (pc s x.1).r (s[x.1]'x.2)
    simp only [shL, List.flatMap_cons, List.length_append, List.length_cons] at *
    omega
theorem pc_r_le (s : ByteArray) (i : Nat) (h : i < s.size) : (pc s i).r ≤ 1114111 := by
  unfold pc
  split
  · simp
  · have := dec_bd s i h; simp only; omega

set_option maxRecDepth 100000 in
set_option maxHeartbeats 4000000 in
theorem show_in (n : Nat) (hn : 3 ≤ n) (s : ByteArray) (w : World) (h2 : 2 ≤ w.heap.size) (hT : Lib.Utf8Tabs 0 1 w) (hsz : s.size ≤ 1099511627776) :
    CallsIn Fence.wide n Tryd.prog 14 #[.string s] w fun e W' => e = .returned (.string ⟨(shL s (LS s 0)).toArray⟩) ∧ Below w.heap.size w W' := by
  have h1 : 1 ≤ n := by omega
  have hGl := LS_len s
  refine callsIn_of_wp_marks Tryd.func14 rfl trivial ?_ rfl
  simp only [Tryd.ntmps14, List.size_toArray, List.length_cons, List.length_nil, Nat.reduceAdd, Nat.reduceSub, Array.replicate_succ, Array.replicate_zero, List.push_toArray, List.append_toArray, List.nil_append, List.cons_append]
  gi_wp2_with (refine ⟨trivial, ?_⟩; gi_at_call 10; refine (callsIn_wide.2 (runes_any _ _)).mono ?_; rintro e w' ⟨rfl, rfl⟩)
  have b0 := ((Boxed.new w 9 (.string s)).alloc (.cells #[.pointer none, .slice none 0 0] 57)).alloc (.cells #[.string s] 9)
  have bB := (Lib.IsBuilderF.of (Lib.fresh_isBuilder 57 5 (w.alloc (.cells #[.string s] 9)))).alloc (.cells #[.string s] 9)
  have bN := Boxed.new ((w.alloc (.cells #[.string s] 9)).alloc (.cells #[.pointer none, .slice none 0 0] 57)) 9 (.string s)
  simp only [World.size_alloc] at bB bN
  have hB0 : Below w.heap.size w (((w.alloc (.cells #[.string s] 9)).alloc (.cells #[.pointer none, .slice none 0 0] 57)).alloc (.cells #[.string s] 9)) := (((Below.refl _ w).alloc (Nat.le_refl _) _).alloc (by simp) _).alloc (by simp; omega) _
  have hz0 : (((w.alloc (.cells #[.string s] 9)).alloc (.cells #[.pointer none, .slice none 0 0] 57)).alloc (.cells #[.string s] 9)).heap.size = w.heap.size + 3 := by simp
  obtain ⟨W0, hW0⟩ : ∃ W0, ((w.alloc (.cells #[.string s] 9)).alloc (.cells #[.pointer none, .slice none 0 0] 57)).alloc (.cells #[.string s] 9) = W0 := ⟨_, rfl⟩
  rw [hW0] at b0 bB bN hB0 hz0 ⊢
  clear hW0
  have hza : w.heap.size + 3 ≤ W0.heap.size := by omega
  clear hz0
  apply with_frm (α := Sub s)
  intro fr hfr
  refine wpIn_rangeFunc_ownG rfl h1 (gf := 33) (lb := #[.pointer (some ⟨w.heap.size + 1 + 1, 0, none⟩)]) rfl trivial (enters_of Tryd.func33 (by kernel_rfl) rfl)
    (runes_sub (n - 1) (by omega) (w.heap.size + 1 + 1) (w.heap.size + 1) s _ (by omega) (by omega) (by omega) bN.cell (tabs_below hT hB0 h2) hsz) Kp_t (Kp_b (by omega) (by omega)) (Below.refl _ _) (fun _ => rfl)
    (fun pre W => Lib.IsBuilderF 57 5 (w.heap.size + 1) (w.heap.size + 1) (Lib.byteCells (shL s pre)) W ∧ ((Boxed W w.heap.size 9 (.string s) ∧ Boxed W (w.heap.size + 1 + 1) 9 (.string s)) ∧ Below w.heap.size w W))
    (fun _ _ _ => False)
    (OwnFrom.and (Own.from (builder_own 57 5 (w.heap.size + 1) (w.heap.size + 1) (fun pre : List (Sub s) => Lib.byteCells (shL s pre))) _) (OwnFrom.and (OwnFrom.and (Own.from (boxed_own w.heap.size 9 (fun _ => Value.string s)) _) (Own.from (boxed_own (w.heap.size + 1 + 1) 9 (fun _ => Value.string s)) _)) (ownFrom_below (Nat.le_refl _) (by omega))))
    (fun _ _ _ _ _ hs _ _ => hs)
    ⟨bB, ⟨b0, bN⟩, hB0⟩
    fr ?assign ?body ?done ?stop
  case assign =>
    intro l x W K hK
    rw [hfr] at hK
    dsimp only [encS]
    gi_wp2
    exact hK
  case body =>
    rintro l pre x W ⟨hI, ⟨bS, bT⟩, hB⟩ hlt
    rw [hfr]
    have c1 := bS.cell
    have hd : 1 ≤ n - 1 - 1 := by omega
    have hz := hB.size
    have hzS := bT.lt
    have hlen : (Lib.byteCells (shL s pre)).length + 16 ≤ 140737488355328 := by
      rw [Lib.byteCells_length]
      have := shL_le s pre
      omega
    have hx := x.2
    gi_wp2_with fail
    refine ⟨trivial, ?_⟩
    refine (CallsIn.inRound l (callsIn_wide.2 (writeShown_any (w.heap.size + 1) (w.heap.size + 1) _ _ (s[x.1]'x.2) W hI hlen (by omega) (pc_r_le s x.1 x.2)))).mono ?_
    rintro e W' ⟨rfl, hI', hb', ho'⟩
    have hko := keeps_of hI hb' ho'
    have bT' := boxed_others bT ho' (by omega) (by decide)
    gi_wp2
    exact ⟨hko.from _, ⟨⟨hb', Eq.trans bT' (Eq.symm bT)⟩, hko.walks⟩, by rw [shL_snoc, Lib.byteCells_append]; exact hI', ⟨boxed_others bS ho' (by omega) (by decide), bT'⟩, hB.trans (hb'.mono (by omega))⟩
  case done =>
    rintro D ys W hD rfl ⟨hI, ⟨bS, bT⟩, hB⟩ hK
    have hz := hB.size
    have hzS := bT.lt
    have hDw : w.heap.size + 3 ≤ D := by omega
    gi_wp2_with fail
    refine ⟨trivial, ?_⟩
    refine (callsIn_wide.2 (Tryd.Builder_String_any_k (w.heap.size + 1) (w.heap.size + 1) (shL s (LS s 0)) W hI (by omega))).mono ?_
    rintro e W' ⟨rfl, hI', hb', ho'⟩
    have hK' : W'.heap[D]? = some (.deferred (some [])) := ho' D _ hK (by simp; omega) (fun c fz e' => by cases e')
    gi_wp2
    refine ⟨by simp, .inl ⟨_, _, rfl, run_takeDeferred hK', ?_⟩⟩
    exact ⟨_, results_tmp rfl _ _ _, rfl, (hB.trans (hb'.mono (by omega))).trans (belowK_b (w := w) (Nat.le_refl _) W' D _ _ (by omega) hK' rfl rfl)⟩
  case stop =>
    rintro D c pre W _ _ h _
    exact h.elim
end Go.Proofs.YtdfhpblceoaofaaDoor
