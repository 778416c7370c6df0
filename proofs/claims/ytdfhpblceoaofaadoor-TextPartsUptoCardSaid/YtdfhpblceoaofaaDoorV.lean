/-
  The contract of Quote.
-/
import Derived.Test.YtdfhpblceoaofaaDoorP
namespace Go.Proofs.YtdfhpblceoaofaaDoor
open Go.ChangeShapes Go.WideShapes Go.ChangeAt Go.RowKit Go.Shelf
set_option linter.unusedVariables false
attribute [local go_sem] Oper.semAt_some

/-- What stands in the quotes for one thing. -/
def qtB (r : Int) (c : UInt8) : List UInt8 := if r = 34 then 92 :: shB r c else shB r c
def qtL (s : ByteArray) (l : List (Sub s)) : List UInt8 := l.flatMap fun x => qtB (pc s x.1).r (s[x.1]'x.2)
/-- The quotes of a text. -/
def qtA (s : ByteArray) : List UInt8 := 34 :: (qtL s (LS s 0) ++ [34])
theorem qtL_snoc (s : ByteArray) (l : List (Sub s)) (x : Sub s) : qtL s (l ++ [x]) = qtL s l ++ qtB (pc s x.1).r (s[x.1]'x.2) := by simp [qtL]
theorem qt_yes {r : Int} (c : UInt8) (h : r = 34) : qtB r c = 92 :: shB r c := by unfold qtB; rw [if_pos h]
theorem qt_no {r : Int} (c : UInt8) (h : ¬ r = 34) : qtB r c = shB r c := by unfold qtB; rw [if_neg h]
theorem qtL_le (s : ByteArray) : ∀ l : List (Sub s), (qtL s l).length ≤ 5 * l.length
  | [] => by simp [qtL]
  | x :: l => by
    have := qtL_le s l
    have h4 := shB_le (pc s x.1).r (s[x.1]'x.2)
    have : (qtB (pc s x.1).r (s[x.1]'x.2)).length ≤ 5 := by
      unfold qtB
      split
      · simp; omega
      · omega
    simp only [qtL, List.flatMap_cons, List.length_append, List.length_cons] at *
    omega

set_option maxRecDepth 100000 in
set_option maxHeartbeats 4000000 in
theorem quote_in (n : Nat) (hn : 3 ≤ n) (s : ByteArray) (w : World) (h2 : 2 ≤ w.heap.size) (hT : Lib.Utf8Tabs 0 1 w) (hsz : s.size ≤ 1099511627776) :
    CallsIn Fence.wide n Tryd.prog 18 #[.string s] w fun e W' => e = .returned (.string ⟨(qtA s).toArray⟩) ∧ Below w.heap.size w W' := by
  have h1 : 1 ≤ n := by omega
  have hGl := LS_len s
  refine callsIn_of_wp_marks Tryd.func18 rfl trivial ?_ rfl
  simp only [Tryd.ntmps18, List.size_toArray, List.length_cons, List.length_nil, Nat.reduceAdd, Nat.reduceSub, Array.replicate_succ, Array.replicate_zero, List.push_toArray, List.append_toArray, List.nil_append, List.cons_append]
  have bB := Lib.IsBuilderF.of (Lib.fresh_isBuilder 57 5 (w.alloc (.cells #[.string s] 9)))
  rw [World.size_alloc] at bB
  gi_wp2_with fail
  refine ⟨trivial, ?_⟩
  refine (callsIn_wide.2 (Tryd.Builder_WriteByte_k (w.heap.size + 1) (w.heap.size + 1) [] 34 _ bB (by simp) (by simp))).mono ?_
  rintro e W1 ⟨rfl, hI1, hb1, ho1⟩
  have bB := Or.inr (a := Lib.BuilderAtF 57 5 (w.heap.size + 1) (w.heap.size + 1) (.pointer none) ([] ++ [.int .u8 34]) W1) hI1
  have b0 : Boxed W1 w.heap.size 9 (.string s) := (hb1.block _ (by omega)).trans ((Boxed.new w 9 (.string s)).alloc _)
  have hB1 : Below w.heap.size w W1 := (((Below.refl _ w).alloc (Nat.le_refl _) (.cells #[.string s] 9)).alloc (by simp) (.cells #[.pointer none, .slice none 0 0] 57)).trans (hb1.mono (by omega))
  have hz1 : w.heap.size + 2 ≤ W1.heap.size := by have := hb1.size; simp at this; exact this
  have cS := b0.cell
  clear hI1 hb1 ho1
  gi_wp2_with fail
  refine ⟨trivial, ?_⟩
  refine (callsIn_wide.2 (runes_any _ _)).mono ?_
  rintro e w' ⟨rfl, rfl⟩
  gi_wp2_with fail
  have b0 := b0.alloc (.cells #[.string s] 9)
  have bB : Lib.IsBuilderF 57 5 (w.heap.size + 1) (w.heap.size + 1) (Lib.byteCells (34 :: qtL s [])) (W1.alloc (.cells #[.string s] 9)) := Lib.IsBuilderF.alloc bB _
  have bN := Boxed.new W1 9 (.string s)
  have hB0 : Below w.heap.size w (W1.alloc (.cells #[.string s] 9)) := hB1.alloc (by omega) _
  have hz0 : (W1.alloc (.cells #[.string s] 9)).heap.size = W1.heap.size + 1 := by simp
  clear cS
  obtain ⟨W0, hW0⟩ : ∃ W0, W1.alloc (.cells #[.string s] 9) = W0 := ⟨_, rfl⟩
  rw [hW0] at b0 bB bN hB0 hz0 ⊢
  clear hW0
  have hza : W1.heap.size + 1 ≤ W0.heap.size := by omega
  clear hz0 hB1
  generalize hk : W1.heap.size = k at *
  clear hk
  apply with_frm (α := Sub s)
  intro fr hfr
  refine wpIn_rangeFunc_ownG rfl h1 (gf := 33) (lb := #[.pointer (some ⟨k, 0, none⟩)]) rfl trivial (enters_of Tryd.func33 (by kernel_rfl) rfl)
    (runes_sub (n - 1) (by omega) (k) (w.heap.size + 1) s _ (by omega) (by omega) (by omega) bN.cell (tabs_below hT hB0 h2) hsz) Kp_t (Kp_b (by omega) (by omega)) (Below.refl _ _) (fun _ => rfl)
    (fun pre W => Lib.IsBuilderF 57 5 (w.heap.size + 1) (w.heap.size + 1) (Lib.byteCells (34 :: qtL s pre)) W ∧ ((Boxed W w.heap.size 9 (.string s) ∧ Boxed W (k) 9 (.string s)) ∧ Below w.heap.size w W))
    (fun _ _ _ => False)
    (OwnFrom.and (Own.from (builder_own 57 5 (w.heap.size + 1) (w.heap.size + 1) (fun pre : List (Sub s) => Lib.byteCells (34 :: qtL s pre))) _) (OwnFrom.and (OwnFrom.and (Own.from (boxed_own w.heap.size 9 (fun _ => Value.string s)) _) (Own.from (boxed_own (k) 9 (fun _ => Value.string s)) _)) (ownFrom_below (Nat.le_refl _) (by omega))))
    (fun _ _ _ _ _ hs _ _ => hs)
    ⟨bB, ⟨b0, bN⟩, hB0⟩
    fr ?assign ?body ?done ?stop
  case assign =>
    intro l x W K hK
    rw [hfr] at hK
    dsimp only [encS]
    gi_wp2
    exact hK
  case body =>
    rintro l pre x W ⟨hI, ⟨bS, bT⟩, hB⟩ hlt
    rw [hfr]
    have c1 := bS.cell
    have hd : 1 ≤ n - 1 - 1 := by omega
    have hz := hB.size
    have hzS := bT.lt
    have hlen : (Lib.byteCells (34 :: qtL s pre)).length + 32 ≤ 140737488355328 := by
      rw [Lib.byteCells_length, List.length_cons]
      have := qtL_le s pre
      omega
    have hx := x.2
    by_cases hq : (pc s x.1).r = 34
    · have hq1 : ((pc s x.1).r == 34) = true := by simpa using hq
      have HQ := Lib.hid (qt_yes (s[x.1]'x.2) hq)
      clear hq
      gi_wp2_with fail
      refine ⟨trivial, ?_⟩
      refine (CallsIn.inRound l (callsIn_wide.2 (Tryd.Builder_WriteByte_k (w.heap.size + 1) (w.heap.size + 1) _ 92 W hI (by omega) (by omega)))).mono ?_
      rintro e W2 ⟨rfl, hI2, hb2, ho2⟩
      have hko2 := keeps_of hI hb2 ho2
      have bT2 := boxed_others bT ho2 (by omega) (by decide)
      have bS2 := boxed_others bS ho2 (by omega) (by decide)
      have c2 := bS2.cell
      have hz2 := hb2.size
      have hI2' : Lib.IsBuilderF 57 5 (w.heap.size + 1) (w.heap.size + 1) (Lib.byteCells (34 :: qtL s pre) ++ [.int .u8 92]) W2 := .inr hI2
      clear c1 hI2
      gi_wp2_with fail
      refine ⟨trivial, ?_⟩
      refine (CallsIn.inRound l (callsIn_wide.2 (writeShown_any (w.heap.size + 1) (w.heap.size + 1) _ _ (s[x.1]'x.2) W2 hI2' (by rw [List.length_append]; simp only [List.length_cons, List.length_nil]; omega) (by omega) (pc_r_le s x.1 x.2)))).mono ?_
      rintro e W' ⟨rfl, hI', hb', ho'⟩
      have hko := keeps_of hI2' hb' ho'
      have bT' := boxed_others bT2 ho' (by omega) (by decide)
      gi_wp2
      exact ⟨(hko2.trans hko).from _, ⟨⟨hb2.trans hb', Eq.trans bT' (Eq.symm bT)⟩, (hko2.trans hko).walks⟩, by rw [qtL_snoc, HQ.out]; rw [← List.cons_append, Lib.byteCells_append]; rw [List.append_assoc] at hI'; exact hI', ⟨boxed_others bS2 ho' (by omega) (by decide), bT'⟩, (hB.trans (hb2.mono (by omega))).trans (hb'.mono (by omega))⟩
    · have hq1 : ((pc s x.1).r == 34) = false := by simpa using hq
      have HQ := Lib.hid (qt_no (s[x.1]'x.2) hq)
      clear hq
      gi_wp2_with fail
      refine ⟨trivial, ?_⟩
      refine (CallsIn.inRound l (callsIn_wide.2 (writeShown_any (w.heap.size + 1) (w.heap.size + 1) _ _ (s[x.1]'x.2) W hI (by omega) (by omega) (pc_r_le s x.1 x.2)))).mono ?_
      rintro e W' ⟨rfl, hI', hb', ho'⟩
      have hko := keeps_of hI hb' ho'
      have bT' := boxed_others bT ho' (by omega) (by decide)
      gi_wp2
      exact ⟨hko.from _, ⟨⟨hb', Eq.trans bT' (Eq.symm bT)⟩, hko.walks⟩, by rw [qtL_snoc, HQ.out]; rw [← List.cons_append, Lib.byteCells_append]; exact hI', ⟨boxed_others bS ho' (by omega) (by decide), bT'⟩, hB.trans (hb'.mono (by omega))⟩
  case done =>
    rintro D ys W hD rfl ⟨hI, ⟨bS, bT⟩, hB⟩ hK
    have hz := hB.size
    have hzS := bT.lt
    have hDw : w.heap.size + 3 ≤ D := by omega
    have hlen := qtL_le s (LS s 0)
    gi_wp2_with fail
    refine ⟨trivial, ?_⟩
    refine (callsIn_wide.2 (Tryd.Builder_WriteByte_k (w.heap.size + 1) (w.heap.size + 1) _ 34 W hI (by rw [Lib.byteCells_length, List.length_cons]; omega) (by omega))).mono ?_
    rintro e W2 ⟨rfl, hI2, hb2, ho2⟩
    have hI2' : Lib.IsBuilderF 57 5 (w.heap.size + 1) (w.heap.size + 1) (Lib.byteCells (qtA s)) W2 := by
      have e : Lib.byteCells (qtA s) = Lib.byteCells (34 :: qtL s (LS s 0)) ++ [.int .u8 34] := by unfold qtA; rw [← List.cons_append, Lib.byteCells_append]; rfl
      rw [e]; exact .inr hI2
    have hz2 := hb2.size
    gi_wp2_with fail
    refine ⟨trivial, ?_⟩
    refine (callsIn_wide.2 (Tryd.Builder_String_any_k (w.heap.size + 1) (w.heap.size + 1) (qtA s) W2 hI2' (by omega))).mono ?_
    rintro e W' ⟨rfl, hI', hb', ho'⟩
    have hK2 : W2.heap[D]? = some (.deferred (some [])) := ho2 D _ hK (by simp; omega) (fun c fz e' => by cases e')
    have hK' : W'.heap[D]? = some (.deferred (some [])) := ho' D _ hK2 (by simp; omega) (fun c fz e' => by cases e')
    gi_wp2
    refine ⟨by simp, .inl ⟨_, _, rfl, run_takeDeferred hK', ?_⟩⟩
    exact ⟨_, results_tmp rfl _ _ _, rfl, ((hB.trans (hb2.mono (by omega))).trans (hb'.mono (by omega))).trans (belowK_b (w := w) (Nat.le_refl _) W' D _ _ (by omega) hK' rfl rfl)⟩
  case stop =>
    rintro D c pre W _ _ h _
    exact h.elim
end Go.Proofs.YtdfhpblceoaofaaDoor
