/-
  The contract of Parse.
-/
import Derived.Test.YtocdinaomkmcbaaDoorS
import Derived.Test.YtocdinaomkmcbaaDoorR
import Derived.Test.YtocdinaomkmcbaaDoorL3
import Derived.Deep.DeepMust
namespace Go.Proofs.YtocdinaomkmcbaaDoor
open Go.ChangeShapes Go.WideShapes Go.ChangeAt Go.RowKit Go.Shelf
set_option linter.unusedVariables false
attribute [local go_sem] Oper.semAt_some

def rdB (x : ByteArray) : Option Pl := rd x.data.toList
theorem mapM_bts : ∀ l : List (List UInt8), (l.map bts).mapM rdB = l.mapM rd := by
  intro l
  induction l with
  | nil => rfl
  | cons x l ih => rw [List.map_cons, List.mapM_cons, List.mapM_cons, ih]; unfold rdB; rw [bts_list]
theorem prs_prt {s : ByteArray} (h : s.data.toList ≠ []) : prs s.data.toList = match (prt s).mapM rdB with
    | some l => if l.length ≤ 64 then some l.reverse else none
    | none => none := by
  unfold prs prt
  rw [if_neg h, mapM_bts]
  cases List.mapM rd (spl s.data.toList) <;> rfl
theorem mapM_snoc {pre : List ByteArray} {x : ByteArray} {l : List Pl} {q : Pl} (h : pre.mapM rdB = some l) (hx : rdB x = some q) : (pre ++ [x]).mapM rdB = some (l ++ [q]) := by
  rw [List.mapM_append, h]; simp [hx]
theorem mapM_len : ∀ {pre : List ByteArray} {l : List Pl}, pre.mapM rdB = some l → l.length = pre.length := by
  intro pre
  induction pre with
  | nil => intro l h; simp at h; subst h; rfl
  | cons x pre ih =>
    intro l h
    rw [List.mapM_cons] at h
    cases hx : rdB x with
    | none => rw [hx] at h; simp at h
    | some q =>
      rw [hx] at h
      cases hp : pre.mapM rdB with
      | none => rw [hp] at h; simp at h
      | some l' => rw [hp] at h; simp at h; subst h; simp [ih hp]
theorem prs_bad {s : ByteArray} (h : s.data.toList ≠ []) {pre : List ByteArray} {x : ByteArray} (hp : pre ++ [x] <+: prt s) (hx : rdB x = none) : prs s.data.toList = none := by
  rw [prs_prt h]
  obtain ⟨r, hr⟩ := hp
  have : (prt s).mapM rdB = none := by
    rw [← hr, List.mapM_append, List.mapM_append]
    cases pre.mapM rdB with
    | none => rfl
    | some l => simp [hx]
  rw [this]
theorem prs_long {s : ByteArray} (h : s.data.toList ≠ []) {pre : List ByteArray} {x : ByteArray} (hp : pre ++ [x] <+: prt s) (hl : 64 ≤ pre.length) : prs s.data.toList = none := by
  rw [prs_prt h]
  cases hm : (prt s).mapM rdB with
  | none => rfl
  | some l =>
    have h1 := mapM_len hm
    have h2 := hp.length_le
    simp at h2
    simp only
    rw [if_neg (by omega)]
theorem prs_good {s : ByteArray} (h : s.data.toList ≠ []) {l : List Pl} (hm : (prt s).mapM rdB = some l) (hl : l.length ≤ 64) : prs s.data.toList = some l.reverse := by
  rw [prs_prt h, hm]; simp only; rw [if_pos hl]

theorem join_le : ∀ (L : List (List UInt8)) (x : List UInt8), x ∈ L → x.length ≤ (join L).length := by
  intro L
  induction L with
  | nil => intro x h; simp at h
  | cons y L ih =>
    intro x h
    by_cases hL : L = []
    · subst hL
      simp at h
      subst h
      exact Nat.le_refl _
    · rw [join_cons hL]
      simp only [List.length_append]
      rcases List.mem_cons.1 h with rfl | h
      · omega
      · have := ih x h; omega
theorem prt_le {s x : ByteArray} (h : x ∈ prt s) : x.size ≤ s.size := by
  unfold prt at h
  obtain ⟨y, hy, rfl⟩ := List.mem_map.1 h
  have := join_le _ _ hy
  rw [join_spl] at this
  rw [bts_size]
  simpa using this
/-- What Parse answers. -/
def PR (B : Nat) (s : ByteArray) (e : Ending) (W : World) : Prop :=
  (∃ (l : List Pl) (v : Value), prs s.data.toList = some l ∧ e = .returned (.tuple #[v, .int .i64 0]) ∧ W.ownsRow B 48 2 v l.length (flat l)) ∨ (prs s.data.toList = none ∧ e = .returned (.tuple #[.slice none 0 0, .int .i64 4]))
/-- What stands between two rounds. -/
structure In (B : Nat) (pre : List ByteArray) (W : World) : Prop where
  row : ∃ (l : List Pl) (v : Value), pre.mapM rdB = some l ∧ l.length ≤ 64 ∧ Boxed W (B + 2) 23 v ∧ W.ownsRow (B + 8) 48 2 v l.length (flat l)
  r2 : Boxed W B 23 (.slice none 0 0)
  r3 : Boxed W (B + 1) 25 (.int .i64 0)
/-- What stands when a part is none. -/
def Out (B : Nat) (s : ByteArray) (W : World) : Prop := Boxed W B 23 (.slice none 0 0) ∧ Boxed W (B + 1) 25 (.int .i64 4) ∧ prs s.data.toList = none
theorem boxed_same {W W' : World} {k : Nat} {t : TypeId} {v : Value} (h : Boxed W k t v) (hs : W'.heap[k]? = W.heap[k]?) : Boxed W' k t v := hs.trans h
theorem own_same {W W' : World} {B e size n : Nat} {v : Value} {xs : List Value} (h : W.ownsRow B e size v n xs) (hz : W.heap.size ≤ W'.heap.size) (hs : ∀ g, v.ownBlock = some g → W'.heap[g]? = W.heap[g]?) : W'.ownsRow B e size v n xs := by
  refine ⟨h.1, ?_⟩
  rcases h.2 with h' | ⟨g, cap, cur, rfl, hb, hg, rest⟩
  · exact .inl h'
  · exact .inr ⟨g, cap, cur, rfl, hb, (hs g rfl).trans hg, rest⟩
theorem In.own (B C : Nat) : OwnFrom C (fun pre W => In B pre W) := fun pre X Y row h hg hr => by
  have key : ∀ (k : Nat) (o : Obj), X.heap[k]? = some o → o.isCells = true → Y.heap[k]? = X.heap[k]? := fun k o hk hc =>
    hg.block k (Array.getElem?_eq_some_iff.1 hk).1 (fun e => by obtain ⟨_, o', ho', hc'⟩ := hr k e.symm; rw [hk] at ho'; cases ho'; rw [hc] at hc'; cases hc')
  obtain ⟨l, v, h1, h2, h3, h4⟩ := h.row
  exact ⟨⟨l, v, h1, h2, boxed_same h3 (key _ _ h3 rfl), own_same h4 hg.size (fun g e => by
    rcases h4.2 with ⟨rfl, _⟩ | ⟨g', cap, cur, rfl, _, hg', _⟩
    · simp [Value.ownBlock] at e
    · have : g' = g := by simpa [Value.ownBlock] using e
      subst this
      exact key _ _ hg' rfl)⟩, boxed_same h.r2 (key _ _ h.r2 rfl), boxed_same h.r3 (key _ _ h.r3 rfl)⟩
theorem Out.own {β : Type} (B C : Nat) (s : ByteArray) : OwnFrom C (fun (_ : β) W => Out B s W) := fun pre X Y row h hg hr => by
  have key : ∀ (k : Nat) (o : Obj), X.heap[k]? = some o → o.isCells = true → Y.heap[k]? = X.heap[k]? := fun k o hk hc =>
    hg.block k (Array.getElem?_eq_some_iff.1 hk).1 (fun e => by obtain ⟨_, o', ho', hc'⟩ := hr k e.symm; rw [hk] at ho'; cases ho'; rw [hc] at hc'; cases hc')
  exact ⟨boxed_same h.1 (key _ _ h.1 rfl), boxed_same h.2.1 (key _ _ h.2.1 rfl), h.2.2⟩
/-- Blocks below a bound as they were, but one. -/
theorem In.turn {B : Nat} {pre : List ByteArray} {W : World} (h : In B pre W) (y : Value) : In B pre (W.setCell ⟨B + 3, 0, none⟩ y) := by
  have key : ∀ k, k ≠ B + 3 → (W.setCell ⟨B + 3, 0, none⟩ y).heap[k]? = W.heap[k]? := fun k hk => Below.heap_setCell W _ y k hk
  obtain ⟨l, v, h1, h2, h3, h4⟩ := h.row
  exact ⟨⟨l, v, h1, h2, boxed_same h3 (key _ (by omega)), own_same h4 (by simp) (fun g e => key _ (by have := (h4.lt g e).1; omega))⟩, boxed_same h.r2 (key _ (by omega)), boxed_same h.r3 (key _ (by omega))⟩

set_option maxRecDepth 100000 in
set_option maxHeartbeats 4000000 in
theorem parse_in (n : Nat) (hn : 4 ≤ n) (s : ByteArray) (w : World) (hE : Env w) (h3 : 3 ≤ w.heap.size) (hne : s.data.toList ≠ []) (hs : s.size < 4294967281) :
    CallsIn Fence.wide n Tryd.prog 19 #[.string s] w fun e W' => PR w.heap.size s e W' ∧ Below w.heap.size w W' := by
  have h1 : 1 ≤ n := by omega
  obtain ⟨m, hm⟩ := hE.len
  have e3 : s.toList.isEmpty = false := by
    rw [Lib.toList_data]
    cases hl : s.data.toList with
    | nil => exact absurd hl hne
    | cons a l => rfl
  obtain ⟨i0, hi0, hi1, hi2, hi3⟩ := info_parts info48
  refine callsIn_of_wp_marks Tryd.func19 rfl trivial ?_ rfl
  simp only [Tryd.ntmps19, List.size_toArray, List.length_cons, List.length_nil, Nat.reduceAdd, Nat.reduceSub, Array.replicate_succ, Array.replicate_zero, List.push_toArray, List.append_toArray, List.nil_append, List.cons_append]
  gi_wp2_with fail
  refine ⟨trivial, ?_⟩
  refine (callsIn_wide.2 (split_any s _)).mono ?_
  rintro e w' ⟨rfl, rfl⟩
  gi_wp2_with fail
  have hB0 : Below w.heap.size w ((((((w.alloc (.cells #[.slice none 0 0] 23)).alloc (.cells #[.int .i64 0] 25)).alloc (.cells #[.slice none 0 0] 23)).alloc (.cells #[.string s] 9)).alloc (.cells #[.string ⟨#[32, 60, 32]⟩] 9)).alloc (.cells #[.int .i64 0] 3)) :=
    ((((((Below.refl _ w).alloc (Nat.le_refl _) _).alloc (by simp) _).alloc (by simp; omega) _).alloc (by simp; omega) _).alloc (by simp; omega) _).alloc (by simp; omega) _
  have x0 := (((((Boxed.new w 23 (.slice none 0 0)).alloc (.cells #[.int .i64 0] 25)).alloc (.cells #[.slice none 0 0] 23)).alloc (.cells #[.string s] 9)).alloc (.cells #[.string ⟨#[32, 60, 32]⟩] 9)).alloc (.cells #[.int .i64 0] 3)
  have x1 := ((((Boxed.new (w.alloc (.cells #[.slice none 0 0] 23)) 25 (.int .i64 0)).alloc (.cells #[.slice none 0 0] 23)).alloc (.cells #[.string s] 9)).alloc (.cells #[.string ⟨#[32, 60, 32]⟩] 9)).alloc (.cells #[.int .i64 0] 3)
  have x2 := (((Boxed.new ((w.alloc (.cells #[.slice none 0 0] 23)).alloc (.cells #[.int .i64 0] 25)) 23 (.slice none 0 0)).alloc (.cells #[.string s] 9)).alloc (.cells #[.string ⟨#[32, 60, 32]⟩] 9)).alloc (.cells #[.int .i64 0] 3)
  have x3 := ((Boxed.new (((w.alloc (.cells #[.slice none 0 0] 23)).alloc (.cells #[.int .i64 0] 25)).alloc (.cells #[.slice none 0 0] 23)) 9 (.string s)).alloc (.cells #[.string ⟨#[32, 60, 32]⟩] 9)).alloc (.cells #[.int .i64 0] 3)
  have x4 := (Boxed.new ((((w.alloc (.cells #[.slice none 0 0] 23)).alloc (.cells #[.int .i64 0] 25)).alloc (.cells #[.slice none 0 0] 23)).alloc (.cells #[.string s] 9)) 9 (.string ⟨#[32, 60, 32]⟩)).alloc (.cells #[.int .i64 0] 3)
  have x5 := Boxed.new (((((w.alloc (.cells #[.slice none 0 0] 23)).alloc (.cells #[.int .i64 0] 25)).alloc (.cells #[.slice none 0 0] 23)).alloc (.cells #[.string s] 9)).alloc (.cells #[.string ⟨#[32, 60, 32]⟩] 9)) 3 (.int .i64 0)
  have hz0 : ((((((w.alloc (.cells #[.slice none 0 0] 23)).alloc (.cells #[.int .i64 0] 25)).alloc (.cells #[.slice none 0 0] 23)).alloc (.cells #[.string s] 9)).alloc (.cells #[.string ⟨#[32, 60, 32]⟩] 9)).alloc (.cells #[.int .i64 0] 3)).heap.size = w.heap.size + 6 := by simp
  simp only [World.size_alloc, Nat.add_assoc, Nat.reduceAdd] at x1 x2 x3 x4 x5
  obtain ⟨W0, hW0⟩ : ∃ W0, (((((w.alloc (.cells #[.slice none 0 0] 23)).alloc (.cells #[.int .i64 0] 25)).alloc (.cells #[.slice none 0 0] 23)).alloc (.cells #[.string s] 9)).alloc (.cells #[.string ⟨#[32, 60, 32]⟩] 9)).alloc (.cells #[.int .i64 0] 3) = W0 := ⟨_, rfl⟩
  rw [hW0] at hB0 x0 x1 x2 x3 x4 x5 hz0 ⊢
  clear hW0
  have hza : w.heap.size + 6 ≤ W0.heap.size := by omega
  have hzb : W0.heap.size ≤ w.heap.size + 6 := by omega
  clear hz0
  have hm0 := cell_below hm hB0 (Nat.le_refl _)
  simp only [Nat.add_assoc, Nat.reduceAdd]
  have hseq : SeqT Fence.wide (n - 1) Tryd.prog 92 #[.pointer (some ⟨w.heap.size + 4, 0, none⟩), .pointer (some ⟨w.heap.size + 3, 0, none⟩), .pointer (some ⟨w.heap.size + 5, 0, none⟩)] encS 0 (Kr w.heap.size (w.heap.size + 3)) (Tn (w.heap.size + 3)) (fun xs => xs = prt s) (fun pre => pre <+: prt s) W0 :=
    sp_w (n - 1) (by omega) (w.heap.size + 3) w.heap.size s W0 (by omega) (by omega) h3 m hm0 x3 x4 x5 hs
  apply with_frm (α := ByteArray)
  intro fr hfr
  refine wpIn_range_turn (k := 0) rfl h1 (gf := 92) rfl trivial (enters_of Tryd.func92 (by kernel_rfl) rfl) hseq Kr_t (Kr_b (by omega) (by omega)) (fun _ => rfl)
    (fun pre V => In w.heap.size pre V ∧ Below w.heap.size W0 V)
    (fun c pre V => c = .ret ∧ Out w.heap.size s V ∧ Below w.heap.size W0 V)
    (fun x a' V => a' = fr x)
    (OwnFrom.and (In.own _ _) (ownFrom_below (by omega) (by omega)))
    (fun c pre A B row hs hg hr => ⟨hs.1, Out.own _ _ _ pre A B row hs.2.1 hg hr, ownFrom_below (β := Unit) (by omega) (by omega) () A B row hs.2.2 hg hr⟩)
    (fun x a' s X Y row h hg hr => h)
    ⟨⟨⟨[], .slice none 0 0, rfl, by simp, x2, World.ownsRow_nil _ _ _ _⟩, x0, x1⟩, Below.refl _ _⟩
    (fun pre A B h ht => by
      obtain ⟨y, rfl⟩ := ht
      exact ⟨h.1.turn _, h.2.setCell (p := ⟨w.heap.size + 3, 0, none⟩) (by simp) _⟩)
    (fun A B ht => by
      obtain ⟨y, rfl⟩ := ht
      exact Same.setCell _ _ _ (.inl (by simp; omega)))
    ?assign ?body ?done ?stop
  case assign =>
    intro l pre x W K hI hz hK
    dsimp only [encS]
    gi_wp2
    refine hK _ _ (Same.refl _ _ _) (Nat.le_refl _) (Kr_refl _ _ _) hI ?_
    rw [hfr]
  case body =>
    rintro l pre x a' W ⟨hI, hB⟩ hpx hN rfl
    rw [hfr]
    clear hfr fr
    have hd : 1 ≤ n - 1 - 1 := by omega
    obtain ⟨l', v, hl', h64, bL, hown⟩ := hI.row
    have hWz := hB.size
    have hNt := hN.top (by omega)
    have hxs : x.size < 4294967281 := by
      have := prt_le (hpx.subset (by simp) : x ∈ prt s)
      omega
    have H53 := Lib.hid (parsePlace_any x W (hE.below (hB0.trans hB) (Nat.le_refl _)) hxs)
    gi_wp2_with fail
    refine ⟨trivial, ?_⟩
    refine (CallsIn.inRound l (callsIn_wide.2 H53.out)).mono ?_
    rintro e W2 ⟨⟨q, b, rfl, hq⟩, hb2⟩
    have hz2 := hb2.size
    have hS2 : Same W0.heap.size (W0.heap.size + 2 + 0) W W2 := Same.of_below hb2 hNt
    have hK2 := Kr.of_below (n₀ := w.heap.size) (Bs := w.heap.size + 3) hb2 (by omega) (by omega)
    have hI2 := In.own w.heap.size W.heap.size pre W W2 none hI (grownBy_below hb2) (fun r e => by cases e)
    have hB2 := hB.trans (hb2.mono (by omega))
    have hS3 : Same W0.heap.size (W0.heap.size + 2 + 0) W (W2.alloc (.cells #[.string q.1, .int .i64 q.2] 48)) := hS2.trans (Same.of_below ((Below.refl _ W2).alloc (Nat.le_refl _) _) (by omega))
    have hK3 := Kr_t hK2 (Kr.of_below (n₀ := w.heap.size) (Bs := w.heap.size + 3) ((Below.refl _ W2).alloc (Nat.le_refl _) (.cells #[.string q.1, .int .i64 q.2] 48)) (by omega) (by omega))
    have hI3 := In.own w.heap.size W2.heap.size pre W2 (W2.alloc (.cells #[.string q.1, .int .i64 q.2] 48)) none hI2 (World.grownBy_alloc W2 _ none) (fun r e => by cases e)
    have hB3 : Below w.heap.size W0 (W2.alloc (.cells #[.string q.1, .int .i64 q.2] 48)) := hB2.alloc (by omega) _
    have y0 := hI3.r2.cell
    have y1 := hI3.r3.cell
    have y2 := hI3.r2.frozen
    have y3 := hI3.r3.frozen
    have a0 : (W2.alloc (.cells #[.string q.1, .int .i64 q.2] 48)).cell? ⟨W2.heap.size, 0, none⟩ = some (.string q.1) := by simp
    have a1 : (W2.alloc (.cells #[.string q.1, .int .i64 q.2] 48)).cell? ⟨W2.heap.size, 1, none⟩ = some (.int .i64 q.2) := by simp
    have hRet : prs s.data.toList = none → Same W0.heap.size (W0.heap.size + 2 + 0) W (((W2.alloc (.cells #[.string q.1, .int .i64 q.2] 48)).setCell ⟨w.heap.size, 0, none⟩ (.slice none 0 0)).setCell ⟨w.heap.size + 1, 0, none⟩ (.int .i64 4)) ∧ (Code.ret = Code.ret ∧ Out w.heap.size s (((W2.alloc (.cells #[.string q.1, .int .i64 q.2] 48)).setCell ⟨w.heap.size, 0, none⟩ (.slice none 0 0)).setCell ⟨w.heap.size + 1, 0, none⟩ (.int .i64 4)) ∧ Below w.heap.size W0 (((W2.alloc (.cells #[.string q.1, .int .i64 q.2] 48)).setCell ⟨w.heap.size, 0, none⟩ (.slice none 0 0)).setCell ⟨w.heap.size + 1, 0, none⟩ (.int .i64 4))) := fun hnone =>
      ⟨(hS3.trans (Same.setCell _ _ _ (.inl (by simp; omega)))).trans (Same.setCell _ _ _ (.inl (by simp; omega))), rfl,
        ⟨boxed_same (boxed_set hI3.r2 _) (Below.heap_setCell _ _ _ _ (by simp)), boxed_set (boxed_same hI3.r3 (Below.heap_setCell _ _ _ _ (by simp))) _, hnone⟩,
        (hB3.setCell (p := ⟨w.heap.size, 0, none⟩) (Nat.le_refl _) _).setCell (p := ⟨w.heap.size + 1, 0, none⟩) (by simp) _⟩
    have HRet := Lib.hid hRet
    clear hRet hb2 hI hB hown bL hI2 hB2
    rcases hq with ⟨rfl, hq⟩ | ⟨rfl, hq⟩
    · obtain ⟨l', v, hl', h64, bL, hown⟩ := hI3.row
      obtain ⟨A, cap, rfl, _⟩ := own_form hown
      have cL := bL.cell
      have hlp := mapM_len hl'
      by_cases hfull : l'.length = 64
      · have e64 : (((l'.length : Nat) : Int) == 64) = true := by rw [hfull]; rfl
        have HP := Lib.hid (prs_long hne hpx (by omega))
        clear hq hlp hl' hfull
        gi_wp2
        have R := HRet.out HP.out
        exact ⟨R.1, rfl, R.2.2.1, R.2.2.2⟩
      · have e64 : (((l'.length : Nat) : Int) == 64) = false := beq_eq_false_iff_ne.2 (by omega)
        have HM := Lib.hid (mapM_snoc hl' hq)
        have hlt : l'.length < 64 := by omega
        have HRo := Lib.hid (And.intro hI3.r2 hI3.r3)
        have hz3 : (W2.alloc (.cells #[.string q.1, .int .i64 q.2] 48)).heap.size = W2.heap.size + 1 := by simp
        have hnb : Hid (((W2.alloc (.cells #[.string q.1, .int .i64 q.2] 48)).alloc (.cells #[.string q.1, .int .i64 q.2] 48)).heap[W2.heap.size + 1]? = some (.cells #[.string q.1, .int .i64 q.2] 48 (0, 0))) := Lib.hid (by
          have := heap_alloc_new (W2.alloc (.cells #[.string q.1, .int .i64 q.2] 48)) (.cells #[.string q.1, .int .i64 q.2] 48)
          rwa [hz3] at this)
        clear hq hlp hl' hfull HRet hI3 y0 y1 y2 y3 hz3
        gi_wp2_with (gi_at_builtin; go_must (refine wpListIn_append_own _ rfl _ _ 23 rfl (w.heap.size + 8) 48 i0 _ 2 24 Tryd.underlying23 hi0 hi1 hi2 hi3 rfl (by decide) _ l'.length (flat l') rfl (hown.alloc _) ⟨W2.heap.size + 1, 0, none⟩ 1 1 (cel q) rfl rfl (World.news_of_block (cs := #[.string q.1, .int .i64 q.2]) (t := 48) (fr := (0, 0)) hnb.out) (by simp [cel, Value.oneCell']) (by unfold maxLen; omega) (by omega) (by simp; omega) ?_); intro v' w1 hown1 hgrow _; obtain ⟨g', cap', rfl⟩ := ownsRow_succ hown1; have bL1 := (bL.alloc (.cells #[.string q.1, .int .i64 q.2] 48)).kept hgrow (fun e => by have := (hown.lt _ e.symm).1; omega); have cL1 := bL1.cell; have fL1 := bL1.frozen)
        have hz3 : (W2.alloc (.cells #[.string q.1, .int .i64 q.2] 48)).heap.size = W2.heap.size + 1 := by simp
        have hz4 : ((W2.alloc (.cells #[.string q.1, .int .i64 q.2] 48)).alloc (.cells #[.string q.1, .int .i64 q.2] 48)).heap.size = W2.heap.size + 2 := by simp
        have hz5 := hgrow.size
        have hro : ∀ r, (Value.slice A l'.length cap).ownBlock = some r → w.heap.size + 8 ≤ r := fun r e => (hown.lt r e).1
        have hg1 := (hown1.lt g' rfl).1
        have bA := (Below.refl _ (W2.alloc (.cells #[.string q.1, .int .i64 q.2] 48))).alloc (Nat.le_refl _) (.cells #[.string q.1, .int .i64 q.2] 48)
        have sS : Same W0.heap.size (W0.heap.size + 2 + 0) W (w1.setCell ⟨w.heap.size + 2, 0, none⟩ (.slice (some ⟨g', 0, none⟩) (l'.length + 1) cap')) :=
          ((hS3.trans (Same.of_below bA (by omega))).trans (Same.grown hgrow (by omega) (fun r e => by have := hro r e; omega))).trans (Same.setCell _ _ _ (.inl (by simp; omega)))
        have kB : Below w.heap.size (W2.alloc (.cells #[.string q.1, .int .i64 q.2] 48)) (w1.setCell ⟨w.heap.size + 2, 0, none⟩ (.slice (some ⟨g', 0, none⟩) (l'.length + 1) cap')) :=
          (Below.grown (bA.mono (by omega)) hgrow (by omega) (fun r e => by have := hro r e; omega)).setCell (p := ⟨w.heap.size + 2, 0, none⟩) (by simp) _
        have kS : Same (w.heap.size + 3) (w.heap.size + 3 + 3) (W2.alloc (.cells #[.string q.1, .int .i64 q.2] 48)) (w1.setCell ⟨w.heap.size + 2, 0, none⟩ (.slice (some ⟨g', 0, none⟩) (l'.length + 1) cap')) :=
          ((Same.of_below bA (by omega)).trans (Same.grown hgrow (by omega) (fun r e => by have := hro r e; omega))).trans (Same.setCell _ _ _ (.inl (by simp)))
        have key : ∀ k t u, Boxed (W2.alloc (.cells #[.string q.1, .int .i64 q.2] 48)) k t u → k < w.heap.size + 2 → Boxed (w1.setCell ⟨w.heap.size + 2, 0, none⟩ (.slice (some ⟨g', 0, none⟩) (l'.length + 1) cap')) k t u := fun k t u hb hk =>
          boxed_same ((hb.alloc _).kept hgrow (fun e => by have := hro _ e.symm; omega)) (Below.heap_setCell _ _ _ _ (by simp; omega))
        refine ⟨sS, by simp; omega, Kr_t hK3 ⟨kB, kS⟩, ⟨⟨l' ++ [q], _, HM.out, by simp; omega, boxed_set bL1 _, ?_⟩, key _ _ _ HRo.out.1 (by omega), key _ _ _ HRo.out.2 (by omega)⟩, hB3.trans kB⟩
        rw [flat_snoc, List.length_append]
        exact own_same hown1 (by simp) (fun g e => Below.heap_setCell _ _ _ _ (by
          have : g' = g := by simpa [Value.ownBlock] using e
          simp; omega))
    · have HP := Lib.hid (prs_bad hne hpx hq)
      clear hq
      gi_wp2
      have R := HRet.out HP.out
      exact ⟨R.1, rfl, R.2.2.1, R.2.2.2⟩
  case done =>
    rintro D ys W hD rfl ⟨hI, hB⟩ hK
    obtain ⟨l', v, hl', h64, bL, hown⟩ := hI.row
    have hWz := hB.size
    have HP := Lib.hid (prs_good hne hl' h64)
    have H54 := Lib.hid (reverse_any v (w.heap.size + 8) l' W hown h64)
    have cL := bL.cell
    gi_wp2_with fail
    refine ⟨trivial, ?_⟩
    refine (callsIn_wide.2 H54.out).mono ?_
    rintro e W2 ⟨⟨u, rfl⟩, hown2, hgrow⟩
    have hro : ∀ r, v.ownBlock = some r → w.heap.size + 8 ≤ r := fun r e => (hown.lt r e).1
    have b2 : Boxed W2 (w.heap.size + 2) 23 v := bL.kept hgrow (fun e => by have := hro _ e.symm; omega)
    have b0 : Boxed W2 w.heap.size 23 (.slice none 0 0) := hI.r2.kept hgrow (fun e => by have := hro _ e.symm; omega)
    have b1 : Boxed W2 (w.heap.size + 1) 25 (.int .i64 0) := hI.r3.kept hgrow (fun e => by have := hro _ e.symm; omega)
    have hK2 : W2.heap[D]? = some (.deferred (some [])) := (hgrow.block D (Array.getElem?_eq_some_iff.1 hK).1 (fun e => by
      rcases hown.2 with ⟨rfl, _⟩ | ⟨g', cap, cur, rfl, _, hg', _⟩
      · simp [Value.ownBlock] at e
      · have : g' = D := by simpa [Value.ownBlock] using e.symm
        subst this
        rw [hK] at hg'; cases hg')).trans hK
    have c2 := b2.cell
    have c0 := b0.cell
    have c1 := b1.cell
    have f0 := b0.frozen
    have f1 := b1.frozen
    have hB2 : Below w.heap.size W0 W2 := Below.grown hB hgrow (by omega) (fun r e => by have := hro r e; omega)
    obtain ⟨A, cap, rfl, _⟩ := own_form (l := l'.reverse) (by rw [List.length_reverse]; exact hown2)
    rw [List.length_reverse] at *
    have y0 : Boxed ((W2.setCell ⟨w.heap.size, 0, none⟩ (.slice A l'.length cap)).setCell ⟨w.heap.size + 1, 0, none⟩ (.int .i64 0)) w.heap.size 23 (.slice A l'.length cap) := boxed_same (boxed_set b0 _) (Below.heap_setCell _ _ _ _ (by simp))
    have y1 : Boxed ((W2.setCell ⟨w.heap.size, 0, none⟩ (.slice A l'.length cap)).setCell ⟨w.heap.size + 1, 0, none⟩ (.int .i64 0)) (w.heap.size + 1) 25 (.int .i64 0) := boxed_set (boxed_same b1 (Below.heap_setCell _ _ _ _ (by simp))) _
    have yK : ((W2.setCell ⟨w.heap.size, 0, none⟩ (.slice A l'.length cap)).setCell ⟨w.heap.size + 1, 0, none⟩ (.int .i64 0)).heap[D]? = some (.deferred (some [])) := (Below.heap_setCell _ _ _ _ (by simp; omega)).trans ((Below.heap_setCell _ _ _ _ (by simp; omega)).trans hK2)
    have yB : Below w.heap.size W0 ((W2.setCell ⟨w.heap.size, 0, none⟩ (.slice A l'.length cap)).setCell ⟨w.heap.size + 1, 0, none⟩ (.int .i64 0)) := (hB2.setCell (p := ⟨w.heap.size, 0, none⟩) (Nat.le_refl _) _).setCell (p := ⟨w.heap.size + 1, 0, none⟩) (by simp) _
    have yO : ((W2.setCell ⟨w.heap.size, 0, none⟩ (.slice A l'.length cap)).setCell ⟨w.heap.size + 1, 0, none⟩ (.int .i64 0)).ownsRow (w.heap.size + 8) 48 2 (.slice A l'.length cap) l'.length (flat l'.reverse) :=
      own_same (own_same hown2 (by simp) (fun g e => Below.heap_setCell _ _ _ _ (by have := (hown2.lt g e).1; simp; omega))) (by simp) (fun g e => Below.heap_setCell _ _ _ _ (by have := (hown2.lt g e).1; simp; omega))
    clear hI hown bL b2 hgrow hown2
    gi_wp2
    generalize (W2.setCell ⟨w.heap.size, 0, none⟩ (.slice A l'.length cap)).setCell ⟨w.heap.size + 1, 0, none⟩ (.int .i64 0) = W4 at *
    have q0 := (y0.kept (grownBy_putObj' W4 D (.deferred none)) (by simp; omega)).cell
    have q1 := (y1.kept (grownBy_putObj' W4 D (.deferred none)) (by simp; omega)).cell
    refine ⟨by simp, .inl ⟨_, _, rfl, run_takeDeferred yK, ?_⟩⟩
    refine ⟨.tuple #[(.slice A l'.length cap), .int .i64 0], by simp [results, Tryd.results19, go_sem, q0, q1], ?_, (hB0.trans yB).trans (belowK_b (w := w) (Nat.le_refl _) W4 D _ _ (by omega) yK rfl rfl)⟩
    refine .inl ⟨l'.reverse, _, HP.out, rfl, ?_⟩
    rw [List.length_reverse]
    exact own_base (ownsRow_putObj yO _ yK rfl) (by omega)
  case stop =>
    rintro D c pre W hD hpre ⟨rfl, ⟨b0, b1, hnone⟩, hB⟩ hK
    have HP := Lib.hid hnone
    have q0 := (b0.kept (grownBy_putObj' W D (.deferred none)) (by simp; omega)).cell
    have q1 := (b1.kept (grownBy_putObj' W D (.deferred none)) (by simp; omega)).cell
    clear hnone
    gi_wp2
    refine ⟨by simp, .inl ⟨_, _, rfl, run_takeDeferred hK, ?_⟩⟩
    exact ⟨.tuple #[.slice none 0 0, .int .i64 4], by simp [results, Tryd.results19, go_sem, q0, q1], .inr ⟨HP.out, rfl⟩, (hB0.trans hB).trans (belowK_b (w := w) (Nat.le_refl _) W D _ _ (by omega) hK rfl rfl)⟩

theorem parse_any (s : ByteArray) (w : World) (hE : Env w) (h3 : 3 ≤ w.heap.size) (hs : s.size < 4294967281) :
    Calls Tryd.prog 19 #[.string s] w fun e W' => PR w.heap.size s e W' ∧ Below w.heap.size w W' := by
  by_cases hne : s.data.toList = []
  · have e1 : s.toList = [] := by rw [Lib.toList_data]; exact hne
    have HP : Hid (prs s.data.toList = some []) := Lib.hid (by rw [hne]; rfl)
    clear hne
    go_enter Tryd.func19, Tryd.ntmps19
    go_wp2
    refine bodyPost_ret (v := .tuple #[.slice none 0 0, .int .i64 0]) (by simp [results, Tryd.results19, go_sem]) rfl ⟨.inl ⟨[], _, HP.out, rfl, World.ownsRow_nil _ _ _ _⟩, ?_⟩
    exact (((Below.refl _ w).alloc (Nat.le_refl _) _).alloc (by simp) _)
  · exact callsIn_wide.1 (parse_in 4 (Nat.le_refl _) s w hE h3 hne hs)
end Go.Proofs.YtocdinaomkmcbaaDoor
