/-
  A loop over an iterator that itself loops over an iterator. What is asked of the caller's invariant is wider than in the kit's law (it does not mind that a block which is no cells, laid since the call began, is turned: the iterator turns its own loop's record between two rounds); a round is told that what has come is a beginning of what is to come, and that the iterator's own first k blocks lie; it leaves these as they are.
-/
import Derived.Test.YtocdinaomkmcbaaDoorK
import Derived.Lib.OthersKept
import Derived.RangeFuncNested
import Derived.RangeFuncBound
import Derived.RangeFuncCalls
import Derived.RangeFuncLeaves
import Derived.RangeFuncBox
import Derived.Shelf.Abstract
import Derived.Shelf.RegionOpen
import Derived.OwnWalkIn
import Derived.TacticsInMore
import Derived.LoopNIn
import Derived.LoopIn
namespace Go.Proofs.YtocdinaomkmcbaaDoor
open Go.ChangeShapes Go.WideShapes Go.ChangeAt Go.RowKit Go.Shelf
set_option linter.unusedVariables false

/-- The blocks from a to b lie as they lay. -/
def Same (a b : Nat) (W W' : World) : Prop := ∀ j, a ≤ j → j < b → W'.heap[j]? = W.heap[j]?
theorem Same.refl (a b : Nat) (W : World) : Same a b W W := fun _ _ _ => rfl
theorem Same.trans {a b : Nat} {A B C : World} (h : Same a b A B) (k : Same a b B C) : Same a b A C := fun j h1 h2 => (k j h1 h2).trans (h j h1 h2)
theorem Same.mono {a b a' b' : Nat} {W W' : World} (h : Same a b W W') (ha : a ≤ a') (hb : b' ≤ b) : Same a' b' W W' := fun j h1 h2 => h j (by omega) (by omega)
theorem Same.of_below {a b : Nat} {W W' : World} (h : Below W.heap.size W W') (hb : b ≤ W.heap.size) : Same a b W W' := fun j _ h2 => h.block j (by omega)
theorem Same.setCell {a b : Nat} (W : World) (p : Addr) (v : Value) (h : p.block < a ∨ b ≤ p.block) : Same a b W (W.setCell p v) := fun j h1 h2 => Below.heap_setCell W p v j (by omega)
theorem Same.grown {a b : Nat} {W W' : World} {row : Option Nat} (h : W.grownBy W' row) (hb : b ≤ W.heap.size) (hr : ∀ r, row = some r → r < a ∨ b ≤ r) : Same a b W W' := fun j h1 h2 => h.block j (by omega) (fun e => by have := hr j e.symm; omega)
theorem Same.drew {a b : Nat} {W W' : World} (h : Same a b W W') : Same a b W W'.drew := h
theorem Same.boxed {a b B : Nat} {t : TypeId} {v : Value} {W W' : World} (h : Same a b W W') (hB : Boxed W B t v) (h1 : a ≤ B) (h2 : B < b) : Boxed W' B t v := (h B h1 h2).trans hB

/-- The blocks from a to b are there, and none is a row of bytes. -/
def NoB (a b : Nat) (W : World) : Prop := ∀ j, a ≤ j → j < b → ∃ o, W.heap[j]? = some o ∧ ∀ c fz, o ≠ .cells c 5 fz
theorem NoB.same {a b : Nat} {W W' : World} (h : NoB a b W) (k : Same a b W W') : NoB a b W' := fun j h1 h2 => by
  obtain ⟨o, ho, hn⟩ := h j h1 h2
  exact ⟨o, (k j h1 h2).trans ho, hn⟩
theorem NoB.join {a b c : Nat} {W : World} (h : NoB a b W) (k : NoB b c W) : NoB a c W := fun j h1 h2 => by
  rcases Nat.lt_or_ge j b with h' | h'
  · exact h j h1 h'
  · exact k j h' h2
theorem NoB.none (a : Nat) (W : World) : NoB a (a + 0) W := fun j h1 h2 => by omega
theorem NoB.top {a b : Nat} {W : World} (h : NoB a b W) (hab : a < b) : b ≤ W.heap.size := by
  obtain ⟨o, ho, _⟩ := h (b - 1) (by omega) (by omega)
  have := (Array.getElem?_eq_some_iff.1 ho).1
  omega
theorem NoB.box {B : Nat} {t : TypeId} {v : Value} {W : World} (h : Boxed W B t v) (ht : t ≠ 5) : NoB B (B + 1) W := fun j h1 h2 => by
  obtain rfl : j = B := by omega
  exact ⟨_, h, fun c fz e => by cases e; exact ht rfl⟩
theorem NoB.others {a b : Nat} {x : Option Nat} {W W' : World} (h : NoB a b W) (k : Lib.OthersKept 5 x W W') (hx : ∀ r, x = some r → r < a ∨ b ≤ r) : Same a b W W' := fun j h1 h2 => by
  obtain ⟨o, ho, hn⟩ := h j h1 h2
  exact (k j o ho (fun e => by have := hx j e.symm; omega) (fun c fz e => hn c fz e)).trans ho.symm
theorem ownFrom_nob {β : Type} {B a b : Nat} (hb : b ≤ B) : OwnFrom B (fun (_ : β) W => NoB a b W) := fun s A C row h hg hr => h.same (fun j h1 h2 => by
  obtain ⟨o, ho, _⟩ := h j h1 h2
  exact hg.block j (Array.getElem?_eq_some_iff.1 ho).1 (fun e => by have := (hr j e.symm).1; omega))

/-- What such an iterator promises. -/
def SeqW {α : Type} (F : Fence) (n : Nat) (P : Program) (g : Nat) (lb : Array Value) (encs : α → Array Value) (k : Nat) (Kp : World → World → Prop) (S Sp : List α → Prop) (w : World) : Prop :=
  ∀ (l : Nat) (J Jx : List α → World → Prop) (W : World), Below w.heap.size w W → OwnFrom W.heap.size J → OwnFrom W.heap.size Jx →
    (∀ pre x W1, J pre W1 → Sp (pre ++ [x]) → W.heap.size + k ≤ W1.heap.size → NoB W.heap.size (W.heap.size + k) W1 → YieldAt F (n - 1) P l (encs x) W1 fun e W' =>
      (e = .returned (.bool true) ∧ J (pre ++ [x]) W' ∧ Kp W1 W' ∧ Same W.heap.size (W.heap.size + k) W1 W') ∨ (e = .returned (.bool false) ∧ Jx (pre ++ [x]) W' ∧ Same W.heap.size (W.heap.size + k) W1 W')) →
    J [] W →
    CallsIn F n P g (#[.func (.yield l) #[] #[]] ++ lb) W fun e W' => (∃ v, e = .returned v) ∧ ((∃ xs, S xs ∧ J xs W') ∨ (∃ pre, Sp pre ∧ Jx pre W'))

theorem RoundIn.deep {F : Fence} (hd : F.depth = none) {m : Nat} (m' : Nat) {P : Program} {l : Nat} {f : FuncId} {tmps : Array Value} {assign body : Code} {w : World} {R : Ending → World → Prop}
    (h : RoundIn F m P l f tmps assign body w R) : RoundIn F m' P l f tmps assign body w R := ⟨h.1, fun c cs _ => h.2 c cs (fun d e => by rw [hd] at e; cases e)⟩

/-- What lay ahead of the call and is no row that is turned lies on. -/
theorem lies {W W' : World} {row : Option Nat} {B k : Nat} {o : Obj} (hg : W.grownBy W' row) (hr : ∀ r, row = some r → B ≤ r) (hk : k < B) (h : W.heap[k]? = some o) : W'.heap[k]? = some o :=
  (hg.block k (Array.getElem?_eq_some_iff.1 h).1 (fun e => by have := hr k e.symm; omega)).trans h

/-- How a round may be left. -/
def postW {α : Type} (B k : Nat) (Kp : World → World → Prop) (I : List α → World → Prop) (Ix : Code → List α → World → Prop) (xs : List α) (W : World) : Exit → Act → World → Prop
  | .normal, _, W' => Same B (B + 2 + k) W W' ∧ W.heap.size ≤ W'.heap.size ∧ Kp W W' ∧ I xs W'
  | .ret, _, W' => Same B (B + 2 + k) W W' ∧ Ix .ret xs W'
  | _, _, _ => False

section law
variable {F : Fence} {n : Nat} {P : Program}
set_option maxHeartbeats 1000000 in
/-- The loop, outermost in its function; its assignments lay nothing; its body is left at its end or by a return. -/
theorem wpIn_range_wide {α : Type} {g : Operand} {ps : Array Tmp} {assign body : Code} {Q : Exit → Act → World → Prop} {a : Act} {w : World} {k : Nat}
    (hro : F.round = none) (h1 : 1 ≤ n) {gf : Nat} {lb : Array Value} (hg : a.eval g = .func (.func gf) #[] lb) (hFg : F.fn gf) (eg : ∀ args w, (callFunc gf args).run P w = .ok (.enter gf args) w)
    {encs : α → Array Value} {Kp : World → World → Prop} {S Sp : List α → Prop} (hseq : SeqW F (n - 1) P gf lb encs k Kp S Sp w)
    (hKt : ∀ {A B C : World}, Kp A B → Kp B C → Kp A C) (hKb : ∀ (W : World) (l : Nat) (o o' : Obj), w.heap.size ≤ l → W.heap[l]? = some o → o.isCells = false → o.isWalk = false → Kp W (W.putObj l o')) (hps : ∀ x, (encs x).size = ps.size)
    (I : List α → World → Prop) (Ix : Code → List α → World → Prop) (Ax : α → Act → World → Prop) (hI : OwnFrom w.heap.size I) (hIx : ∀ c, OwnFrom w.heap.size (Ix c)) (hAx : ∀ x a', OwnFrom w.heap.size (fun (_ : Unit) W => Ax x a' W)) (h0 : I [] w)
    (hassign : ∀ (l : Nat) (pre : List α) (x : α) (W : World) (K : Act → World → Prop), I pre W → w.heap.size + 2 ≤ W.heap.size → (∀ a' W', Same w.heap.size (w.heap.size + 2 + k) W W' → W.heap.size ≤ W'.heap.size → Kp W W' → I pre W' → Ax x a' W' → K a' W') →
      assign.wpIn (F.inRound l) (n - 1 - 1) P (Exit.then K (fun _ _ _ => False)) { tmps := (ps.zip (encs x)).foldl (fun t (p, v) => t.setIfInBounds p v) a.tmps, defers := [] } W)
    (hbody : ∀ (l : Nat) (pre : List α) (x : α) (a' : Act) (W : World), I pre W → Sp (pre ++ [x]) → NoB w.heap.size (w.heap.size + 2 + k) W → Ax x a' W → body.wpIn (F.inRound l) (n - 1 - 1) P (postW w.heap.size k Kp I Ix (pre ++ [x]) W) a' W)
    (hdone : ∀ (D : Nat) (xs : List α) (W : World), w.heap.size ≤ D → S xs → I xs W → W.heap[D]? = some (.deferred (some [])) → Q .normal { a with defers := { target := .collected D, args := #[] } :: a.defers } W)
    (hstop : ∀ (D : Nat) (c : Code) (pre : List α) (W : World), w.heap.size ≤ D → Sp pre → Ix c pre W → W.heap[D]? = some (.deferred (some [])) → c.wpIn F n P Q { a with defers := { target := .collected D, args := #[] } :: a.defers } W) :
    (Code.rangeFunc g ps assign body).wpIn F n P Q a w := by
  refine wpIn_rangeFunc ?_
  intro fn hfn
  rw [hro]
  -- the record in each of its states; the world in which the call begins
  let rec_ : LoopState → Option Code → Obj := fun st pe => .loop { state := st, pending := pe, fn, tmps := a.tmps, params := ps, assign, body, defers := w.heap.size }
  generalize hW1 : (w.alloc (.deferred (some []))).alloc (rec_ .ready none) = W1
  have hz1 : W1.heap.size = w.heap.size + 2 := by rw [← hW1]; simp
  have hL1 : W1.heap[w.heap.size + 1]? = some (rec_ .ready none) := by
    rw [← hW1]; simpa using World.alloc_heap_new (w.alloc (.deferred (some []))) (rec_ .ready none)
  have hD1 : W1.heap[w.heap.size]? = some (.deferred (some [])) := by
    rw [← hW1]; exact (Below.heap_alloc _ _ _ (by simp)).trans (World.alloc_heap_new w _)
  have hI1 : I [] W1 := by rw [← hW1]; exact hI.alloc _ (hI.alloc _ h0)
  have hb1 : Below w.heap.size w W1 := by rw [← hW1]; exact ((Below.refl _ w).alloc (Nat.le_refl _) _).alloc (by simp) _
  refine ⟨w.heap.size + 1, [{ target := .collected w.heap.size, args := #[] }], W1, { target := .fn (.func gf) lb, args := #[.func (.yield (w.heap.size + 1)) #[] #[]] }, W1, gf,
    #[.func (.yield (w.heap.size + 1)) #[] #[]] ++ lb, W1, ?_, ?_, ?_, ?_, fun _ => h1, ?_⟩
  · rw [← hW1]; exact run_enterLoop_outer _ _ _ _ _
  · simp only [resolve, hg]
    simp [go_sem]
  · intro f' hf'; simp [Target.leads] at hf'; subst hf'; exact hFg
  · simp [invoke, go_sem, eg]
  -- a turn of a block laid since the call began minds neither the invariant nor the two blocks of the loop
  have turn : ∀ {row : Option Nat} {A : World}, (∀ r, row = some r → W1.heap.size ≤ r ∧ ∃ o : Obj, A.heap[r]? = some o ∧ o.isCells = false) → ∀ r, row = some r → w.heap.size ≤ r ∧ ∃ o : Obj, A.heap[r]? = some o ∧ o.isCells = false :=
    fun hr r e => ⟨by have := (hr r e).1; omega, (hr r e).2⟩
  refine (hseq (w.heap.size + 1)
    (fun pre W => I pre W ∧ W.heap[w.heap.size + 1]? = some (rec_ .ready none) ∧ W.heap[w.heap.size]? = some (.deferred (some [])))
    (fun pre W => ∃ c, Ix c pre W ∧ W.heap[w.heap.size + 1]? = some (rec_ .done (some c)) ∧ W.heap[w.heap.size]? = some (.deferred (some [])))
    W1 hb1 ?_ ?_ ?_ ⟨hI1, hL1, hD1⟩).mono ?_
  · rintro s A B row ⟨hi, hl, hk⟩ hg' hr
    exact ⟨hI s A B row hi hg' (turn hr), lies hg' (fun r e => (hr r e).1) (by omega) hl, lies hg' (fun r e => (hr r e).1) (by omega) hk⟩
  · rintro s A B row ⟨c, hi, hl, hk⟩ hg' hr
    exact ⟨c, hIx c s A B row hi hg' (turn hr), lies hg' (fun r e => (hr r e).1) (by omega) hl, lies hg' (fun r e => (hr r e).1) (by omega) hk⟩
  · -- one round
    rintro pre x W ⟨hi, hl, hk⟩ hpx hown hnob
    rw [hz1] at hown hnob ⊢
    have hsz0 : w.heap.size + 1 < W.heap.size := (Array.getElem?_eq_some_iff.1 hl).1
    refine ⟨fn, _, assign, body, run_yield (P := P) (args := encs x) hl (hps x), roundIn_of_wpIn hfn (hassign _ pre x W _ hi (by omega) ?_)⟩
    intro a' V0 hs0 hz0 hk0 hi0 ha0
    have nob0 := hnob.same (hs0.mono (Nat.le_add_right _ 2) (by omega))
    have hl0 : V0.heap[w.heap.size + 1]? = some (rec_ .ready none) := (hs0 _ (by omega) (by omega)).trans hl
    have hd0 : V0.heap[w.heap.size]? = some (.deferred (some [])) := (hs0 _ (Nat.le_refl _) (by omega)).trans hk
    have hsz : w.heap.size + 1 < V0.heap.size := by omega
    refine ⟨_, run_beginRound hl0 rfl, ?_⟩
    have hl2 : (V0.putObj (w.heap.size + 1) (rec_ .busy none)).heap[w.heap.size + 1]? = some (rec_ .busy none) := World.putObj_heap_same hsz
    have hk2 : (V0.putObj (w.heap.size + 1) (rec_ .busy none)).heap[w.heap.size]? = some (.deferred (some [])) := (World.putObj_heap_other (by omega)).trans hd0
    have kb : Kp W (V0.putObj (w.heap.size + 1) (rec_ .busy none)) := hKt hk0 (hKb _ _ _ _ (by omega) hl0 rfl rfl)
    have sb0 : Same (w.heap.size + 2) (w.heap.size + 2 + k) V0 (V0.putObj (w.heap.size + 1) (rec_ .busy none)) := fun j h1 h2 => World.putObj_heap_other (by omega)
    have sb : Same (w.heap.size + 2) (w.heap.size + 2 + k) W (V0.putObj (w.heap.size + 1) (rec_ .busy none)) := (hs0.mono (by omega) (Nat.le_refl _)).trans sb0
    have nob2 : NoB w.heap.size (w.heap.size + 2) (V0.putObj (w.heap.size + 1) (rec_ .busy none)) := fun j h1 h2 => by
      rcases (show j = w.heap.size ∨ j = w.heap.size + 1 by omega) with rfl | rfl
      · exact ⟨_, hk2, fun c fz e => by cases e⟩
      · exact ⟨_, hl2, fun c fz e => by cases e⟩
    refine wpIn_mono (hbody _ pre x a' _ (hI.putObj _ hi0 (by omega) hl0 rfl) hpx (NoB.join (b := w.heap.size + 2) nob2 (nob0.same sb0)) ((hAx x a').putObj (s := ()) _ ha0 (by omega) hl0 rfl)) ?_
    -- the round's end, by whatever way
    have fin : ∀ (jump : Option Code) (V : World), Same w.heap.size (w.heap.size + 2) (V0.putObj (w.heap.size + 1) (rec_ .busy none)) V →
        V.heap[w.heap.size + 1]? = some (rec_ .busy none) ∧ (Instr.endRound (w.heap.size + 1) jump).run P V = .ok (.bool jump.isNone) (V.putObj (w.heap.size + 1) (rec_ (if jump.isNone then .ready else .done) jump)) ∧
        (V.putObj (w.heap.size + 1) (rec_ (if jump.isNone then .ready else .done) jump)).heap[w.heap.size + 1]? = some (rec_ (if jump.isNone then .ready else .done) jump) ∧
        (V.putObj (w.heap.size + 1) (rec_ (if jump.isNone then .ready else .done) jump)).heap[w.heap.size]? = some (.deferred (some [])) := fun jump V hkf => by
      have e := (hkf (w.heap.size + 1) (by omega) (by omega)).trans hl2
      exact ⟨e, run_endRound jump e, World.putObj_heap_same (Array.getElem?_eq_some_iff.1 e).1, (World.putObj_heap_other (by omega)).trans ((hkf w.heap.size (Nat.le_refl _) (by omega)).trans hk2)⟩
    intro e a3 V hp
    cases e with
    | normal =>
      obtain ⟨hs, hz, hkp, hi3⟩ := hp
      obtain ⟨e, hr, g1, g2⟩ := fin none V (hs.mono (Nat.le_refl _) (by omega))
      exact ⟨_, _, hr, .inl ⟨rfl, ⟨hI.putObj _ hi3 (by omega) e rfl, g1, g2⟩, hKt (hKt kb hkp) (hKb _ _ _ _ (by omega) e rfl rfl),
        (sb.trans (hs.mono (by omega) (Nat.le_refl _))).trans (fun j h1 h2 => World.putObj_heap_other (by omega))⟩⟩
    | ret =>
      obtain ⟨hs, hx⟩ := hp
      obtain ⟨e, hr, g1, g2⟩ := fin (some .ret) V (hs.mono (Nat.le_refl _) (by omega))
      exact ⟨_, _, hr, .inr ⟨rfl, ⟨.ret, (hIx _).putObj _ hx (by omega) e rfl, g1, g2⟩, (sb.trans (hs.mono (by omega) (Nat.le_refl _))).trans (fun j h1 h2 => World.putObj_heap_other (by omega))⟩⟩
    | exit id => exact hp.elim
    | goto t => exact hp.elim
    | panic ch => exact hp.elim
    | outgrown => exact hp.elim
  · -- behind the call
    rintro e W2 ⟨⟨v, rfl⟩, ⟨xs, hS, hi, hl, hk⟩ | ⟨pre, hSp, c, hi, hl, hk⟩⟩
    · exact ⟨none, _, run_endLoop hl (by simp), hdone _ xs _ (Nat.le_refl _) hS (hI.putObj _ hi (by omega) hl rfl) ((World.putObj_heap_other (by omega)).trans hk)⟩
    · exact ⟨some c, _, run_endLoop hl (by simp), hstop _ c pre _ (Nat.le_refl _) hSp ((hIx c).putObj _ hi (by omega) hl rfl) ((World.putObj_heap_other (by omega)).trans hk)⟩
end law
end Go.Proofs.YtocdinaomkmcbaaDoor
