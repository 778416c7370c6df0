/-
  The same law for an iterator that writes cells of its own between two rounds.
-/
import Derived.Test.YtocdinaomkmcbaaDoorT
namespace Go.Proofs.YtocdinaomkmcbaaDoor
open Go.ChangeShapes Go.WideShapes Go.ChangeAt Go.RowKit Go.Shelf
set_option linter.unusedVariables false

/-- What such an iterator promises. -/
def SeqT {α : Type} (F : Fence) (n : Nat) (P : Program) (g : Nat) (lb : Array Value) (encs : α → Array Value) (k : Nat) (Kp Tm : World → World → Prop) (S Sp : List α → Prop) (w : World) : Prop :=
  ∀ (l : Nat) (J Jx : List α → World → Prop) (W : World), Below w.heap.size w W → OwnFrom W.heap.size J → (∀ pre A B, J pre A → Tm A B → J pre B) → OwnFrom W.heap.size Jx →
    (∀ pre x W1, J pre W1 → Sp (pre ++ [x]) → W.heap.size + k ≤ W1.heap.size → NoB W.heap.size (W.heap.size + k) W1 → YieldAt F (n - 1) P l (encs x) W1 fun e W' =>
      (e = .returned (.bool true) ∧ J (pre ++ [x]) W' ∧ Kp W1 W' ∧ Same W.heap.size (W.heap.size + k) W1 W') ∨ (e = .returned (.bool false) ∧ Jx (pre ++ [x]) W' ∧ Same W.heap.size (W.heap.size + k) W1 W')) →
    J [] W →
    CallsIn F n P g (#[.func (.yield l) #[] #[]] ++ lb) W fun e W' => (∃ v, e = .returned v) ∧ ((∃ xs, S xs ∧ J xs W') ∨ (∃ pre, Sp pre ∧ Jx pre W'))

section law
variable {F : Fence} {n : Nat} {P : Program}
set_option maxHeartbeats 1000000 in
/-- The loop, outermost in its function; its assignments lay nothing; its body is left at its end or by a return. -/
theorem wpIn_range_turn {α : Type} {g : Operand} {ps : Array Tmp} {assign body : Code} {Q : Exit → Act → World → Prop} {a : Act} {w : World} {k : Nat}
    (hro : F.round = none) (h1 : 1 ≤ n) {gf : Nat} {lb : Array Value} (hg : a.eval g = .func (.func gf) #[] lb) (hFg : F.fn gf) (eg : ∀ args w, (callFunc gf args).run P w = .ok (.enter gf args) w)
    {encs : α → Array Value} {Kp Tm : World → World → Prop} {S Sp : List α → Prop} (hseq : SeqT F (n - 1) P gf lb encs k Kp Tm S Sp w)
    (hKt : ∀ {A B C : World}, Kp A B → Kp B C → Kp A C) (hKb : ∀ (W : World) (l : Nat) (o o' : Obj), w.heap.size ≤ l → W.heap[l]? = some o → o.isCells = false → o.isWalk = false → Kp W (W.putObj l o')) (hps : ∀ x, (encs x).size = ps.size)
    (I : List α → World → Prop) (Ix : Code → List α → World → Prop) (Ax : α → Act → World → Prop) (hI : OwnFrom w.heap.size I) (hIx : ∀ c, OwnFrom w.heap.size (Ix c)) (hAx : ∀ x a', OwnFrom w.heap.size (fun (_ : Unit) W => Ax x a' W)) (h0 : I [] w) (hTI : ∀ pre A B, I pre A → Tm A B → I pre B) (hTS : ∀ A B, Tm A B → Same w.heap.size (w.heap.size + 2) A B)
    (hassign : ∀ (l : Nat) (pre : List α) (x : α) (W : World) (K : Act → World → Prop), I pre W → w.heap.size + 2 ≤ W.heap.size → (∀ a' W', Same w.heap.size (w.heap.size + 2 + k) W W' → W.heap.size ≤ W'.heap.size → Kp W W' → I pre W' → Ax x a' W' → K a' W') →
      assign.wpIn (F.inRound l) (n - 1 - 1) P (Exit.then K (fun _ _ _ => False)) { tmps := (ps.zip (encs x)).foldl (fun t (p, v) => t.setIfInBounds p v) a.tmps, defers := [] } W)
    (hbody : ∀ (l : Nat) (pre : List α) (x : α) (a' : Act) (W : World), I pre W → Sp (pre ++ [x]) → NoB w.heap.size (w.heap.size + 2 + k) W → Ax x a' W → body.wpIn (F.inRound l) (n - 1 - 1) P (postW w.heap.size k Kp I Ix (pre ++ [x]) W) a' W)
    (hdone : ∀ (D : Nat) (xs : List α) (W : World), w.heap.size ≤ D → S xs → I xs W → W.heap[D]? = some (.deferred (some [])) → Q .normal { a with defers := { target := .collected D, args := #[] } :: a.defers } W)
    (hstop : ∀ (D : Nat) (c : Code) (pre : List α) (W : World), w.heap.size ≤ D → Sp pre → Ix c pre W → W.heap[D]? = some (.deferred (some [])) → c.wpIn F n P Q { a with defers := { target := .collected D, args := #[] } :: a.defers } W) :
    (Code.rangeFunc g ps assign body).wpIn F n P Q a w := by
  refine wpIn_rangeFunc ?_
  intro fn hfn
  rw [hro]
  -- the record in each of its states; the world in which the call begins
  let rec_ : LoopState → Option Code → Obj := fun st pe => .loop { state := st, pending := pe, fn, tmps := a.tmps, params := ps, assign, body, defers := w.heap.size }
  generalize hW1 : (w.alloc (.deferred (some []))).alloc (rec_ .ready none) = W1
  have hz1 : W1.heap.size = w.heap.size + 2 := by rw [← hW1]; simp
  have hL1 : W1.heap[w.heap.size + 1]? = some (rec_ .ready none) := by
    rw [← hW1]; simpa using World.alloc_heap_new (w.alloc (.deferred (some []))) (rec_ .ready none)
  have hD1 : W1.heap[w.heap.size]? = some (.deferred (some [])) := by
    rw [← hW1]; exact (Below.heap_alloc _ _ _ (by simp)).trans (World.alloc_heap_new w _)
  have hI1 : I [] W1 := by rw [← hW1]; exact hI.alloc _ (hI.alloc _ h0)
  have hb1 : Below w.heap.size w W1 := by rw [← hW1]; exact ((Below.refl _ w).alloc (Nat.le_refl _) _).alloc (by simp) _
  refine ⟨w.heap.size + 1, [{ target := .collected w.heap.size, args := #[] }], W1, { target := .fn (.func gf) lb, args := #[.func (.yield (w.heap.size + 1)) #[] #[]] }, W1, gf,
    #[.func (.yield (w.heap.size + 1)) #[] #[]] ++ lb, W1, ?_, ?_, ?_, ?_, fun _ => h1, ?_⟩
  · rw [← hW1]; exact run_enterLoop_outer _ _ _ _ _
  · simp only [resolve, hg]
    simp [go_sem]
  · intro f' hf'; simp [Target.leads] at hf'; subst hf'; exact hFg
  · simp [invoke, go_sem, eg]
  -- a turn of a block laid since the call began minds neither the invariant nor the two blocks of the loop
  have turn : ∀ {row : Option Nat} {A : World}, (∀ r, row = some r → W1.heap.size ≤ r ∧ ∃ o : Obj, A.heap[r]? = some o ∧ o.isCells = false) → ∀ r, row = some r → w.heap.size ≤ r ∧ ∃ o : Obj, A.heap[r]? = some o ∧ o.isCells = false :=
    fun hr r e => ⟨by have := (hr r e).1; omega, (hr r e).2⟩
  refine (hseq (w.heap.size + 1)
    (fun pre W => I pre W ∧ W.heap[w.heap.size + 1]? = some (rec_ .ready none) ∧ W.heap[w.heap.size]? = some (.deferred (some [])))
    (fun pre W => ∃ c, Ix c pre W ∧ W.heap[w.heap.size + 1]? = some (rec_ .done (some c)) ∧ W.heap[w.heap.size]? = some (.deferred (some [])))
    W1 hb1 ?_ ?_ ?_ ?_ ⟨hI1, hL1, hD1⟩).mono ?_
  · rintro s A B row ⟨hi, hl, hk⟩ hg' hr
    exact ⟨hI s A B row hi hg' (turn hr), lies hg' (fun r e => (hr r e).1) (by omega) hl, lies hg' (fun r e => (hr r e).1) (by omega) hk⟩
  · rintro pre A B ⟨hi, hl, hk⟩ ht
    exact ⟨hTI _ _ _ hi ht, (hTS _ _ ht _ (by omega) (by omega)).trans hl, (hTS _ _ ht _ (Nat.le_refl _) (by omega)).trans hk⟩
  · rintro s A B row ⟨c, hi, hl, hk⟩ hg' hr
    exact ⟨c, hIx c s A B row hi hg' (turn hr), lies hg' (fun r e => (hr r e).1) (by omega) hl, lies hg' (fun r e => (hr r e).1) (by omega) hk⟩
  · -- one round
    rintro pre x W ⟨hi, hl, hk⟩ hpx hown hnob
    rw [hz1] at hown hnob ⊢
    have hsz0 : w.heap.size + 1 < W.heap.size := (Array.getElem?_eq_some_iff.1 hl).1
    refine ⟨fn, _, assign, body, run_yield (P := P) (args := encs x) hl (hps x), roundIn_of_wpIn hfn (hassign _ pre x W _ hi (by omega) ?_)⟩
    intro a' V0 hs0 hz0 hk0 hi0 ha0
    have nob0 := hnob.same (hs0.mono (Nat.le_add_right _ 2) (by omega))
    have hl0 : V0.heap[w.heap.size + 1]? = some (rec_ .ready none) := (hs0 _ (by omega) (by omega)).trans hl
    have hd0 : V0.heap[w.heap.size]? = some (.deferred (some [])) := (hs0 _ (Nat.le_refl _) (by omega)).trans hk
    have hsz : w.heap.size + 1 < V0.heap.size := by omega
    refine ⟨_, run_beginRound hl0 rfl, ?_⟩
    have hl2 : (V0.putObj (w.heap.size + 1) (rec_ .busy none)).heap[w.heap.size + 1]? = some (rec_ .busy none) := World.putObj_heap_same hsz
    have hk2 : (V0.putObj (w.heap.size + 1) (rec_ .busy none)).heap[w.heap.size]? = some (.deferred (some [])) := (World.putObj_heap_other (by omega)).trans hd0
    have kb : Kp W (V0.putObj (w.heap.size + 1) (rec_ .busy none)) := hKt hk0 (hKb _ _ _ _ (by omega) hl0 rfl rfl)
    have sb0 : Same (w.heap.size + 2) (w.heap.size + 2 + k) V0 (V0.putObj (w.heap.size + 1) (rec_ .busy none)) := fun j h1 h2 => World.putObj_heap_other (by omega)
    have sb : Same (w.heap.size + 2) (w.heap.size + 2 + k) W (V0.putObj (w.heap.size + 1) (rec_ .busy none)) := (hs0.mono (by omega) (Nat.le_refl _)).trans sb0
    have nob2 : NoB w.heap.size (w.heap.size + 2) (V0.putObj (w.heap.size + 1) (rec_ .busy none)) := fun j h1 h2 => by
      rcases (show j = w.heap.size ∨ j = w.heap.size + 1 by omega) with rfl | rfl
      · exact ⟨_, hk2, fun c fz e => by cases e⟩
      · exact ⟨_, hl2, fun c fz e => by cases e⟩
    refine wpIn_mono (hbody _ pre x a' _ (hI.putObj _ hi0 (by omega) hl0 rfl) hpx (NoB.join (b := w.heap.size + 2) nob2 (nob0.same sb0)) ((hAx x a').putObj (s := ()) _ ha0 (by omega) hl0 rfl)) ?_
    -- the round's end, by whatever way
    have fin : ∀ (jump : Option Code) (V : World), Same w.heap.size (w.heap.size + 2) (V0.putObj (w.heap.size + 1) (rec_ .busy none)) V →
        V.heap[w.heap.size + 1]? = some (rec_ .busy none) ∧ (Instr.endRound (w.heap.size + 1) jump).run P V = .ok (.bool jump.isNone) (V.putObj (w.heap.size + 1) (rec_ (if jump.isNone then .ready else .done) jump)) ∧
        (V.putObj (w.heap.size + 1) (rec_ (if jump.isNone then .ready else .done) jump)).heap[w.heap.size + 1]? = some (rec_ (if jump.isNone then .ready else .done) jump) ∧
        (V.putObj (w.heap.size + 1) (rec_ (if jump.isNone then .ready else .done) jump)).heap[w.heap.size]? = some (.deferred (some [])) := fun jump V hkf => by
      have e := (hkf (w.heap.size + 1) (by omega) (by omega)).trans hl2
      exact ⟨e, run_endRound jump e, World.putObj_heap_same (Array.getElem?_eq_some_iff.1 e).1, (World.putObj_heap_other (by omega)).trans ((hkf w.heap.size (Nat.le_refl _) (by omega)).trans hk2)⟩
    intro e a3 V hp
    cases e with
    | normal =>
      obtain ⟨hs, hz, hkp, hi3⟩ := hp
      obtain ⟨e, hr, g1, g2⟩ := fin none V (hs.mono (Nat.le_refl _) (by omega))
      exact ⟨_, _, hr, .inl ⟨rfl, ⟨hI.putObj _ hi3 (by omega) e rfl, g1, g2⟩, hKt (hKt kb hkp) (hKb _ _ _ _ (by omega) e rfl rfl),
        (sb.trans (hs.mono (by omega) (Nat.le_refl _))).trans (fun j h1 h2 => World.putObj_heap_other (by omega))⟩⟩
    | ret =>
      obtain ⟨hs, hx⟩ := hp
      obtain ⟨e, hr, g1, g2⟩ := fin (some .ret) V (hs.mono (Nat.le_refl _) (by omega))
      exact ⟨_, _, hr, .inr ⟨rfl, ⟨.ret, (hIx _).putObj _ hx (by omega) e rfl, g1, g2⟩, (sb.trans (hs.mono (by omega) (Nat.le_refl _))).trans (fun j h1 h2 => World.putObj_heap_other (by omega))⟩⟩
    | exit id => exact hp.elim
    | goto t => exact hp.elim
    | panic ch => exact hp.elim
    | outgrown => exact hp.elim
  · -- behind the call
    rintro e W2 ⟨⟨v, rfl⟩, ⟨xs, hS, hi, hl, hk⟩ | ⟨pre, hSp, c, hi, hl, hk⟩⟩
    · exact ⟨none, _, run_endLoop hl (by simp), hdone _ xs _ (Nat.le_refl _) hS (hI.putObj _ hi (by omega) hl rfl) ((World.putObj_heap_other (by omega)).trans hk)⟩
    · exact ⟨some c, _, run_endLoop hl (by simp), hstop _ c pre _ (Nat.le_refl _) hSp ((hIx c).putObj _ hi (by omega) hl rfl) ((World.putObj_heap_other (by omega)).trans hk)⟩
end law
end Go.Proofs.YtocdinaomkmcbaaDoor
