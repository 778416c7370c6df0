/-
  The iterator of slices.Backward over places.
-/
import Derived.Test.YtocdinaomkmcbaaDoorLW
namespace Go.Proofs.YtocdinaomkmcbaaDoor
open Go.ChangeShapes Go.WideShapes Go.ChangeAt Go.RowKit Go.Shelf
set_option linter.unusedVariables false
attribute [local go_sem] Oper.semAt_some

/-- What comes of the places before the i-th, the last one first. -/
def bwF (l : List Pl) : Nat → List (Nat × Pl)
  | 0 => []
  | i + 1 => (match l[i]? with | some p => [(i, p)] | none => []) ++ bwF l i
theorem bwF_at {l : List Pl} {i : Nat} {p : Pl} (h : l[i]? = some p) : bwF l (i + 1) = (i, p) :: bwF l i := by rw [bwF, h]; rfl
def encB (x : Nat × Pl) : Array Value := #[.int .i64 (x.1 : Int), .agg #[.string x.2.1, .int .i64 x.2.2]]
/-- What a round that goes on keeps: what lay below n₀, and a block. -/
def Kq (n₀ Bs : Nat) (A B : World) : Prop := Below n₀ A B ∧ B.heap[Bs]? = A.heap[Bs]?
theorem Kq_t {n₀ Bs : Nat} {A B C : World} (h : Kq n₀ Bs A B) (k : Kq n₀ Bs B C) : Kq n₀ Bs A C := ⟨h.1.trans k.1, k.2.trans h.2⟩
theorem Kq_refl (n₀ Bs : Nat) (A : World) : Kq n₀ Bs A A := ⟨Below.refl _ _, rfl⟩
theorem Kq_b {n₀ Bs : Nat} {w : World} (hn : n₀ ≤ w.heap.size) (hs : Bs < w.heap.size) (W : World) (l : Nat) (o o' : Obj) (hl : w.heap.size ≤ l) (h : W.heap[l]? = some o) (hc : o.isCells = false) (hw : o.isWalk = false) : Kq n₀ Bs W (W.putObj l o') :=
  ⟨belowK_b hn W l o o' hl h hc hw, World.putObj_heap_other (by omega)⟩
theorem Kq.of_below {n₀ Bs : Nat} {A B : World} (h : Below A.heap.size A B) (hn : n₀ ≤ A.heap.size) (hs : Bs < A.heap.size) : Kq n₀ Bs A B := ⟨h.mono hn, h.block _ hs⟩
theorem pre_next {α : Type} {pre L rest : List α} {x : α} (h : pre ++ x :: rest = L) : pre ++ [x] <+: L := ⟨rest, by rw [← h]; simp⟩

set_option maxRecDepth 100000 in
set_option maxHeartbeats 4000000 in
theorem bw_in (n : Nat) (hn : 1 ≤ n) (l Bs n₀ : Nat) (A : Option Addr) (cap : Nat) (ps : List Pl) (J Jx : List (Nat × Pl) → World → Prop) (W : World)
    (hY : ∀ pre x W1, J pre W1 → pre ++ [x] <+: bwF ps ps.length → W.heap.size + 0 ≤ W1.heap.size → NoB W.heap.size (W.heap.size + 0) W1 → YieldAt Fence.wide (n - 1) Tryd.prog l (encB x) W1 fun e W' =>
      (e = .returned (.bool true) ∧ J (pre ++ [x]) W' ∧ Kq n₀ Bs W1 W' ∧ Same W.heap.size (W.heap.size + 0) W1 W') ∨ (e = .returned (.bool false) ∧ Jx (pre ++ [x]) W' ∧ Same W.heap.size (W.heap.size + 0) W1 W'))
    (hBs : Bs < W.heap.size) (hn₀ : n₀ ≤ W.heap.size) (hs : W.cell? ⟨Bs, 0, none⟩ = some (.slice A ps.length cap)) (hA : ∀ W' : World, Below n₀ W W' → At W' A ps) (hsz : ps.length ≤ 5864062014634) (h0 : J [] W) :
    CallsIn Fence.wide n Tryd.prog 75 #[.func (.yield l) #[] #[], .pointer (some ⟨Bs, 0, none⟩)] W fun e W' => (∃ v, e = .returned v) ∧
      ((∃ ys, ys = bwF ps ps.length ∧ J ys W') ∨ (∃ pre, pre <+: bwF ps ps.length ∧ Jx pre W')) := by
  have HN := Lib.hid (rfl : ps.length = ps.length)
  generalize hlen : ps.length = m at *
  have HM := Lib.hid hlen
  clear hlen HN
  refine callsIn_of_wp Tryd.func75 rfl trivial ?_ rfl
  simp only [Tryd.ntmps75, List.size_toArray, List.length_cons, List.length_nil, Nat.reduceAdd, Nat.reduceSub, Array.replicate_succ, Array.replicate_zero, List.push_toArray, List.append_toArray, List.nil_append, List.cons_append]
  gi_wp2
  gi_loopw [3] (fun t wr => ∃ (i : Nat) (pre : List (Nat × Pl)), t = .int .i64 ((i : Int) - 1) ∧ i ≤ m ∧ J pre wr ∧ Kq n₀ Bs W wr ∧ Hid (pre ++ bwF ps i = bwF ps m)) (fun t _ => (intOf t + 1).toNat)
  case atStart =>
    exact ⟨m, [], rfl, Nat.le_refl _, h0, Kq_refl _ _ _, Lib.hid rfl⟩
  case round =>
    obtain ⟨i, pre, rfl, hi, hJr, hK, HG⟩ := hrel
    have c1 : wr.cell? ⟨Bs, 0, none⟩ = some (.slice A m cap) := (World.cell?_of_block (a := ⟨Bs, 0, none⟩) hK.2).trans hs
    cases i with
    | zero =>
      have HE : Hid (pre = bwF ps m) := Lib.hid (by rw [← HG.out]; simp [bwF])
      gi_wp2
      go_end0
      exact ⟨⟨_, rfl⟩, .inl ⟨pre, HE.out, hJr⟩⟩
    | succ i =>
      have hp : ∃ p, ps[i]? = some p := ⟨_, List.getElem?_eq_getElem (by rw [HM.out]; omega)⟩
      obtain ⟨p, hp⟩ := hp
      obtain ⟨g, o, rfl, d0, d1⟩ := hA wr hK.1 i p hp
      have HC := Lib.hid (bwF_at hp)
      have hi0 : (0 : Int) ≤ (i : Int) := Int.natCast_nonneg _
      have hi1 : (i : Int) < (m : Int) := by omega
      have e1 : (((i + 1 : Nat) : Int) - 1) = (i : Int) := by omega
      rw [e1]
      clear e1
      obtain ⟨fn, tmps, assign, body, hy, hR⟩ := hY pre (i, p) wr hJr (pre_next (by rw [← HG.out, HC.out])) (by have := hK.1.size; omega) (NoB.none _ _)
      dsimp only [encB] at hy
      gi_wp2
      refine hR.mono ?_
      rintro e W3 (⟨rfl, hJ3, hk3, hs3⟩ | ⟨rfl, hJx3, hs3⟩)
      · gi_wp2
        go_roundw
        case rel => exact ⟨i, pre ++ [(i, p)], rfl, by omega, hJ3, Kq_t hK hk3, Lib.hid (by rw [List.append_assoc, ← HG.out, HC.out]; rfl)⟩
        case measure => simp [intOf]
      · gi_wp2
        refine bodyPost_ret (results_none rfl _ _ _) rfl ?_
        exact ⟨⟨_, rfl⟩, .inr ⟨pre ++ [(i, p)], pre_next (by rw [← HG.out, HC.out]), hJx3⟩⟩

theorem bw_w (n : Nat) (hn : 1 ≤ n) (Bs n₀ : Nat) (A : Option Addr) (cap : Nat) (ps : List Pl) (w : World) (hBs : Bs < w.heap.size) (hn₀ : n₀ ≤ w.heap.size) (hs : w.cell? ⟨Bs, 0, none⟩ = some (.slice A ps.length cap)) (hA : ∀ W' : World, Below n₀ w W' → At W' A ps) (hsz : ps.length ≤ 5864062014634) :
    SeqW Fence.wide n Tryd.prog 75 #[.pointer (some ⟨Bs, 0, none⟩)] encB 0 (Kq n₀ Bs) (fun xs => xs = bwF ps ps.length) (fun pre => pre <+: bwF ps ps.length) w := by
  intro l J Jx W hb hJ hJx hY h0
  exact bw_in n hn l Bs n₀ A cap ps J Jx W hY (Nat.lt_of_lt_of_le hBs hb.size) (Nat.le_trans hn₀ hb.size) (cell_below hs hb (Nat.le_refl _)) (fun W' h => hA W' ((hb.mono hn₀).trans h)) hsz h0

theorem backward_any (A : Option Addr) (k cap : Nat) (w : World) :
    Calls Tryd.prog 45 #[.slice A k cap] w fun e w' => e = .returned (.func (.func 75) #[] #[.pointer (some ⟨w.heap.size, 0, none⟩)]) ∧ w' = w.alloc (.cells #[.slice A k cap] 23) := by
  go_enter Tryd.func45, Tryd.ntmps45
  go_wp2
  go_ret
  exact ⟨rfl, rfl⟩
end Go.Proofs.YtocdinaomkmcbaaDoor
