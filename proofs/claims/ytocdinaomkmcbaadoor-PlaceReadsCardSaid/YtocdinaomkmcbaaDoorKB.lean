/-
  Trees: Stack, Told, From; what the law has in hand.
-/
import Derived.Test.YtocdinaomkmcbaaDoorLT
import Derived.Test.YtocdinaomkmcbaaDoorKA
import Derived.StillTailTactics
import Derived.OrdersIn
import Derived.RangeFuncCalls
import Derived.TacticsIn
import Derived.KernelRfl
import Derived.Deep.CutRange
import Derived.Test.YtocdinaomkmcbaaDoorBA
import Derived.Lib.AppendStr
import Derived.Test.YtocdinaomkmcbaaDoorSE
import Derived.Laws.BitsLemmas
import Derived.Test.YtocdinaomkmcbaaDoorBB
namespace Go.Proofs.YtocdinaomkmcbaaDoor
open Go.ChangeShapes Go.WideShapes Go.ChangeAt Go.RowKit Go.Shelf
set_option linter.unusedVariables false
attribute [local go_sem] Oper.semAt_some

/-- The numbers below m, the greatest first. -/
def dn : Nat → List Nat
  | 0 => []
  | i + 1 => i :: dn i
def HasRow (B0 : Nat) (v : Value) (m : Nat) (W : World) : Prop := ∃ L : List Pl, L.length = m ∧ W.ownsRow B0 48 2 v m (flat L)
/-- What a round that goes on keeps. -/
def Kx (n₀ Bs B0 : Nat) (v : Value) (m : Nat) (A B : World) : Prop := Kq n₀ Bs A B ∧ (HasRow B0 v m A → HasRow B0 v m B)
theorem Kx_t {n₀ Bs B0 : Nat} {v : Value} {m : Nat} {A B C : World} (h : Kx n₀ Bs B0 v m A B) (k : Kx n₀ Bs B0 v m B C) : Kx n₀ Bs B0 v m A C := ⟨Kq_t h.1 k.1, fun r => k.2 (h.2 r)⟩
theorem Kx_refl (n₀ Bs B0 : Nat) (v : Value) (m : Nat) (A : World) : Kx n₀ Bs B0 v m A A := ⟨Kq_refl _ _ _, id⟩
theorem row_put {W : World} {B e s m : Nat} {v : Value} {xs : List Value} (h : W.ownsRow B e s v m xs) {l : Nat} {o o' : Obj} (hl : W.heap[l]? = some o) (hc : o.isCells = false) : (W.putObj l o').ownsRow B e s v m xs := by
  refine ⟨h.1, ?_⟩
  rcases h.2 with hn | ⟨g, cap, cur, rfl, hb, hg, rest⟩
  · exact .inl hn
  · refine .inr ⟨g, cap, cur, rfl, hb, ?_, rest⟩
    rw [World.putObj_heap_other (fun e => by subst e; rw [hg] at hl; cases hl; cases hc)]
    exact hg
theorem Kx_b {n₀ Bs B0 : Nat} {v : Value} {m : Nat} {w : World} (hn : n₀ ≤ w.heap.size) (hs : Bs < w.heap.size) (W : World) (l : Nat) (o o' : Obj) (hl : w.heap.size ≤ l) (h : W.heap[l]? = some o) (hc : o.isCells = false) (hw : o.isWalk = false) : Kx n₀ Bs B0 v m W (W.putObj l o') :=
  ⟨Kq_b hn hs W l o o' hl h hc hw, fun ⟨L, h1, h2⟩ => ⟨L, h1, row_put h2 h hc⟩⟩

set_option maxRecDepth 100000 in
set_option maxHeartbeats 4000000 in
theorem bx_in (n : Nat) (hn : 1 ≤ n) (l Bs n₀ B0 g cap m : Nat) (J Jx : List (Nat × Pl) → World → Prop) (W : World)
    (hY : ∀ pre x W1, J pre W1 → (pre ++ [x]).map Prod.fst <+: dn m → W.heap.size + 0 ≤ W1.heap.size → NoB W.heap.size (W.heap.size + 0) W1 → YieldAt Fence.wide (n - 1) Tryd.prog l (encB x) W1 fun e W' =>
      (e = .returned (.bool true) ∧ J (pre ++ [x]) W' ∧ Kx n₀ Bs B0 (.slice (some ⟨g, 0, none⟩) m cap) m W1 W' ∧ Same W.heap.size (W.heap.size + 0) W1 W') ∨ (e = .returned (.bool false) ∧ Jx (pre ++ [x]) W' ∧ Same W.heap.size (W.heap.size + 0) W1 W'))
    (hBs : Bs < W.heap.size) (hn₀ : n₀ ≤ W.heap.size) (hs : W.cell? ⟨Bs, 0, none⟩ = some (.slice (some ⟨g, 0, none⟩) m cap)) (hR : HasRow B0 (.slice (some ⟨g, 0, none⟩) m cap) m W) (hsz : m ≤ 4096) (h0 : J [] W) :
    CallsIn Fence.wide n Tryd.prog 75 #[.func (.yield l) #[] #[], .pointer (some ⟨Bs, 0, none⟩)] W fun e W' => (∃ v, e = .returned v) ∧
      ((∃ ys : List (Nat × Pl), ys.map Prod.fst = dn m ∧ J ys W') ∨ (∃ pre : List (Nat × Pl), pre.map Prod.fst <+: dn m ∧ Jx pre W')) := by
  refine callsIn_of_wp Tryd.func75 rfl trivial ?_ rfl
  simp only [Tryd.ntmps75, List.size_toArray, List.length_cons, List.length_nil, Nat.reduceAdd, Nat.reduceSub, Array.replicate_succ, Array.replicate_zero, List.push_toArray, List.append_toArray, List.nil_append, List.cons_append]
  gi_wp2
  gi_loopw [3] (fun t wr => ∃ (i : Nat) (pre : List (Nat × Pl)), t = .int .i64 ((i : Int) - 1) ∧ i ≤ m ∧ J pre wr ∧ Kx n₀ Bs B0 (.slice (some ⟨g, 0, none⟩) m cap) m W wr ∧ Hid (pre.map Prod.fst ++ dn i = dn m)) (fun t _ => (intOf t + 1).toNat)
  case atStart =>
    exact ⟨m, [], rfl, Nat.le_refl _, h0, Kx_refl _ _ _ _ _ _, Lib.hid rfl⟩
  case round =>
    obtain ⟨i, pre, rfl, hi, hJr, hK, HG⟩ := hrel
    have c1 : wr.cell? ⟨Bs, 0, none⟩ = some (.slice (some ⟨g, 0, none⟩) m cap) := (World.cell?_of_block (a := ⟨Bs, 0, none⟩) hK.1.2).trans hs
    cases i with
    | zero =>
      have HE : Hid (pre.map Prod.fst = dn m) := Lib.hid (by have := HG.out; simpa [dn] using this)
      gi_wp2
      go_end0
      exact ⟨⟨_, rfl⟩, .inl ⟨pre, HE.out, hJr⟩⟩
    | succ i =>
      obtain ⟨L, hL, hrow⟩ := hK.2 hR
      have hp : ∃ p, L[i]? = some p := ⟨_, List.getElem?_eq_getElem (by omega)⟩
      obtain ⟨p, hp⟩ := hp
      obtain ⟨f0, f1⟩ := flat_get L i p hp
      have d0 := (hrow.cellAt (i * 2) (by omega)).trans f0
      have d1 := (hrow.cellAt (i * 2 + 1) (by omega)).trans f1
      have hpx : (pre ++ [(i, p)]).map Prod.fst <+: dn m := ⟨dn i, by rw [← HG.out]; simp [dn]⟩
      have hi0 : (0 : Int) ≤ (i : Int) := Int.natCast_nonneg _
      have hi1 : (i : Int) < (m : Int) := by omega
      have e1 : (((i + 1 : Nat) : Int) - 1) = (i : Int) := by omega
      rw [e1]
      clear e1 hp f0 f1 hL hrow
      obtain ⟨fn, tmps, assign, body, hy, hRd⟩ := hY pre (i, p) wr hJr hpx (by have := hK.1.1.size; omega) (NoB.none _ _)
      dsimp only [encB] at hy
      gi_wp2
      refine hRd.mono ?_
      rintro e W3 (⟨rfl, hJ3, hk3, hs3⟩ | ⟨rfl, hJx3, hs3⟩)
      · gi_wp2
        go_roundw
        case rel => exact ⟨i, pre ++ [(i, p)], rfl, by omega, hJ3, Kx_t hK hk3, Lib.hid (by rw [← HG.out]; simp [dn])⟩
        case measure => simp [intOf]
      · gi_wp2
        refine bodyPost_ret (results_none rfl _ _ _) rfl ?_
        exact ⟨⟨_, rfl⟩, .inr ⟨pre ++ [(i, p)], hpx, hJx3⟩⟩

theorem bx_w (n : Nat) (hn : 1 ≤ n) (Bs n₀ B0 g cap m : Nat) (w : World) (hBs : Bs < w.heap.size) (hn₀ : n₀ ≤ w.heap.size) (hs : w.cell? ⟨Bs, 0, none⟩ = some (.slice (some ⟨g, 0, none⟩) m cap)) (hR : HasRow B0 (.slice (some ⟨g, 0, none⟩) m cap) m w) (hsz : m ≤ 4096) :
    SeqW Fence.wide n Tryd.prog 75 #[.pointer (some ⟨Bs, 0, none⟩)] encB 0 (Kx n₀ Bs B0 (.slice (some ⟨g, 0, none⟩) m cap) m) (fun xs => xs.map Prod.fst = dn m) (fun pre => pre.map Prod.fst <+: dn m) w := by
  intro l J Jx W hb hJ hJx hY h0
  exact bx_in n hn l Bs n₀ B0 g cap m J Jx W hY (Nat.lt_of_lt_of_le hBs hb.size) (Nat.le_trans hn₀ hb.size) (cell_below hs hb (Nat.le_refl _)) (by obtain ⟨L, h1, h2⟩ := hR; exact ⟨L, h1, own_below h2 hb⟩) hsz h0
end Go.Proofs.YtocdinaomkmcbaaDoor

namespace Go.Proofs.YtocdinaomkmcbaaDoor
open Go
section
variable {P : Program} {ops : Array Oper} {md : Region.Mode} {w : World} {n l : Nat}

def noDefer (ops : Array Oper) : Bool := ops.all fun o => match o.op with | .defer .. => false | _ => true
theorem noDefer_spec (h : noDefer ops = true) (j : Nat) (o : Oper) (ho : ops[j]? = some o) : ∀ c, o.op ≠ .defer c := by
  intro c heq
  have := Array.all_eq_true_iff_forall_mem.1 h o (Array.mem_of_getElem? ho)
  simp [heq] at this

theorem wpIn_of_still_r {o : Oper} {a : Act} {K : Act → Prop} {K' : Act → World → Prop} {Q' : Exit → Act → World → Prop} (hd : ∀ c, o.op ≠ .defer c) (h : ∀ a, K a → K' a w) (hh : o.still P a w K) :
    o.wpIn (Fence.wide.inRound l) n P a w K' Q' := by
  unfold Oper.still at hh
  unfold Oper.wpIn
  refine ⟨fun _ _ => trivial, ?_⟩
  rw [Oper.semAt_eq _ _ _ hd]
  generalize (execOp a.eval o).run P w = r at *
  cases r with
  | ok x w' =>
    cases x <;> simp only [Oper.stillUpon] at hh <;> simp only [Oper.uponIn]
    case value u => obtain ⟨e1, e2⟩ := hh; rw [e1]; exact h _ e2
    case skip => obtain ⟨e1, e2⟩ := hh; rw [e1]; exact h _ e2
    case enter f args =>
      obtain ⟨e1, v, hc, hn⟩ := hh
      rw [e1]
      refine ⟨fun hx => (by cases hx), CallsIn.inRound l (callsIn_wide.2 (hc.mono ?_))⟩
      rintro e w'' ⟨rfl, rfl⟩
      exact h _ hn
  | halt x w' => simp only [Oper.stillUpon] at hh

theorem wpOpIn_of_stOp_r (hnd : noDefer ops = true) {i : Nat} {a : Act} {K : Act → Prop} {K' : Act → World → Prop} {Q' : Exit → Act → World → Prop} (h : ∀ a, K a → K' a w) (hh : stOp P ops w i K a) :
    wpOpIn (Fence.wide.inRound l) n P ops Q' i K' a w := by
  unfold stOp at hh
  unfold wpOpIn
  split
  · rename_i ho; simp only [ho] at hh; exact h _ hh
  · rename_i o ho
    simp only [ho] at hh
    split
    · rename_i hw; simp only [hw, if_true] at hh; exact wpIn_of_still_r (noDefer_spec hnd i o ho) h hh
    · rename_i hw; simp only [hw] at hh; exact ⟨fun _ _ => trivial, h _ hh⟩

theorem wpAnyIn_of_head_r (hnd : noDefer ops = true) {m g : Nat} {L : Array Bool → Act → Prop} {Q' : Exit → Act → World → Prop} (hL : ∀ listed a, L listed a → wpAnyIn (Fence.wide.inRound l) n P md ops Q' g listed a w) :
    ∀ (f : Nat) (listed : Array Bool) (a : Act), wpAnyL P md ops w m L f listed a → wpAnyIn (Fence.wide.inRound l) n P md ops Q' (f + g) listed a w
  | 0, listed, a, h => by rw [Nat.zero_add]; exact hL _ _ h
  | f + 1, listed, a, h => by
    rw [show f + 1 + g = (f + g) + 1 by omega]
    exact ⟨fun h0 => absurd h0 h.1, fun i hi => wpOpIn_of_stOp_r hnd (fun a' h' => wpAnyIn_of_head_r hnd hL f _ a' h') (h.2 i hi).2⟩

theorem wpAnyIn_of_seq_r {F : Fence} {Q' : Exit → Act → World → Prop} : ∀ (l : List Oper) (k : Nat) (listed : Array Bool) (a : Act) (w : World), (∀ j, l[j]? = ops[k + j]?) →
    Region.seqB md ops l.length k listed = true → wpListIn F n P ops Q' l a w → wpAnyIn F n P md ops Q' l.length listed a w
  | [], _, _, _, _, _, hB, h => ⟨by simpa [Region.seqB] using hB, h⟩
  | o :: l, k, listed, a, w, hl, hB, h => by
    have h0 : ops[k]? = some o := by simpa using (hl 0).symm
    simp only [List.length_cons, Region.seqB, Bool.and_eq_true, decide_eq_true_eq] at hB
    refine ⟨fun h1 => (by rw [hB.1] at h1; cases h1), fun i hi => ?_⟩
    rw [hB.1] at hi
    have hik : i = k := by simpa using hi
    subst hik
    have hw : wpOpIn F n P ops Q' i (wpListIn F n P ops Q' l) a w := by unfold wpOpIn; simp only [h0]; exact h
    exact wpOpIn_mono (fun a' w' h' => wpAnyIn_of_seq_r l (i + 1) _ a' w' (fun j => by have := hl (j + 1); simpa [Nat.add_assoc, Nat.add_comm 1 j] using this) hB.2 h') hw

theorem wpIn_region_still_tail_r {id : Nat} {Q : Exit → Act → World → Prop} {a : Act} {w : World} {ls : List Oper} (m : Nat) (hm : P.follows .mixedOrders = true) (hB : Region.lexTailB .any ls.toArray m = true) (hnd : noDefer ls.toArray = true)
    (h : wpStill P ls.toArray w.drew (fun a' => wpListIn (Fence.wide.inRound l) n P ls.toArray Q (ls.drop m) a' w.drew) (ls.take m) a) : (Code.region id ls.toArray true).wpIn (Fence.wide.inRound l) n P Q a w := by
  change wpStill P ls.toArray { w with drawn := w.drawn + 1 } (fun a' => wpListIn (Fence.wide.inRound l) n P ls.toArray Q (ls.drop m) a' { w with drawn := w.drawn + 1 }) (ls.take m) a at h
  simp only [Region.lexTailB, Bool.and_eq_true, decide_eq_true_eq] at hB
  obtain ⟨⟨⟨⟨hsel, hn⟩, hs⟩, hc⟩, hlex⟩ := hB
  have hn' : m < ls.length := by simpa using hn
  have htl : (ls.take m).length = m := by simp; omega
  have hdl : (ls.drop m).length = ls.toArray.size - m := by simp
  have inv0 : HeadInv .any ls.toArray m (Array.replicate ls.toArray.size false) :=
    ⟨by simp, fun j oj _ hl => (by rw [getD_replicate_false] at hl; cases hl), fun t _ ht => getD_in (by simpa using ht) (getD_replicate_false _ _)⟩
  have H := wpAnyL_lex (md := .any) (g := ls.toArray.size - m) hsel hs hc hn (ls.take m) 0 _ a (fun j hj => by
    have hj' : j < m := by rw [htl] at hj; exact hj
    simp [hj']) (by simpa using htl) inv0 (by rw [htl]; exact hlex) h
  refine wpIn_region_any hm ?_
  have := wpAnyIn_of_head_r (Q' := Q) (g := ls.toArray.size - m) hnd (fun listed a' hL => by
    have := wpAnyIn_of_seq_r (md := .any) (F := Fence.wide.inRound l) (n := n) (P := P) (Q' := Q) (ls.drop m) m listed a' { w with drawn := w.drawn + 1 } (fun j => by simp [List.getElem?_drop]) (by rw [hdl]; exact hL.1) hL.2
    rwa [hdl] at this) _ _ _ H
  rw [htl, show m + (ls.toArray.size - m) = ls.toArray.size by omega] at this
  exact this
end
end Go.Proofs.YtocdinaomkmcbaaDoor

namespace Go.Proofs.YtocdinaomkmcbaaDoor
open Go.ChangeShapes Go.WideShapes Go.ChangeAt Go.RowKit Go.Shelf
set_option linter.unusedVariables false
attribute [local go_sem] Oper.semAt_some

theorem dn_get : ∀ (m k : Nat), k < m → (dn m)[k]? = some (m - 1 - k) := by
  intro m
  induction m with
  | zero => intro k h; omega
  | succ m ih =>
    intro k h
    cases k with
    | zero => simp [dn]
    | succ k => simp only [dn, List.getElem?_cons_succ]; rw [ih k (by omega)]; congr 1; omega
theorem dn_len : ∀ m, (dn m).length = m
  | 0 => rfl
  | m + 1 => by simp [dn, dn_len m]
theorem dn_pre {m : Nat} {pre : List (Nat × Pl)} {x : Nat × Pl} (h : (pre ++ [x]).map Prod.fst <+: dn m) : pre.length < m ∧ x.1 = m - 1 - pre.length := by
  have hl := h.length_le
  rw [dn_len] at hl
  simp at hl
  refine ⟨by omega, ?_⟩
  have hg : ((pre ++ [x]).map Prod.fst)[pre.length]? = some x.1 := by simp
  have := (List.prefix_iff_getElem?.1 h) pre.length (by simp)
  rw [dn_get m _ (by omega)] at this
  simp at this
  omega
/-- What stands between two rounds of Stack's loop. -/
structure StI (w W2 : World) (nd : List Nd) (a n m z k : Nat) (V : World) : Prop where
  ex : ∃ (L : List Pl) (cur : Nat), L.length = m ∧ V.ownsRow w.heap.size 48 2 (.slice (some ⟨w.heap.size + 2, 0, none⟩) m m) m (flat L) ∧ cur < nd.length ∧ stk nd cur = (stk nd n).take (m - k) ∧ L.drop (m - k) = (stk nd n).drop (m - k) ∧ Boxed V (w.heap.size + 1) 3 (.int .i64 (cur : Int))
  p0 : Boxed V w.heap.size 68 (.pointer (some ⟨a, 0, none⟩))
  p6 : Boxed V z 23 (.slice (some ⟨w.heap.size + 2, 0, none⟩) m m)
  kq : Kq w.heap.size (z + 1) W2 V
theorem own_from_row {β : Type} {B B0 e s m : Nat} {v : Value} {xs : List Value} : OwnFrom B (fun (_ : β) W => W.ownsRow B0 e s v m xs) := fun s A C row h hg hr => by
  refine h.kept hg ?_
  rcases h.2 with ⟨rfl, _⟩ | ⟨g, cap, cur, rfl, _, hgb, _⟩
  · exact .inl rfl
  · refine .inr fun e => ?_
    obtain ⟨_, o, ho, hc⟩ := hr g e.symm
    rw [hgb] at ho
    cases ho
    cases hc
theorem StI.own {w W2 : World} {nd : List Nd} {a n m z : Nat} (h1 : w.heap.size ≤ W2.heap.size) (h2 : z + 1 < W2.heap.size) : OwnFrom W2.heap.size (fun (pre : List (Nat × Pl)) V => StI w W2 nd a n m z pre.length V) := fun pre A C row h hg hr => by
  obtain ⟨⟨L, cur, x1, x2, x3, x4, x5, x6⟩, p0, p6, kq⟩ := h
  exact ⟨⟨L, cur, x1, own_from_row (β := Unit) (B := W2.heap.size) () A C row x2 hg hr, x3, x4, x5, ownFrom_blk (β := Unit) (B := W2.heap.size) rfl () A C row x6 hg hr⟩, ownFrom_blk (β := Unit) (B := W2.heap.size) rfl () A C row p0 hg hr, ownFrom_blk (β := Unit) (B := W2.heap.size) rfl () A C row p6 hg hr, ownFrom_kq (β := Unit) (B := W2.heap.size) h1 h2 h1 h2 () A C row kq hg hr⟩
theorem made_row (m : Nat) : (madeCells (Value.agg #[.string ByteArray.empty, .int .i64 0]).cells (m * 2)).toList = flat (List.replicate m ((ByteArray.empty, 0) : Pl)) := by
  apply List.ext_getElem?
  intro j
  by_cases hj : j < m * 2
  · have hp : (List.replicate m ((ByteArray.empty, 0) : Pl))[j / 2]? = some (ByteArray.empty, 0) := by
      rw [List.getElem?_replicate, if_pos (by omega)]
    obtain ⟨f0, f1⟩ := flat_get _ (j / 2) _ hp
    rcases Nat.mod_two_eq_zero_or_one j with h | h
    · rw [show j / 2 * 2 = j by omega] at f0
      rw [f0]
      simp [madeCells, hj, h, Value.cells]
    · rw [show j / 2 * 2 + 1 = j by omega] at f1
      rw [f1]
      simp [madeCells, hj, h, Value.cells]
  · rw [List.getElem?_eq_none (by simp [madeCells]; omega), List.getElem?_eq_none (by rw [flat_length, List.length_replicate]; omega)]

set_option maxRecDepth 100000 in
set_option maxHeartbeats 8000000 in
theorem stack_any (a lo n : Nat) (nd : List Nd) (w : World) (hT : Tr w lo a nd) (hn : n < nd.length) (hd : (stk nd n).length ≤ 64) :
    Calls Tryd.prog 42 #[.pointer (some ⟨a, 0, none⟩), .int .i64 n] w fun e w' => ∃ v, e = .returned (.tuple #[v, .int .i64 0]) ∧ w'.ownsRow w.heap.size 48 2 v (stk nd n).length (flat (stk nd n)) ∧ Below w.heap.size w w' := by
  obtain ⟨i0, hi0, hz0, hz1, hz2⟩ := info_parts info48
  have HT := Lib.hid hT
  have K74 := Lib.hid (fun (W : World) (hb : Below w.heap.size w W) => by
    have := has_any a lo nd n W (hT.below hb)
    rw [decide_eq_true ⟨by omega, by omega⟩] at this
    exact this)
  have K41 := Lib.hid (fun (W : World) (hb : Below w.heap.size w W) => depth_any a lo n nd W (hT.below hb) hn)
  clear hT
  obtain ⟨m, hm⟩ : ∃ m, (stk nd n).length = m := ⟨_, rfl⟩
  rw [hm] at K41 hd ⊢
  have HM := Lib.hid hm
  clear hm
  refine (callsIn_wide (n := 10)).1 ?_
  refine callsIn_of_wp_marks Tryd.func42 rfl trivial ?_ rfl
  simp only [Tryd.ntmps42, List.size_toArray, List.length_cons, List.length_nil, Nat.reduceAdd, Nat.reduceSub, Array.replicate_succ, Array.replicate_zero, List.push_toArray, List.append_toArray, List.nil_append, List.cons_append]
  refine wpIn_wide.2 ?_
  have b0 : Below w.heap.size w ((w.alloc (.cells #[.pointer (some ⟨a, 0, none⟩)] 68)).alloc (.cells #[.int .i64 (n : Int)] 3)) := ((Below.refl _ w).alloc (Nat.le_refl _) _).alloc (by simp) _
  go_wp2_with fail
  refine (K74.out _ b0).mono ?_
  rintro e W1 ⟨rfl, hW1⟩
  subst hW1
  go_wp2_with fail
  refine (K41.out _ b0).mono ?_
  rintro e W1 ⟨rfl, hW1⟩
  subst hW1
  have p0 := (Boxed.new w 68 (.pointer (some ⟨a, 0, none⟩))).alloc (.cells #[.int .i64 (n : Int)] 3)
  have p1 := Boxed.new (w.alloc (.cells #[.pointer (some ⟨a, 0, none⟩)] 68)) 3 (.int .i64 (n : Int))
  simp only [World.size_alloc] at p1
  obtain ⟨W0, hW0⟩ : ∃ W0, (w.alloc (.cells #[.pointer (some ⟨a, 0, none⟩)] 68)).alloc (.cells #[.int .i64 (n : Int)] 3) = W0 := ⟨_, rfl⟩
  have hz0' : W0.heap.size = w.heap.size + 2 := by rw [← hW0]; simp
  rw [hW0] at b0 p0 p1 ⊢
  clear hW0
  go_wp2_with (at_make; refine wpList_make_full _ rfl _ _ 23 rfl w.heap.size 48 i0 _ 2 Tryd.underlying23 hi0 hz0 hz1 .i64 .i64 m m m rfl rfl rfl rfl (by rw [hz2]; omega) (by unfold maxLen; omega) (by omega) ?_; intro w1 hown1 hgrow1)
  rw [made_row] at hown1
  have hg1 : Below W0.heap.size W0 w1 := ⟨hgrow1.os, hgrow1.tape, hgrow1.output, hgrow1.size, fun j hj => hgrow1.block j hj (by simp)⟩
  rw [hz0'] at hown1
  have hz1' := hgrow1.size
  refine (backward_any (some ⟨w.heap.size + 2, 0, none⟩) m m _).mono ?_
  rintro e w' ⟨rfl, rfl⟩
  go_wp2_with fail
  have q0 := ((p0.kept hgrow1 (by simp)).alloc (.cells #[.slice (some ⟨w.heap.size + 2, 0, none⟩) m m] 23)).alloc (.cells #[.slice (some ⟨w.heap.size + 2, 0, none⟩) m m] 23)
  have q1 := ((p1.kept hgrow1 (by simp)).alloc (.cells #[.slice (some ⟨w.heap.size + 2, 0, none⟩) m m] 23)).alloc (.cells #[.slice (some ⟨w.heap.size + 2, 0, none⟩) m m] 23)
  have q6 := (Boxed.new w1 23 (.slice (some ⟨w.heap.size + 2, 0, none⟩) m m)).alloc (.cells #[.slice (some ⟨w.heap.size + 2, 0, none⟩) m m] 23)
  have q7 := Boxed.new (w1.alloc (.cells #[.slice (some ⟨w.heap.size + 2, 0, none⟩) m m] 23)) 23 (.slice (some ⟨w.heap.size + 2, 0, none⟩) m m)
  simp only [World.size_alloc] at q7
  have orow := (hown1.alloc (.cells #[.slice (some ⟨w.heap.size + 2, 0, none⟩) m m] 23)).alloc (.cells #[.slice (some ⟨w.heap.size + 2, 0, none⟩) m m] 23)
  have b1 : Below w.heap.size w w1 := b0.trans (hg1.mono b0.size)
  have b2 : Below w.heap.size w ((w1.alloc (.cells #[.slice (some ⟨w.heap.size + 2, 0, none⟩) m m] 23)).alloc (.cells #[.slice (some ⟨w.heap.size + 2, 0, none⟩) m m] 23)) := (b1.alloc b1.size _).alloc (by have := b1.size; simp; omega) _
  have hlt1 := (hown1.lt (w.heap.size + 2) rfl).2
  obtain ⟨W2, hW2⟩ : ∃ W2, (w1.alloc (.cells #[.slice (some ⟨w.heap.size + 2, 0, none⟩) m m] 23)).alloc (.cells #[.slice (some ⟨w.heap.size + 2, 0, none⟩) m m] 23) = W2 := ⟨_, rfl⟩
  have hz2' : W2.heap.size = w1.heap.size + 2 := by rw [← hW2]; simp
  rw [hW2] at q0 q1 q6 q7 orow b2 ⊢
  clear hW2 hown1 hgrow1 hg1 p0 p1 b1 b0
  generalize w1.heap.size = z at *
  have hSI : StI w W2 nd a n m z 0 W2 := ⟨⟨_, n, by simp, orow, hn, by rw [Nat.sub_zero, ← HM.out, List.take_length], by rw [Nat.sub_zero, List.drop_of_length_le (by simp), List.drop_of_length_le (by rw [HM.out]; omega)], q1⟩, q0, q6, Kq_refl _ _ _⟩
  have hrow2 : HasRow w.heap.size (.slice (some ⟨w.heap.size + 2, 0, none⟩) m m) m W2 := ⟨_, by simp, orow⟩
  refine (wpIn_wide (n := 10)).1 ?_
  apply with_frm (α := Nat × Pl)
  intro fr hfr
  refine wpIn_range_wide (k := 0) rfl (by omega) (gf := 75) (lb := #[.pointer (some ⟨z + 1, 0, none⟩)]) rfl trivial (enters_of Tryd.func75 (by kernel_rfl) rfl)
    (bx_w (10 - 1) (by omega) (z + 1) w.heap.size w.heap.size (w.heap.size + 2) m m W2 (by omega) b2.size q7.cell hrow2 (by omega)) Kx_t (Kx_b b2.size (by omega)) (fun _ => rfl)
    (fun pre V => StI w W2 nd a n m z pre.length V)
    (fun _ _ _ => False)
    (fun x a' V => a' = fr x)
    (StI.own b2.size (by omega))
    (fun _ _ _ _ _ hs _ _ => hs)
    (fun x a' s X Y row h hg hr => h)
    hSI
    ?assign ?body ?done ?stop
  case assign =>
    intro l pre x W K hI hz hK
    dsimp only [encB]
    gi_wp2
    refine hK _ _ (Same.refl _ _ _) (Nat.le_refl _) (Kx_refl _ _ _ _ _ _) hI ?_
    rw [hfr]
  case body =>
    rintro l pre x a' W ⟨⟨L, cur, hL, hrow, hcur, hst, hdr, q1'⟩, q0', q6', hkq⟩ hpx hN rfl
    rw [hfr]
    clear hfr fr
    have hmx : Tryd.prog.follows .mixedOrders = true := by kernel_rfl
    obtain ⟨hk, hxi⟩ := dn_pre hpx
    obtain ⟨xi, xp⟩ := x
    simp only at hxi
    have hTW := HT.out.below ((b2.trans hkq.1).mono (Nat.le_refl _))
    obtain ⟨gn, cn, ca, hcn, hcc⟩ := hTW.cells
    have hgnl : gn < w.heap.size := by
      obtain ⟨gn', cn', bm', D', y1, y2, _⟩ := HT.out.ex
      have h1 := (y2.lt gn' rfl).2
      have h2 : (W.cell? ⟨a, 0, none⟩) = some (.slice (some ⟨gn', 0, none⟩) nd.length cn') := by
        have : w.cell? ⟨a, 0, none⟩ = some (.slice (some ⟨gn', 0, none⟩) nd.length cn') := by rw [cell_of_row w a 0 _ 137 (0, 0) y1]; rfl
        exact cell_below this (b2.trans hkq.1) (Nat.le_refl _)
      rw [ca] at h2
      simp at h2
      omega
    have hal : a < w.heap.size := HT.out.lt
    have hslen : (stk nd cur).length = m - pre.length := by rw [hst, List.length_take, HM.out]; omega
    have hc0 : 1 ≤ cur := by
      rcases Nat.eq_zero_or_pos cur with h | h
      · subst h; rw [stk_zero] at hslen; simp at hslen; omega
      · exact h
    obtain ⟨y, hy⟩ : ∃ y, nd[cur]? = some y := ⟨_, List.getElem?_eq_getElem hcur⟩
    obtain ⟨d0, d1, d2⟩ := hcc cur y hy
    have hyu := HT.out.wf.up cur y hc0 hy
    have hss := stk_step HT.out.wf hc0 hy
    have hNX : Hid (stk nd y.1 = (stk nd n).take (m - (pre ++ [(xi, xp)]).length) ∧ (L.set xi y.2).drop (m - (pre ++ [(xi, xp)]).length) = (stk nd n).drop (m - (pre ++ [(xi, xp)]).length)) := Lib.hid (by
      have e1 : m - (pre ++ [(xi, xp)]).length = xi := by simp; omega
      have e2 : m - pre.length = xi + 1 := by omega
      rw [e1]
      rw [e2] at hst hdr hslen
      have hl2 : (stk nd y.1).length = xi := by rw [hss] at hslen; simp at hslen; exact hslen
      have hxl : xi < (stk nd n).length := by rw [HM.out]; omega
      have h3 : stk nd y.1 ++ [y.2] = (stk nd n).take xi ++ [(stk nd n)[xi]] := by
        rw [← hss, hst, List.take_succ_eq_append_getElem hxl]
      have h4 := List.append_inj h3 (by rw [hl2, List.length_take]; omega)
      refine ⟨h4.1, ?_⟩
      have h5 : y.2 = (stk nd n)[xi] := by simpa using h4.2
      rw [List.drop_eq_getElem_cons (by rw [List.length_set]; omega), List.drop_eq_getElem_cons hxl, List.getElem_set_self, ← h5]
      congr 1
      rw [List.drop_set_of_lt (by omega)]
      exact hdr)
    have c0 := hrow.cellAt (xi * 2) (by omega)
    have c1 := hrow.cellAt (xi * 2 + 1) (by omega)
    have f0 := hrow.frozenAt (xi * 2)
    have f1 := hrow.frozenAt (xi * 2 + 1)
    have hrl := hrow.1
    rw [List.getElem?_eq_getElem (by omega)] at c0 c1
    obtain ⟨v0, hv0⟩ : ∃ x, (flat L)[xi * 2] = x := ⟨_, rfl⟩
    obtain ⟨v1, hv1⟩ : ∃ x, (flat L)[xi * 2 + 1] = x := ⟨_, rfl⟩
    rw [hv0] at c0
    rw [hv1] at c1
    have HPUT := Lib.hid (own_put hrow hL xi (by omega) y.2)
    have cq0 := q0'.cell
    have cq1 := q1'.cell
    have cq6 := q6'.cell
    have fq1 := q1'.frozen
    have hxi0 : (0 : Int) ≤ (xi : Int) := by omega
    have hxi1 : (xi : Int) < (m : Int) := by omega
    have hcu0 : (0 : Int) ≤ (cur : Int) := by omega
    have hcu1 : (cur : Int) < (nd.length : Int) := by omega
    have hne1 : gn ≠ w.heap.size + 2 := by omega
    have hne2 : a ≠ w.heap.size + 2 := by omega
    have hne3 : z ≠ w.heap.size + 2 := by omega
    have HQ := Lib.hid (And.intro q0' (And.intro q1' q6'))
    have HKQ := Lib.hid hkq
    have HLN := Lib.hid hL
    have HXI := Lib.hid hxi
    clear hy hst hdr hslen hss hv0 hv1 hrl hcc hpx hrow q0' q1' q6' hkq hL hTW hxi
    gi_wp2_with fail
    refine wpIn_region_still_tail_r 11 hmx (by kernel_rfl) (by kernel_rfl) ?_
    simp only [List.take_succ_cons, List.take_zero, List.drop_succ_cons, List.drop_zero]
    repeat still_step
    try refine wpStill_nil ?_
    gi_wp2_with fail
    obtain ⟨row1, g1⟩ := HPUT.out
    have r0 := HQ.out.1.kept g1 (by simp)
    have r1 := HQ.out.2.1.kept g1 (by simp)
    have r6 := HQ.out.2.2.kept g1 (by simp; omega)
    have ca' := (World.cell?_of_block (a := ⟨a, 0, none⟩) (g1.block a (World.block_lt_of_cell? W _ ca) (by simp; omega))).trans ca
    have d0' := (World.cell?_of_block (a := ⟨gn, cur * 3, none⟩) (g1.block gn (World.block_lt_of_cell? W _ d0) (by simp; omega))).trans d0
    have hB1 : Below w.heap.size W (((W.setCell ⟨w.heap.size + 2, xi * 2, none⟩ (.string y.2.1)).setCell ⟨w.heap.size + 2, xi * 2 + 1, none⟩ (.int .i64 y.2.2))) := ⟨g1.os, g1.tape, g1.output, g1.size, fun j hj => g1.block j (by have := b2.size; have := HKQ.out.1.size; omega) (by simp; omega)⟩
    have hS1 : Same W2.heap.size (W2.heap.size + 2 + 0) W (((W.setCell ⟨w.heap.size + 2, xi * 2, none⟩ (.string y.2.1)).setCell ⟨w.heap.size + 2, xi * 2 + 1, none⟩ (.int .i64 y.2.2))) := (Same.setCell _ _ _ (.inl (by simp; omega))).trans (Same.setCell _ _ _ (.inl (by simp; omega)))
    have hz1 : (((W.setCell ⟨w.heap.size + 2, xi * 2, none⟩ (.string y.2.1)).setCell ⟨w.heap.size + 2, xi * 2 + 1, none⟩ (.int .i64 y.2.2))).heap[z + 1]? = W.heap[z + 1]? := g1.block (z + 1) (by have := HKQ.out.1.size; omega) (by simp; omega)
    have hsz1 := g1.size
    clear HPUT g1 HQ ca d0 d1 d2 c0 c1 f0 f1 cq0 cq1 cq6 fq1
    generalize ((W.setCell ⟨w.heap.size + 2, xi * 2, none⟩ (.string y.2.1)).setCell ⟨w.heap.size + 2, xi * 2 + 1, none⟩ (.int .i64 y.2.2)) = V1 at *
    have eq0 := r0.cell
    have eq1 := r1.cell
    have fq1 := r1.frozen
    refine wpIn_region_still_tail_r 8 hmx (by kernel_rfl) (by kernel_rfl) ?_
    simp only [List.take_succ_cons, List.take_zero, List.drop_succ_cons, List.drop_zero]
    repeat still_step
    try refine wpStill_nil ?_
    gi_wp2_with fail
    have gS := grownBy_setCell' V1 (w.heap.size + 1) (.int .i64 (y.1 : Int))
    have row3 := row1.kept gS (.inr (by simp [Value.ownBlock]))
    have s0 := r0.other (B' := w.heap.size + 1) (by omega) (.int .i64 (y.1 : Int))
    have s1 := r1.set (.int .i64 (y.1 : Int))
    have s6 := r6.other (B' := w.heap.size + 1) (by omega) (.int .i64 (y.1 : Int))
    have hKq : Kq w.heap.size (z + 1) W (V1.setCell ⟨w.heap.size + 1, 0, none⟩ (.int .i64 (y.1 : Int))).drew.drew := ⟨((hB1.setCell (p := ⟨w.heap.size + 1, 0, none⟩) (by simp) _).drew).drew, (Below.heap_setCell V1 _ _ (z + 1) (by simp; omega)).trans hz1⟩
    have hLl : (L.set xi y.2).length = m := by rw [List.length_set]; exact HLN.out
    refine ⟨hS1.trans (Same.setCell V1 _ _ (.inl (by have := b2.size; simp; omega))), ?_, ⟨hKq, fun _ => ⟨_, hLl, row3⟩⟩, ⟨⟨L.set xi y.2, y.1, hLl, row3, by omega, hNX.out.1, hNX.out.2, s1⟩, s0, s6, Kq_t HKQ.out hKq⟩⟩
    have := gS.size
    exact Nat.le_trans hsz1 this
  case done =>
    rintro D ys W hD hys ⟨⟨L, cur, hL, hrow, hcur, hst, hdr, q1'⟩, q0', q6', hkq⟩ hKd
    have hyl : ys.length = m := by rw [← dn_len m, ← hys, List.length_map]
    have hLs : L = stk nd n := by rw [hyl, Nat.sub_self] at hdr; simpa using hdr
    subst hLs
    have c6 := q6'.cell
    have HF : Hid (∀ o', (W.putObj D o').ownsRow w.heap.size 48 2 (.slice (some ⟨w.heap.size + 2, 0, none⟩) m m) m (flat (stk nd n)) ∧ Below w.heap.size w (W.putObj D o')) := Lib.hid (fun o' => ⟨row_put hrow hKd rfl, (b2.trans hkq.1).trans (belowK_b (w := w) (Nat.le_refl _) W D _ _ (by have := b2.size; omega) hKd rfl rfl)⟩)
    clear hrow hst hdr q1' q0' hkq q6' hys
    go_wp2_with fail
    refine ⟨by simp, .inl ⟨_, _, rfl, run_takeDeferred hKd, ?_⟩⟩
    refine ⟨.tuple #[.slice (some ⟨w.heap.size + 2, 0, none⟩) m m, .int .i64 0], by simp [results, Tryd.results42, go_sem], ?_⟩
    exact ⟨_, rfl, (HF.out _).1, (HF.out _).2⟩
  case stop =>
    rintro D c pre W _ _ h _
    exact h.elim
end Go.Proofs.YtocdinaomkmcbaaDoor

namespace Go.Proofs.YtocdinaomkmcbaaDoor
open Go.ChangeShapes Go.WideShapes Go.ChangeAt Go.RowKit Go.Shelf
set_option linter.unusedVariables false

/-- A number as bytes. -/
def sh (n : Nat) : List UInt8 :=
  if n < 128 then [UInt8.ofNat n] else if n < 16384 then [UInt8.ofNat (n % 128 + 128), UInt8.ofNat (n / 128)] else [UInt8.ofNat (n % 128 + 128), UInt8.ofNat (n / 128 % 128 + 128), UInt8.ofNat (n / 16384)]
theorem sh_small {n : Nat} (h : n < 128) : sh n = [UInt8.ofNat n] := by unfold sh; rw [if_pos h]
theorem sh_step {n : Nat} (h : 128 ≤ n) (h2 : n < 2097152) : sh n = UInt8.ofNat (n % 128 + 128) :: sh (n / 128) := by
  unfold sh
  rw [if_neg (by omega)]
  by_cases h3 : n < 16384
  · rw [if_pos h3, if_pos (by omega)]
  · rw [if_neg h3, if_neg (by omega), if_pos (by omega), show n / 128 / 128 = n / 16384 by omega]
theorem sh_len (n : Nat) : (sh n).length ≤ 3 := by unfold sh; split <;> (try split) <;> simp

/-- Nothing has turned but rows of bytes, and what is new. -/
structure OnlyB (w w' : World) : Prop where
  os : w'.os = w.os
  tape : w'.tape = w.tape
  output : w'.output = w.output
  size : w.heap.size ≤ w'.heap.size
  block : ∀ (k : Nat) (cs : Array Value) (e : TypeId) (fr : Nat × Nat), w.heap[k]? = some (.cells cs e fr) → e ≠ 5 → w'.heap[k]? = w.heap[k]?
theorem OnlyB.refl (w : World) : OnlyB w w := ⟨rfl, rfl, rfl, Nat.le_refl _, fun _ _ _ _ _ _ => rfl⟩
theorem OnlyB.trans {a b c : World} (h : OnlyB a b) (k : OnlyB b c) : OnlyB a c :=
  ⟨k.os.trans h.os, k.tape.trans h.tape, k.output.trans h.output, Nat.le_trans h.size k.size, fun i cs e fr hi h1 => (k.block i cs e fr ((h.block i cs e fr hi h1).trans hi) h1).trans (h.block i cs e fr hi h1)⟩
theorem OnlyB.of_below {a b : World} (h : Below a.heap.size a b) : OnlyB a b := ⟨h.os, h.tape, h.output, h.size, fun k cs e fr hk _ => h.block k (Array.getElem?_eq_some_iff.1 hk).1⟩
theorem OnlyB.of_grown {a b : World} {B s n : Nat} {v : Value} {xs : List Value} (h : a.grownBy b v.ownBlock) (ho : a.ownsRow B 5 s v n xs) : OnlyB a b :=
  ⟨h.os, h.tape, h.output, h.size, fun k cs e fr hk h1 => h.block k (Array.getElem?_eq_some_iff.1 hk).1 (fun e' => by
    rcases ho.2 with ⟨rfl, _⟩ | ⟨g, cap, cur, rfl, _, hg, _⟩
    · cases e'
    · cases e'
      rw [hk] at hg
      cases hg
      exact h1 rfl)⟩
theorem OnlyB.drew {a b : World} (h : OnlyB a b) : OnlyB a b.drew := ⟨h.os, h.tape, h.output, h.size, h.block⟩

theorem or128 : ∀ b : Fin 256, bits .or .u8 (b.val : Int) 128 = ((UInt8.ofNat (b.val % 128 + 128)).toNat : Int) := by decide +kernel
theorem or_top (k : Nat) : bits .or .u8 ((k : Int) % 256) 128 = ((UInt8.ofNat (k % 128 + 128)).toNat : Int) := by
  have h := or128 ⟨k % 256, by omega⟩
  simp only at h
  rw [show k % 256 % 128 = k % 128 by omega] at h
  rw [← h]
  congr 1
theorem cB_low {k : Nat} (h : k < 256) : cB (UInt8.ofNat k) = .int .u8 (k : Int) := by
  unfold cB
  rw [UInt8.toNat_ofNat', Nat.mod_eq_of_lt (by omega)]
set_option maxRecDepth 100000 in
set_option maxHeartbeats 8000000 in
theorem short_any (B n : Nat) (v : Value) (l : List UInt8) (w : World) (hB : B ≤ w.heap.size) (hn : n < 2097152) (hl : l.length ≤ 1000000000) (ho : w.ownsRow B 5 1 v l.length (l.map cB)) :
    Calls Tryd.prog 73 #[v, .int .i64 n] w fun e w' => ∃ v', e = .returned v' ∧ w'.ownsRow B 5 1 v' (l ++ sh n).length ((l ++ sh n).map cB) ∧ OnlyB w w' ∧ Below B w w' := by
  obtain ⟨i5, hi5, hy0, hy1, hy2⟩ := info_parts info5
  have HRL : Hid ((l ++ sh n).length ≤ 1000000003) := Lib.hid (by have h3 := sh_len n; rw [List.length_append]; omega)
  obtain ⟨R, hR⟩ : ∃ R, l ++ sh n = R := ⟨_, rfl⟩
  have HR0 := Lib.hid hR
  rw [hR] at HRL ⊢
  clear hR
  go_enter Tryd.func73, Tryd.ntmps73
  go_wp2_with fail
  go_loopw [0, 1] (fun vb t wr => ∃ (k : Nat) (bs : List UInt8), t = .int .i64 k ∧ k < 2097152 ∧ Hid (bs ++ sh k = R) ∧ bs.length ≤ 1000000003 ∧ Hid (OnlyB w wr ∧ Below B w wr) ∧ B ≤ wr.heap.size ∧ wr.ownsRow B 5 1 vb bs.length (bs.map cB)) (fun _ t _ => (intOf t).toNat)
  case atStart => exact ⟨n, l, rfl, hn, HR0, by omega, Lib.hid ⟨OnlyB.refl _, Below.refl _ _⟩, hB, ho⟩
  case round =>
    obtain ⟨k, bs, rfl, hk, HE, hbs, HW, hz, ob⟩ := hrel
    have hk0 : (0 : Int) ≤ (k : Int) := Int.natCast_nonneg _
    generalize hV : wr = V at *
    clear hV
    by_cases hlt : 128 ≤ k
    · have hlt' : (128 : Int) ≤ (k : Int) := by omega
      obtain ⟨x, hx⟩ : ∃ x, UInt8.ofNat (k % 128 + 128) = x := ⟨_, rfl⟩
      have hbit := or_top k
      rw [hx] at hbit
      have HN : Hid ((bs ++ [x]) ++ sh (k / 128) = R) := Lib.hid (by rw [← HE.out, sh_step hlt hk, hx, List.append_assoc]; rfl)
      have HLN : Hid ((bs ++ [x]).length ≤ 1000000003) := Lib.hid (by
        have := congrArg List.length HN.out
        have h3 := HRL.out
        rw [List.length_append] at this
        omega)
      have HM : Hid ((bs ++ [x]).map cB = bs.map cB ++ [.int .u8 (x.toNat : Int)]) := Lib.hid (by simp [cB])
      have HL : Hid ((bs ++ [x]).length = bs.length + 1) := Lib.hid (by simp)
      clear hx
      generalize bs.map cB = cs at *
      generalize hbl : bs.length = m at *
      clear hbl
      go_wp2_with (at_builtin; refine wpList_append_lies _ rfl _ _ _ rfl B 5 i5 _ 1 1 Tryd.underlying91 hi5 hy0 hy1 hy2 rfl (by omega) u0 m cs rfl (ob.alloc _) ⟨V.heap.size, 0, none⟩ 1 1 [.int .u8 (x.toNat : Int)] rfl rfl (World.news_of_block (cs := #[.int .u8 (x.toNat : Int)]) (t := 5) (fr := (0, 0)) (heap_alloc_new V _)) (by simp [Value.oneCell']) (by omega) (by unfold maxLen; omega) (by omega) (by simp; omega) (V.heap.size + 1) (by simp) ?_; intro gg cap' w1 hown1 hgrow hat hlt1)
      have hO1 := (OnlyB.of_below ((Below.refl V.heap.size V).alloc (Nat.le_refl _) (.cells #[.int .u8 (x.toNat : Int)] 5))).trans (OnlyB.of_grown hgrow (ob.alloc _))
      have hb1' := Below.grown (((Below.refl B V)).alloc hz (.cells #[.int .u8 (x.toNat : Int)] 5)) hgrow (by simp; omega) (fun j hj => (ob.lt j hj).1)
      have hz1 : B ≤ w1.heap.size := Nat.le_trans hz hb1'.size
      go_wp2_with fail
      go_roundw
      case rel => exact ⟨k / 128, bs ++ [x], by go_num, by omega, HN, HLN.out, Lib.hid ⟨HW.out.1.trans hO1, HW.out.2.trans hb1'⟩, hz1, by rw [HL.out, HM.out]; exact hown1⟩
      case measure => simp [intOf]; omega
    · have hlt' : ¬ (128 : Int) ≤ (k : Int) := by omega
      have HR : Hid (R = bs ++ [UInt8.ofNat k]) := Lib.hid (by rw [← HE.out, sh_small (by omega)])
      have HM : Hid ((bs ++ [UInt8.ofNat k]).map cB = bs.map cB ++ [.int .u8 (k : Int)]) := Lib.hid (by rw [List.map_append, List.map_singleton, cB_low (by omega)])
      have HL : Hid ((bs ++ [UInt8.ofNat k]).length = bs.length + 1) := Lib.hid (by simp)
      generalize bs.map cB = cs at *
      generalize hbl : bs.length = m at *
      clear hbl
      go_wp2_with (at_builtin; refine wpList_append_lies _ rfl _ _ _ rfl B 5 i5 _ 1 1 Tryd.underlying91 hi5 hy0 hy1 hy2 rfl (by omega) u0 m cs rfl (ob.alloc _) ⟨V.heap.size, 0, none⟩ 1 1 [.int .u8 (k : Int)] rfl rfl (World.news_of_block (cs := #[.int .u8 (k : Int)]) (t := 5) (fr := (0, 0)) (heap_alloc_new V _)) (by simp [Value.oneCell']) (by omega) (by unfold maxLen; omega) (by omega) (by simp; omega) (V.heap.size + 1) (by simp) ?_; intro gg cap' w1 hown1 hgrow hat hlt1)
      have hO1 := (OnlyB.of_below ((Below.refl V.heap.size V).alloc (Nat.le_refl _) (.cells #[.int .u8 (k : Int)] 5))).trans (OnlyB.of_grown hgrow (ob.alloc _))
      have hb1' := Below.grown (((Below.refl B V)).alloc hz (.cells #[.int .u8 (k : Int)] 5)) hgrow (by simp; omega) (fun j hj => (ob.lt j hj).1)
      go_wp2_with fail
      go_ret
      exact ⟨_, rfl, by rw [HR.out, HL.out, HM.out]; exact hown1, HW.out.1.trans hO1, HW.out.2.trans hb1'⟩
end Go.Proofs.YtocdinaomkmcbaaDoor

namespace Go.Proofs.YtocdinaomkmcbaaDoor
open Go.ChangeShapes Go.WideShapes Go.ChangeAt Go.RowKit Go.Shelf
set_option linter.unusedVariables false

/-- A node as bytes. -/
def tlP (j : Nat) (x : Nd) : List UInt8 := sh (j - x.1) ++ sh x.2.1.size ++ x.2.1.data.toList ++ sh x.2.2.toNat
def tlJ (nd : List Nd) (j : Nat) : List UInt8 := match nd[j]? with
  | some x => tlP j x
  | none => []
/-- The nodes k + 1 to k + m as bytes. -/
def tlS (nd : List Nd) (k m : Nat) : List UInt8 := (List.range' (k + 1) m).flatMap (tlJ nd)
theorem tlS_zero (nd : List Nd) (k : Nat) : tlS nd k 0 = [] := rfl
theorem tlS_cons (nd : List Nd) (k m : Nat) : tlS nd k (m + 1) = tlJ nd (k + 1) ++ tlS nd (k + 1) m := by
  simp [tlS, List.range'_succ]
theorem tlS_snoc (nd : List Nd) (k m : Nat) : tlS nd k (m + 1) = tlS nd k m ++ tlJ nd (k + m + 1) := by
  simp [tlS, List.range'_concat, show k + 1 + m = k + m + 1 by omega]
/-- A tree as bytes. -/
def told (nd : List Nd) : List UInt8 := sh (nd.length - 1) ++ tlS nd 0 (nd.length - 1)
theorem tlJ_at {nd : List Nd} {j : Nat} {x : Nd} (h : nd[j]? = some x) : tlJ nd j = tlP j x := by simp [tlJ, h]
theorem may_bounds {p : Pl} (h : may p = true) : 1 ≤ p.1.size ∧ p.1.size ≤ 120 ∧ 0 ≤ p.2 ∧ p.2 ≤ 1048576 := by
  by_cases hc : 1 ≤ p.1.size ∧ p.1.size ≤ 120 ∧ 0 ≤ p.2 ∧ p.2 ≤ 1048576
  · exact hc
  · rw [may_out hc] at h
    cases h
theorem tlP_len {j : Nat} {x : Nd} (h : may x.2 = true) : (tlP j x).length ≤ 129 := by
  have h1 := sh_len (j - x.1)
  have h2 := sh_len x.2.1.size
  have h3 := sh_len x.2.2.toNat
  obtain ⟨_, h4, _⟩ := may_bounds h
  have : x.2.1.data.toList.length = x.2.1.size := by simp
  simp only [tlP, List.length_append]
  omega
theorem told_len {nd : List Nd} (h : Wf nd) : ∀ m, m < nd.length → (tlS nd 0 m).length ≤ 129 * m := by
  intro m
  induction m with
  | zero => intro _; simp [tlS_zero]
  | succ m ih =>
    intro hm
    obtain ⟨x, hx⟩ : ∃ x, nd[m + 1]? = some x := ⟨_, List.getElem?_eq_getElem hm⟩
    have := ih (by omega)
    have h2 := tlP_len (j := m + 1) (h.good (m + 1) x (by omega) hx)
    rw [tlS_snoc, List.length_append, Nat.zero_add, tlJ_at hx]
    omega
end Go.Proofs.YtocdinaomkmcbaaDoor

namespace Go.Proofs.YtocdinaomkmcbaaDoor
open Go.ChangeShapes Go.WideShapes Go.ChangeAt Go.RowKit Go.Shelf
set_option linter.unusedVariables false

theorem strCells_is (s : ByteArray) : Lib.strCells s = s.data.toList.map cB := rfl
theorem onlyB_cell {w w' : World} {b : Nat} {cs : Array Value} {t : TypeId} {fr : Nat × Nat} (h : w.heap[b]? = some (.cells cs t fr)) (ho : OnlyB w w') (ht : t ≠ 5) : w'.heap[b]? = some (.cells cs t fr) := (ho.block b cs t fr h ht).trans h

theorem box3 {W : World} {b : Nat} {x y z : Value} {t : TypeId} (h : W.heap[b]? = some (.cells #[x, y, z] t (0, 0))) : W.cell? ⟨b, 0, none⟩ = some x ∧ W.cell? ⟨b, 1, none⟩ = some y ∧ W.cell? ⟨b, 2, none⟩ = some z := by simp [World.cell?, h]
theorem sh_ne (n : Nat) : 1 ≤ (sh n).length := by unfold sh; split <;> (try split) <;> simp
theorem byte_row {W : World} {B : Nat} {v : Value} {bs : List UInt8} (h : W.ownsRow B 5 1 v bs.length (bs.map cB)) (hn : 1 ≤ bs.length) : ∃ g c, v = .slice (some ⟨g, 0, none⟩) bs.length c := by
  rcases h.2 with ⟨_, h2⟩ | ⟨g, c, _, h1, _⟩
  · omega
  · exact ⟨g, c, h1⟩
set_option maxRecDepth 100000 in
set_option maxHeartbeats 8000000 in
theorem told_any (a lo : Nat) (nd : List Nd) (w : World) (hT : Tr w lo a nd) :
    Calls Tryd.prog 36 #[.pointer (some ⟨a, 0, none⟩)] w fun e w' => e = .returned (.string (bts (told nd))) ∧ Below w.heap.size w w' := by
  obtain ⟨i5, hi5, hy0, hy1, hy2⟩ := info_parts info5
  have hwf := hT.wf
  have hfew := hT.few
  have hpos := hwf.pos
  have K35 := len_any a lo nd w hT
  have HSH := Lib.hid (fun (i : Int) (n : Nat) (hi : i = (n : Int)) (v : Value) (l : List UInt8) (W : World) (h1 : w.heap.size ≤ W.heap.size) (h2 : n < 2097152) (h3 : l.length ≤ 1000000000) (h4 : W.ownsRow w.heap.size 5 1 v l.length (l.map cB)) => by
    have := short_any w.heap.size n v l W h1 h2 h3 h4
    rw [← hi] at this
    exact this)
  obtain ⟨gn, cn, ca, hcn, hcc⟩ := hT.cells
  have HCC := Lib.hid hcc
  have HWF := Lib.hid hwf
  have HTL : Hid (sh (nd.length - 1) ++ tlS nd 0 (nd.length - 1) = told nd) := Lib.hid rfl
  have HLEN := Lib.hid (told_len hwf)
  obtain ⟨m, hm⟩ : ∃ m, nd.length = m + 1 := ⟨nd.length - 1, by omega⟩
  rw [hm] at K35 ca hcn hfew HTL
  rw [Nat.add_sub_cancel] at HTL
  rw [show ((m + 1 : Nat) : Int) = (m : Int) + 1 by omega] at K35
  have HM := Lib.hid hm
  have h0 : ¬ (m : Int) + 1 = 0 := by omega
  clear hT hcc hwf hpos hm
  go_enter Tryd.func36, Tryd.ntmps36
  go_wp2_with fail
  refine K35.mono ?_
  rintro e W1 ⟨rfl, hW1⟩
  subst hW1
  go_wp2_with fail
  refine (HSH.out _ m (by omega) (.slice none 0 0) [] w (Nat.le_refl _) (by omega) (by simp) (World.ownsRow_nil _ _ _ _)).mono ?_
  rintro e W1 ⟨v1, rfl, ho1, hO1, hb1⟩
  rw [List.nil_append] at ho1
  have hz1 := hb1.size
  have ca1 := cell_below ca hb1 (Nat.le_refl _)
  have hgl : gn < w.heap.size := by
    obtain ⟨q0, _, _⟩ := HCC.out 0 _ HWF.out.root
    exact World.block_lt_of_cell? w _ q0
  go_wp2_with fail
  · rename_i hc1
    have hm0 : m = 0 := by omega
    subst hm0
    obtain ⟨g, c, rfl⟩ := byte_row ho1 (sh_ne 0)
    have hcv := conv_row ho1
    have HBT : Hid (bts (sh 0) = bts (told nd)) := Lib.hid (by rw [← HTL.out, tlS_zero, List.append_nil])
    refine wp_loop_rounds 1 ?_
    rw [rounds_succ]
    go_wp2_with fail
    go_ret
    exact ⟨by rw [HBT.out]; rfl, hb1⟩
  go_loopw [3, 22] (fun vb t wr => ∃ (k : Nat) (bs : List UInt8), t = .int .i64 k ∧ k ≤ m ∧ bs.length ≤ 3 + 129 * k ∧ Hid (bs = sh m ++ tlS nd 0 k) ∧ wr.ownsRow w.heap.size 5 1 vb bs.length (bs.map cB) ∧ Below w.heap.size w wr) (fun _ t _ => m - (intOf t).toNat)
  case atStart => exact ⟨0, sh m, rfl, by omega, by have := sh_len m; omega, Lib.hid (by simp [tlS_zero]), ho1, hb1⟩
  case round =>
    obtain ⟨k, bs, rfl, hk, hbs, HB, ob, hb⟩ := hrel
    have hk0 : (0 : Int) ≤ (k : Int) := Int.natCast_nonneg _
    generalize hV : wr = V at *
    clear hV
    have hz := hb.size
    by_cases hlt : k < m
    · have hlt' : (k : Int) < (m : Int) := by omega
      obtain ⟨x, hx⟩ : ∃ x, nd[k + 1]? = some x := ⟨_, List.getElem?_eq_getElem (by rw [HM.out]; omega)⟩
      obtain ⟨d0w, d1w, d2w⟩ := HCC.out (k + 1) x hx
      rw [show (k + 1) * 3 = 3 + k * 3 by omega] at d0w d1w d2w
      have d0 := cell_below d0w hb (Nat.le_refl _)
      have d1 := cell_below d1w hb (Nat.le_refl _)
      have d2 := cell_below d2w hb (Nat.le_refl _)
      have hup := HWF.out.up (k + 1) x (by omega) hx
      obtain ⟨m1, m2, m3, m4⟩ := may_bounds (HWF.out.good (k + 1) x (by omega) hx)
      have HTN : Hid (sh m ++ tlS nd 0 (k + 1) = bs ++ sh (k + 1 - x.1) ++ sh x.2.1.size ++ x.2.1.data.toList ++ sh x.2.2.toNat) := Lib.hid (by
        rw [tlS_snoc, Nat.zero_add, tlJ_at hx, HB.out, tlP]
        simp only [List.append_assoc])
      clear d0w d1w d2w hx
      obtain ⟨par, nm, ln⟩ := x
      simp only at d0 d1 d2 hup m1 m2 m3 m4 HTN
      go_wp2_with fail
      have hbx := World.alloc_heap_new V (.cells #[.int .i64 (par : Int), .string nm, .int .i64 ln] 140)
      have ob1 := ob.alloc (.cells #[.int .i64 (par : Int), .string nm, .int .i64 ln] 140)
      have bV := hb.alloc hz (.cells #[.int .i64 (par : Int), .string nm, .int .i64 ln] 140)
      obtain ⟨R1, hR1⟩ : ∃ R, bs ++ sh (k + 1 - par) = R := ⟨_, rfl⟩
      have l1 : R1.length ≤ bs.length + 3 := by rw [← hR1, List.length_append]; have := sh_len (k + 1 - par); omega
      obtain ⟨R2, hR2⟩ : ∃ R, R1 ++ sh nm.size = R := ⟨_, rfl⟩
      have l2 : R2.length ≤ R1.length + 3 := by rw [← hR2, List.length_append]; have := sh_len nm.size; omega
      obtain ⟨R3, hR3⟩ : ∃ R, R2 ++ nm.data.toList = R := ⟨_, rfl⟩
      have l3 : R3.length = R2.length + nm.size := by rw [← hR3, List.length_append]; simp
      obtain ⟨R4, hR4⟩ : ∃ R, R3 ++ sh ln.toNat = R := ⟨_, rfl⟩
      have l4 : R4.length ≤ R3.length + 3 := by rw [← hR4, List.length_append]; have := sh_len ln.toNat; omega
      have HT4 : Hid (R4 = sh m ++ tlS nd 0 (k + 1)) := Lib.hid (by rw [HTN.out, hR1, hR2, hR3, hR4])
      have H1 := Lib.hid hR1
      have H2 := Lib.hid hR2
      have H3 := Lib.hid hR3
      have H4 := Lib.hid hR4
      clear hR1 hR2 hR3 hR4 d0 d1 d2 HTN
      generalize V.alloc (.cells #[.int .i64 (par : Int), .string nm, .int .i64 ln] 140) = V1 at *
      generalize V.heap.size = bx at *
      have hzV := bV.size
      refine (HSH.out _ (k + 1 - par) (by omega) u3 bs V1 (by omega) (by omega) (by omega) ob1).mono ?_
      rintro e W2 ⟨v2, rfl, ho2, hO2, hb2⟩
      rw [H1.out] at ho2
      have bx2 := onlyB_cell hbx hO2 (by decide)
      have bV2 := bV.trans hb2
      have hz2 := bV2.size
      obtain ⟨_, c1, c2⟩ := box3 bx2
      clear ob ob1 hbx hO2 hb2
      go_wp2_with fail
      refine (HSH.out _ nm.size rfl v2 R1 W2 (by omega) (by omega) (by omega) ho2).mono ?_
      rintro e W3 ⟨v3, rfl, ho3, hO3, hb3⟩
      rw [H2.out] at ho3
      have bx3 := onlyB_cell bx2 hO3 (by decide)
      have bV3 := bV2.trans hb3
      have hz3 := bV3.size
      clear c1 c2
      obtain ⟨_, c1, c2⟩ := box3 bx3
      clear bx2 ho2 hO3 hb3
      go_wp2_with (at_builtin; refine Lib.wpList_append_own_string W3 rfl _ _ 91 9 rfl w.heap.size 5 i5 Tryd.underlying91 Tryd.underlying9 hi5 hy0 hy1 hy2 v3 R2.length (R2.map cB) rfl ho3 nm rfl (by unfold maxLen; omega) (by omega) (by omega) ?_; intro v4 W4 ho4 hgrow4 _; obtain ⟨_, e1, e2⟩ := box3 (onlyB_cell bx3 (OnlyB.of_grown hgrow4 ho3) (by decide)))
      have hO4 := OnlyB.of_grown hgrow4 ho3
      have bx4 := onlyB_cell bx3 hO4 (by decide)
      have bV4 := Below.grown bV3 hgrow4 hz3 (fun j hj => (ho3.lt j hj).1)
      have hz4 := bV4.size
      have ho4' : W4.ownsRow w.heap.size 5 1 v4 R3.length (R3.map cB) := by rw [l3, ← H3.out, List.map_append]; exact ho4
      clear c1 c2 bx3 ho3 ho4 hgrow4 hO4
      refine (HSH.out ln ln.toNat (by omega) v4 R3 W4 (by omega) (by omega) (by omega) ho4').mono ?_
      rintro e W5 ⟨v5, rfl, ho5, hO5, hb5⟩
      rw [H4.out] at ho5
      go_wp2_with fail
      go_roundw
      case rel => exact ⟨k + 1, R4, by go_num, by omega, by omega, HT4, ho5, bV4.trans hb5⟩
      case measure => simp [intOf]; omega
    · have hlt' : ¬ (k : Int) < (m : Int) := by omega
      have hkm : k = m := by omega
      subst hkm
      have hb1 : 1 ≤ bs.length := by rw [HB.out, List.length_append]; have := sh_ne k; omega
      obtain ⟨g, c, rfl⟩ := byte_row ob hb1
      have hcv := conv_row ob
      have HBT : Hid (bts bs = bts (told nd)) := Lib.hid (by rw [HB.out, HTL.out])
      go_wp2_with fail
      go_ret
      exact ⟨by rw [HBT.out]; rfl, hb⟩
end Go.Proofs.YtocdinaomkmcbaaDoor

namespace Go.Proofs.YtocdinaomkmcbaaDoor
open Go.ChangeShapes Go.WideShapes Go.ChangeAt Go.RowKit Go.Shelf
set_option linter.unusedVariables false

/-- A reader that has the text s left. -/
def RdA (W : World) (r : Nat) (s : ByteArray) : Prop := W.heap[r]? = some (.cells #[.string s, .bool false] 122 (0, 0))
/-- Nothing but the reader has turned. -/
structure RdK (r : Nat) (w w' : World) : Prop where
  os : w'.os = w.os
  tape : w'.tape = w.tape
  output : w'.output = w.output
  size : w'.heap.size = w.heap.size
  block : ∀ k, k ≠ r → w'.heap[k]? = w.heap[k]?
theorem RdK.refl (r : Nat) (w : World) : RdK r w w := ⟨rfl, rfl, rfl, rfl, fun _ _ => rfl⟩
theorem RdK.trans {r : Nat} {a b c : World} (h : RdK r a b) (k : RdK r b c) : RdK r a c := ⟨k.os.trans h.os, k.tape.trans h.tape, k.output.trans h.output, k.size.trans h.size, fun i hi => (k.block i hi).trans (h.block i hi)⟩
theorem RdK.below {r B : Nat} {w w' : World} (h : RdK r w w') (hr : B ≤ r) : Below B w w' := ⟨h.os, h.tape, h.output, Nat.le_of_eq h.size.symm, fun k hk => h.block k (by omega)⟩
theorem RdA.cells {W : World} {r : Nat} {s : ByteArray} (h : RdA W r s) : W.cell? ⟨r, 0, none⟩ = some (.string s) ∧ W.cell? ⟨r, 1, none⟩ = some (.bool false) ∧ W.frozen? ⟨r, 0, none⟩ = false ∧ W.frozen? ⟨r, 1, none⟩ = false := by
  unfold RdA at h
  exact ⟨Go.Joins.cell_of_block h 0, Go.Joins.cell_of_block h 1, by simp [World.frozen?, h], by simp [World.frozen?, h]⟩
theorem size_setCell (w : World) (a : Addr) (u : Value) : (w.setCell a u).heap.size = w.heap.size := by
  unfold World.setCell
  split <;> simp

theorem RdK.set (r : Nat) (w : World) (j : Nat) (u : Value) : RdK r w (w.setCell ⟨r, j, none⟩ u) := by
  have hb := (Below.refl 0 w).setCell (p := ⟨r, j, none⟩) (Nat.zero_le _) u
  exact ⟨hb.os, hb.tape, hb.output, size_setCell w _ u, fun k hk => Below.heap_setCell w _ u k hk⟩
theorem RdA.set {w : World} {r : Nat} {s : ByteArray} (h : RdA w r s) (s' : ByteArray) : RdA (w.setCell ⟨r, 0, none⟩ (.string s')) r s' := Go.Joins.block_setCell (i := 0) h (.string s')
set_option maxRecDepth 100000 in
set_option maxHeartbeats 4000000 in
theorem take_any (r n : Nat) (s : ByteArray) (w : World) (h : RdA w r s) (hn : n ≤ s.size) :
    Calls Tryd.prog 63 #[.pointer (some ⟨r, 0, none⟩), .int .i64 n] w fun e w' => e = .returned (.string (bts (s.data.toList.take n))) ∧ RdA w' r (bts (s.data.toList.drop n)) ∧ RdK r w w' := by
  obtain ⟨c0, c1, f0, f1⟩ := h.cells
  have hn0 : (0 : Int) ≤ (n : Int) := by omega
  have hn1 : ¬ ((s.size : Int) < (n : Int)) := by omega
  have HP := Lib.hid (extract_bts s n)
  have HD := Lib.hid (ext_end s n)
  have HR := Lib.hid h
  clear h
  go_enter Tryd.func63, Tryd.ntmps63
  go_wp2_with fail
  go_ret
  refine ⟨by rw [← HP.out]; rfl, ?_, RdK.set r w 0 _⟩
  rw [← HD.out]
  exact HR.out.set _

theorem and127 : ∀ b : Fin 256, bits .and .u8 (b.val : Int) 127 = ((b.val % 128 : Nat) : Int) := by decide +kernel
theorem wraps_i64 (n : Int) (h₀ : 0 ≤ n) (h₁ : n < 2 ^ 62) : IntKind.i64.wrap n = n := by rw [IntKind.wrap_i64]; omega
theorem or_low {a d i : Nat} (ha : a < 2 ^ i) (hi : i ≤ 14) (hd : d < 128) : bits .or .i64 (a : Int) ((d * 2 ^ i : Nat) : Int) = ((a + d * 2 ^ i : Nat) : Int) := by
  have h14 : (2 : Nat) ^ i ≤ 2 ^ 14 := Nat.pow_le_pow_right (by decide) hi
  have hx : d * 2 ^ i < 2 ^ 62 := by
    have := Nat.mul_le_mul (Nat.le_of_lt hd) h14
    have h : (128 : Nat) * 2 ^ 14 < 2 ^ 62 := by decide
    omega
  have ha2 : a < 2 ^ 62 := by
    have h : (2 : Nat) ^ 14 < 2 ^ 62 := by decide
    omega
  rw [(bits_nat .i64 62 (by decide) wraps_i64 a _ ha2 hx).2, Nat.or_comm, Nat.mul_comm, ← Nat.two_pow_add_eq_or_of_lt ha, Nat.add_comm]

set_option maxRecDepth 100000 in
set_option maxHeartbeats 8000000 in
theorem rshort_any (r n : Nat) (s : ByteArray) (more : List UInt8) (w : World) (h : RdA w r s) (hn : n < 2097152) (hs : s.data.toList = sh n ++ more) :
    Calls Tryd.prog 62 #[.pointer (some ⟨r, 0, none⟩)] w fun e w' => e = .returned (.int .i64 n) ∧ RdA w' r (bts more) ∧ RdK r w w' := by
  have HT := Lib.hid (fun (s' : ByteArray) (W : World) (h' : RdA W r s') (h1 : 1 ≤ s'.size) => take_any r 1 s' W h' h1)
  have HS := Lib.hid hs
  have HR := Lib.hid h
  clear h hs
  go_enter Tryd.func62, Tryd.ntmps62
  go_wp2_with fail
  go_loopw [3, 6] (fun t3 t6 wr => ∃ (i acc rem : Nat) (s' : ByteArray), t6 = .int .i64 i ∧ t3 = .int .i64 acc ∧ rem < 2097152 ∧ ((i = 0 ∧ acc = 0 ∧ rem = n) ∨ (i = 1 ∧ acc = n % 128 ∧ rem = n / 128) ∨ (i = 2 ∧ acc = n % 16384 ∧ rem = n / 16384)) ∧ Hid (RdA wr r s' ∧ s'.data.toList = sh rem ++ more ∧ RdK r w wr)) (fun _ t _ => 3 - (intOf t).toNat)
  case atStart => exact ⟨0, 0, n, s, rfl, rfl, hn, .inl ⟨rfl, rfl, rfl⟩, Lib.hid ⟨HR.out, HS.out, RdK.refl _ _⟩⟩
  case round =>
    obtain ⟨i, acc, rem, s', rfl, rfl, hrem, hcs, HW⟩ := hrel
    obtain ⟨hA, hsl, hK⟩ := HW.out
    have hln : s'.data.toList.length = s'.size := by simp
    obtain ⟨c, tl, hsl', hcd, hcase⟩ : ∃ (c : UInt8) (tl : List UInt8), s'.data.toList = c :: tl ∧ c.toNat % 128 = rem % 128 ∧ ((rem < 128 ∧ c.toNat < 128 ∧ tl = more) ∨ (128 ≤ rem ∧ 128 ≤ c.toNat ∧ tl = sh (rem / 128) ++ more)) := by
      by_cases hlt : 128 ≤ rem
      · refine ⟨UInt8.ofNat (rem % 128 + 128), _, by rw [hsl, sh_step hlt hrem]; rfl, ?_, .inr ⟨hlt, ?_, rfl⟩⟩ <;> rw [UInt8.toNat_ofNat'] <;> omega
      · refine ⟨UInt8.ofNat rem, _, by rw [hsl, sh_small (by omega)]; rfl, ?_, .inl ⟨by omega, ?_, rfl⟩⟩ <;> rw [UInt8.toNat_ofNat'] <;> omega
    have h1 : 1 ≤ s'.size := by rw [← hln, hsl']; simp
    have h14 := HT.out s' wr hA h1
    rw [show s'.data.toList.take 1 = [c] by rw [hsl']; rfl, show s'.data.toList.drop 1 = tl by rw [hsl']; rfl] at h14
    obtain ⟨S, hS⟩ : ∃ S, bts [c] = S := ⟨_, rfl⟩
    have hS0 : 0 < S.size := by rw [← hS, bts_size]; simp
    have hSI : (0 : Int) < (S.size : Int) := by omega
    have hSc : S[0]'hS0 = c := by subst hS; rfl
    rw [hS] at h14
    obtain ⟨d, hd⟩ : ∃ d, rem % 128 = d := ⟨_, rfl⟩
    have hd1 : d < 128 := by omega
    have hand : bits .and .u8 (c.toNat : Int) 127 = (d : Int) := by
      have := and127 ⟨c.toNat, c.toNat_lt⟩
      simp only at this
      rw [this, hcd, hd]
    have H14 := Lib.hid h14
    have HCS := Lib.hid hcs
    have HD := Lib.hid hd
    have hi3 : i = 0 ∨ i = 1 ∨ i = 2 := by omega
    clear h14 hS hsl hsl' hcd hln hd h1 hA HS
    rcases hi3 with rfl | rfl | rfl
    · obtain ⟨acc', hacc⟩ : ∃ x, acc + d * 1 = x := ⟨_, rfl⟩
      have hor : bits .or .i64 (acc : Int) (d : Int) = (acc' : Int) := by
        have := or_low (a := acc) (d := d) (i := 0) (by omega) (by decide) hd1
        rw [← hacc]
        simpa using this
      have HA := Lib.hid hacc
      clear hacc hcs
      rcases hcase with ⟨hr1, hr2, htl⟩ | ⟨hr1, hr2, htl⟩
      · have hlt' : (c.toNat : Int) < 128 := by omega
        go_wp2_with fail
        refine H14.out.mono ?_
        rintro e W ⟨rfl, hA2, hK2⟩
        obtain ⟨e0, e1, _⟩ := hA2.cells
        have HA2 := Lib.hid hA2
        clear hA2
        go_wp2_with fail
        go_ret
        have x1 := HCS.out
        have x2 := HD.out
        have x3 := HA.out
        exact ⟨by rw [show (n : Int) = (acc' : Int) by omega]; rfl, htl ▸ HA2.out, HW.out.2.2.trans hK2⟩
      · have hlt' : ¬ (c.toNat : Int) < 128 := by omega
        go_wp2_with fail
        refine H14.out.mono ?_
        rintro e W ⟨rfl, hA2, hK2⟩
        obtain ⟨e0, e1, _⟩ := hA2.cells
        have HA2 := Lib.hid hA2
        clear hA2
        go_wp2_with fail
        have x1 := HCS.out
        have x2 := HD.out
        have x3 := HA.out
        go_roundw
        case rel => exact ⟨1, acc', rem / 128, bts tl, rfl, rfl, by omega, by omega, Lib.hid ⟨HA2.out, by rw [bts_list, htl], HW.out.2.2.trans hK2⟩⟩
        case measure => simp [intOf]
    · obtain ⟨acc', hacc⟩ : ∃ x, acc + d * 128 = x := ⟨_, rfl⟩
      have hor : bits .or .i64 (acc : Int) ((d : Int) * 128) = (acc' : Int) := by
        have := or_low (a := acc) (d := d) (i := 7) (by omega) (by decide) hd1
        rw [← hacc]
        simpa using this
      have HA := Lib.hid hacc
      clear hacc hcs
      rcases hcase with ⟨hr1, hr2, htl⟩ | ⟨hr1, hr2, htl⟩
      · have hlt' : (c.toNat : Int) < 128 := by omega
        go_wp2_with fail
        refine H14.out.mono ?_
        rintro e W ⟨rfl, hA2, hK2⟩
        obtain ⟨e0, e1, _⟩ := hA2.cells
        have HA2 := Lib.hid hA2
        clear hA2
        go_wp2_with fail
        go_ret
        have x1 := HCS.out
        have x2 := HD.out
        have x3 := HA.out
        exact ⟨by rw [show (n : Int) = (acc' : Int) by omega]; rfl, htl ▸ HA2.out, HW.out.2.2.trans hK2⟩
      · have hlt' : ¬ (c.toNat : Int) < 128 := by omega
        go_wp2_with fail
        refine H14.out.mono ?_
        rintro e W ⟨rfl, hA2, hK2⟩
        obtain ⟨e0, e1, _⟩ := hA2.cells
        have HA2 := Lib.hid hA2
        clear hA2
        go_wp2_with fail
        have x1 := HCS.out
        have x2 := HD.out
        have x3 := HA.out
        go_roundw
        case rel => exact ⟨2, acc', rem / 128, bts tl, rfl, rfl, by omega, by omega, Lib.hid ⟨HA2.out, by rw [bts_list, htl], HW.out.2.2.trans hK2⟩⟩
        case measure => simp [intOf]
    · obtain ⟨acc', hacc⟩ : ∃ x, acc + d * 16384 = x := ⟨_, rfl⟩
      have hor : bits .or .i64 (acc : Int) ((d : Int) * 16384) = (acc' : Int) := by
        have := or_low (a := acc) (d := d) (i := 14) (by omega) (by decide) hd1
        rw [← hacc]
        simpa using this
      have HA := Lib.hid hacc
      clear hacc hcs
      rcases hcase with ⟨hr1, hr2, htl⟩ | ⟨hr1, hr2, htl⟩
      · have hlt' : (c.toNat : Int) < 128 := by omega
        go_wp2_with fail
        refine H14.out.mono ?_
        rintro e W ⟨rfl, hA2, hK2⟩
        obtain ⟨e0, e1, _⟩ := hA2.cells
        have HA2 := Lib.hid hA2
        clear hA2
        go_wp2_with fail
        go_ret
        have x1 := HCS.out
        have x2 := HD.out
        have x3 := HA.out
        exact ⟨by rw [show (n : Int) = (acc' : Int) by omega]; rfl, htl ▸ HA2.out, HW.out.2.2.trans hK2⟩
      · have x1 := HCS.out; omega
end Go.Proofs.YtocdinaomkmcbaaDoor

namespace Go.Proofs.YtocdinaomkmcbaaDoor
open Go.ChangeShapes Go.WideShapes Go.ChangeAt Go.RowKit Go.Shelf
set_option linter.unusedVariables false

theorem RdK.grown {r : Nat} {w w' : World} (h : RdK r w w') : w.grownBy w' (some r) := ⟨h.os, h.tape, h.output, Nat.le_of_eq h.size.symm, fun j _ hne => h.block j (fun e => hne (by rw [e]))⟩
theorem Tr.rd {W W' : World} {lo a r : Nat} {nd : List Nd} (h : Tr W lo a nd) (hk : RdK r W W') (hr : r < lo) : Tr W' lo a nd := by
  obtain ⟨h1, h2, ⟨gn, cn, bm, D, x1, x2, x3, x4, x5⟩, h3⟩ := h
  have hg : lo ≤ gn := (x2.lt gn rfl).1
  exact ⟨h1, h2, ⟨gn, cn, bm, D, by rw [hk.block a (by omega)]; exact x1, x2.kept hk.grown (.inr (by simp [Value.ownBlock]; omega)), x3.kept hk.grown (by simp; omega), x4, x5⟩, h3⟩
theorem wf_take {nd : List Nd} (h : Wf nd) (k : Nat) (hk : 1 ≤ k) : Wf (nd.take k) := by
  have get : ∀ (i : Nat) (x : Nd), (nd.take k)[i]? = some x → nd[i]? = some x := fun i x hx => by
    rw [List.getElem?_take] at hx
    split at hx
    · exact hx
    · cases hx
  refine ⟨by rw [List.length_take]; have := h.pos; omega, ?_, fun i x h1 hx => h.up i x h1 (get i x hx), fun i x h1 hx => h.good i x h1 (get i x hx), fun i j x h1 h2 hx hy => h.one i j x h1 h2 (get i x hx) (get j x hy)⟩
  rw [List.getElem?_take, if_pos (by omega)]
  exact h.root
theorem stk_take {nd : List Nd} (h : Wf nd) (k n : Nat) (hk : 1 ≤ k) (hn : n < k) (hn2 : n < nd.length) : stk (nd.take k) n = stk nd n := by
  have e : nd = nd.take k ++ nd.drop k := (List.take_append_drop k nd).symm
  have := stk_ext (wf_take h k hk) (nd.drop k) (by rw [← e]; exact h) n (by rw [List.length_take]; omega)
  rw [← e] at this
  exact this.symm
theorem ins_take {nd : List Nd} (h : Wf nd) {k : Nat} {x : Nd} (hx : nd[k + 1]? = some x) : insN (nd.take (k + 1)) x.1 x.2 = (k + 1, nd.take (k + 2)) := by
  have hl := (List.getElem?_eq_some_iff.1 hx).1
  unfold insN
  cases hs : seekN (nd.take (k + 1)) (x.1, x.2) with
  | some i =>
    obtain ⟨s1, s2, s3⟩ := seek_some hs
    rw [List.length_take] at s3
    rw [List.getElem?_take, if_pos (by omega)] at s2
    have := h.one i (k + 1) x s1 (by omega) s2 hx
    omega
  | none =>
    simp only
    have hx' : nd[k + 1] = x := by
      rw [List.getElem?_eq_getElem hl] at hx
      exact Option.some.inj hx
    rw [List.length_take, Nat.min_eq_left (by omega), List.take_succ_eq_append_getElem hl, hx']

theorem take_front (r n : Nat) (l more : List UInt8) (w : World) (h : RdA w r (bts (l ++ more))) (hn : n = l.length) :
    Calls Tryd.prog 63 #[.pointer (some ⟨r, 0, none⟩), .int .i64 n] w fun e w' => e = .returned (.string (bts l)) ∧ RdA w' r (bts more) ∧ RdK r w w' := by
  have := take_any r n _ w h (by rw [bts_size, List.length_append]; omega)
  rw [bts_list, List.take_left' hn.symm, List.drop_left' hn.symm] at this
  exact this
set_option maxRecDepth 100000 in
set_option maxHeartbeats 8000000 in
theorem from_any (nd : List Nd) (s : ByteArray) (w : World) (hwf : Wf nd) (hfew : nd.length ≤ 4096) (hdeep : ∀ n, n < nd.length → (stk nd n).length ≤ 64) (hs : s = bts (told nd)) :
    Calls Tryd.prog 31 #[.string s] w fun e w' => ∃ lo u, e = .returned (.tuple #[.pointer (some ⟨u, 0, none⟩), .int .i64 0]) ∧ w.heap.size ≤ lo ∧ lo ≤ w'.heap.size ∧ Tr w' lo u nd ∧ Below w.heap.size w w' := by
  have hpos := hwf.pos
  obtain ⟨m, hm⟩ : ∃ m, nd.length = m + 1 := ⟨nd.length - 1, by omega⟩
  have HSL : Hid (s.data.toList = sh m ++ tlS nd 0 m) := Lib.hid (by rw [hs, bts_list, told, hm]; rfl)
  have HSE : Hid (bts (told nd) = s) := Lib.hid hs.symm
  have HWF := Lib.hid hwf
  have HM := Lib.hid hm
  have HDP := Lib.hid hdeep
  rw [hm] at hfew
  clear hwf hs hm hdeep hpos
  go_enter Tryd.func31, Tryd.ntmps31
  go_wp2_with fail
  obtain ⟨r, hr⟩ : ∃ r, w.heap.size = r := ⟨_, rfl⟩
  have hA0 : RdA (w.alloc (.cells #[.string s, .bool false] 122)) r s := by rw [← hr]; exact World.alloc_heap_new w _
  have b0 : Below w.heap.size w (w.alloc (.cells #[.string s, .bool false] 122)) := (Below.refl _ w).alloc (Nat.le_refl _) _
  have hzA : (w.alloc (.cells #[.string s, .bool false] 122)).heap.size = r + 1 := by rw [← hr]; simp
  generalize w.alloc (.cells #[.string s, .bool false] 122) = WA at *
  rw [hr] at b0 ⊢
  have HR := Lib.hid hr
  clear hr
  refine (new_any WA).mono ?_
  rintro e W1 ⟨u, rfl, hT1, hb1⟩
  rw [hzA] at hT1 hb1
  have hA1 : RdA W1 r s := (hb1.block r (by omega)).trans hA0
  have b1 := b0.trans (hb1.mono (Nat.le_succ r))
  go_wp2_with fail
  refine (rshort_any r m s (tlS nd 0 m) W1 hA1 (by omega) HSL.out).mono ?_
  rintro e W2 ⟨rfl, hA2, hK2⟩
  have hT2 := hT1.rd hK2 (Nat.lt_succ_self r)
  have b2 := b1.trans (hK2.below (Nat.le_refl r))
  have hz2 : r + 1 ≤ W2.heap.size := by have := hb1.size; have := hK2.size; omega
  clear hA0 hA1 hT1 hK2 hb1 b1 b0
  go_wp2_with fail
  have hroot : rootN = nd.take (0 + 1) := by
    have h0 := HWF.out.root
    have hl := (List.getElem?_eq_some_iff.1 h0).1
    rw [List.getElem?_eq_getElem hl] at h0
    rw [List.take_succ_eq_append_getElem hl, Option.some.inj h0]
    rfl
  rw [hroot] at hT2
  go_loopw [6] (fun t wr => ∃ k : Nat, t = .int .i64 ((m : Int) - k) ∧ k ≤ m ∧ r + 1 ≤ wr.heap.size ∧ Hid (RdA wr r (bts (tlS nd k (m - k))) ∧ Tr wr (r + 1) u (nd.take (k + 1)) ∧ Below r w wr)) (fun t _ => (intOf t).toNat)
  case atStart => exact ⟨0, by simp, by omega, hz2, Lib.hid ⟨hA2, hT2, b2⟩⟩
  case round =>
    obtain ⟨k, rfl, hk, hzr, HW⟩ := hrel
    obtain ⟨hA, hT, hb⟩ := HW.out
    obtain ⟨_, cb, _⟩ := hA.cells
    generalize hV : wr = V at *
    clear hV
    by_cases hlt : k < m
    · have hlt' : (0 : Int) < (m : Int) - (k : Int) := by omega
      obtain ⟨x, hx⟩ : ∃ x, nd[k + 1]? = some x := ⟨_, List.getElem?_eq_getElem (by rw [HM.out]; omega)⟩
      have hup := HWF.out.up (k + 1) x (by omega) hx
      have hmay := HWF.out.good (k + 1) x (by omega) hx
      obtain ⟨m1, m2, m3, m4⟩ := may_bounds hmay
      have hins := ins_take HWF.out hx
      have hstk : (stk (nd.take (k + 1)) x.1).length < 64 := by
        rw [stk_take HWF.out (k + 1) x.1 (by omega) hup (by rw [HM.out]; omega)]
        have h1 := HDP.out (k + 1) (by rw [HM.out]; omega)
        rw [stk_step HWF.out (by omega) hx, List.length_append] at h1
        simp at h1
        omega
      have htl : (nd.take (k + 1)).length = k + 1 := by rw [List.length_take, HM.out]; omega
      obtain ⟨L4, hL4⟩ : ∃ L, tlS nd (k + 1) (m - (k + 1)) = L := ⟨_, rfl⟩
      have hrest : tlS nd k (m - k) = sh (k + 1 - x.1) ++ (sh x.2.1.size ++ (x.2.1.data.toList ++ (sh x.2.2.toNat ++ L4))) := by
        rw [show m - k = (m - (k + 1)) + 1 by omega, tlS_cons, tlJ_at hx, hL4, tlP]
        simp only [List.append_assoc]
      rw [hrest] at hA
      have HL4 := Lib.hid hL4
      clear hrest hL4 hx
      obtain ⟨par, nm, ln⟩ := x
      simp only at hup hmay m1 m2 m3 m4 hins hstk hA
      obtain ⟨c, rfl⟩ : ∃ c : Nat, ln = (c : Int) := ⟨ln.toNat, by omega⟩
      rw [Int.toNat_natCast] at hA
      obtain ⟨q, hq⟩ : ∃ q, k + 1 - par = q := ⟨_, rfl⟩
      rw [hq] at hA
      have hq2 : ((k : Int) + 1 - (q : Int)) = (par : Int) := by omega
      have K64 := Lib.hid (fun (i : Int) (hi : i = (par : Int)) (W : World) (hTW : Tr W (r + 1) u (nd.take (k + 1))) (h1 : r + 1 ≤ W.heap.size) => by
        have := push_any u (r + 1) par (nd.take (k + 1)) (nm, (c : Int)) W hTW (by rw [htl]; omega) hmay hstk (by rw [htl]; omega) h1
        rw [hins, ← hi] at this
        exact this)
      have h35 := len_any u (r + 1) (nd.take (k + 1)) V hT
      rw [htl] at h35
      clear hins hstk htl hmay
      go_wp2_with fail
      refine h35.mono ?_
      rintro e Wq ⟨rfl, hWq⟩
      subst hWq
      go_wp2_with fail
      refine (rshort_any r q _ _ V hA (by omega) (bts_list _)).mono ?_
      rintro e W3 ⟨rfl, hA3, hK3⟩
      have hT3 := hT.rd hK3 (Nat.lt_succ_self r)
      have b3 := hb.trans (hK3.below (Nat.le_refl r))
      have z3 : r + 1 ≤ W3.heap.size := by rw [hK3.size]; exact hzr
      clear hA hT hb hK3 cb h35
      go_wp2_with fail
      refine (rshort_any r nm.size _ _ W3 hA3 (by omega) (bts_list _)).mono ?_
      rintro e W4 ⟨rfl, hA4, hK4⟩
      have hT4 := hT3.rd hK4 (Nat.lt_succ_self r)
      have b4 := b3.trans (hK4.below (Nat.le_refl r))
      have z4 : r + 1 ≤ W4.heap.size := by rw [hK4.size]; exact z3
      clear hA3 hT3 b3 hK4
      go_wp2_with fail
      refine (take_front r nm.size nm.data.toList _ W4 hA4 (by simp)).mono ?_
      rintro e W5 ⟨rfl, hA5, hK5⟩
      rw [bts_back]
      have hT5 := hT4.rd hK5 (Nat.lt_succ_self r)
      have b5 := b4.trans (hK5.below (Nat.le_refl r))
      have z5 : r + 1 ≤ W5.heap.size := by rw [hK5.size]; exact z4
      clear hA4 hT4 b4 hK5
      go_wp2_with fail
      refine (rshort_any r c _ _ W5 hA5 (by omega) (bts_list _)).mono ?_
      rintro e W6 ⟨rfl, hA6, hK6⟩
      have hT6 := hT5.rd hK6 (Nat.lt_succ_self r)
      have b6 := b5.trans (hK6.below (Nat.le_refl r))
      have z6 : r + 1 ≤ W6.heap.size := by rw [hK6.size]; exact z5
      clear hA5 hT5 b5 hK6
      go_wp2_with fail
      refine (K64.out _ (by omega) W6 hT6 z6).mono ?_
      rintro e W7 ⟨rfl, hT7, _, hb7⟩
      have hA7 : RdA W7 r _ := (hb7.block r (Nat.lt_succ_self r)).trans hA6
      have b7 := b6.trans (hb7.mono (Nat.le_succ r))
      have z7 : r + 1 ≤ W7.heap.size := Nat.le_trans z6 hb7.size
      rw [← HL4.out] at hA7
      clear hA6 hT6 b6 hb7 K64
      simp only
      go_wp2_with fail
      go_roundw
      case rel => exact ⟨k + 1, by go_num, by omega, z7, Lib.hid ⟨hA7, hT7, b7⟩⟩
      case measure => simp [intOf]; omega
    · have hlt' : ¬ (0 : Int) < (m : Int) - (k : Int) := by omega
      have hkm : k = m := by omega
      subst hkm
      have htk : nd.take (k + 1) = nd := List.take_of_length_le (Nat.le_of_eq HM.out)
      rw [htk] at hT
      go_wp2_with fail
      refine (told_any u (r + 1) nd V hT).mono ?_
      rintro e W9 ⟨rfl, hb9⟩
      have hT9 := hT.below hb9
      have z9 := hb9.size
      rw [HSE.out]
      go_wp2_with fail
      go_ret2
      exact ⟨r + 1, u, rfl, by rw [HR.out]; omega, by omega, hT9, by rw [HR.out]; exact hb.trans (hb9.mono (by omega))⟩
end Go.Proofs.YtocdinaomkmcbaaDoor

namespace Go.Proofs.YtocdinaomkmcbaaDoor
open Go.ChangeShapes Go.WideShapes Go.ChangeAt Go.RowKit Go.Shelf
set_option linter.unusedVariables false

/-- No stack has more than 64 places. -/
def Dp (nd : List Nd) : Prop := ∀ n, n < nd.length → (stk nd n).length ≤ 64
theorem dp_root : Dp rootN := fun n hn => by
  have : n = 0 := by simp [rootN] at hn; omega
  subst this
  rw [stk_zero]
  simp
theorem ins_dp {nd : List Nd} {n : Nat} {p : Pl} (h : Wf nd) (hd : Dp nd) (hn : n < nd.length) (hm : may p = true) (h6 : (stk nd n).length < 64) : Dp (insN nd n p).2 := by
  obtain ⟨a1, a2, ⟨e, a3⟩, a4, a5⟩ := insN_ok h hn hm
  intro k hk
  by_cases hkl : k < nd.length
  · rw [a3] at a1 ⊢
    rw [stk_ext h e a1 k hkl]
    exact hd k hkl
  · have h1 : k = nd.length := by omega
    have h2 : (insN nd n p).2.length = nd.length + 1 := by omega
    have h3 : (insN nd n p).1 = k := by
      unfold insN at h2 ⊢
      cases hs : seekN nd (n, p) with
      | some i => rw [hs] at h2; simp at h2
      | none => simp [h1]
    rw [← h3, a5, List.length_append]
    simp
    omega
theorem add_dp : ∀ (l : List Pl) (nd : List Nd) (n : Nat), Wf nd → Dp nd → n < nd.length → (∀ p ∈ l, may p = true) → (stk nd n).length + l.length ≤ 64 → Dp (addN nd n l).2 := by
  intro l
  induction l with
  | nil => intro nd n _ hd _ _ _; exact hd
  | cons p l ih =>
    intro nd n h hd hn hm h6
    obtain ⟨a1, a2, _, _, a5⟩ := insN_ok h hn (hm p (by simp))
    simp only [List.length_cons] at h6
    exact ih _ _ a1 (ins_dp h hd hn (hm p (by simp)) (by omega)) a2 (fun q hq => hm q (by simp [hq])) (by rw [a5, List.length_append]; simp; omega)
/-- What adding a stack leaves. -/
structure Add1 (nd : List Nd) (l : List Pl) (n : Nat) (nd' : List Nd) : Prop where
  wf : Wf nd'
  dp : Dp nd'
  lt : n < nd'.length
  ext : ∃ e, nd' = nd ++ e
  few : nd'.length ≤ nd.length + 64
  at_ : stk nd' n = l
theorem add1 {nd : List Nd} {l : List Pl} (h : Wf nd) (hd : Dp nd) (hc : chk l = 0) : Add1 nd l (addN nd 0 l).1 (addN nd 0 l).2 := by
  obtain ⟨hm, h64⟩ := chk_ok.1 hc
  obtain ⟨a1, a2, a3, a4, a5⟩ := addN_ok l nd 0 h h.pos hm
  exact ⟨a1, add_dp l nd 0 h hd h.pos hm (by rw [stk_zero]; simpa using h64), a2, a3, by omega, by rw [a5, stk_zero]; rfl⟩
theorem add_twice {nd nd1 nd2 : List Nd} {l : List Pl} {n k : Nat} (h1 : Add1 nd l n nd1) (h2 : Add1 nd1 l k nd2) : n = k ∧ stk nd2 n = l ∧ n < nd2.length := by
  obtain ⟨e, he⟩ := h2.ext
  have hw := h2.wf
  have hn : n < nd2.length := by rw [he, List.length_append]; have := h1.lt; omega
  have hs : stk nd2 n = l := by
    rw [he] at hw ⊢
    rw [stk_ext h1.wf e hw n h1.lt]
    exact h1.at_
  exact ⟨stk_inj h2.wf n k hn h2.lt (by rw [hs, h2.at_]), hs, hn⟩

theorem Tr.row {W W' : World} {lo a : Nat} {nd : List Nd} (h : Tr W lo a nd) {B e s n : Nat} {v : Value} {xs : List Value} (ho : W.ownsRow B e s v n xs) (h1 : e ≠ 137) (h2 : e ≠ 140) (hg : W.grownBy W' v.ownBlock) : Tr W' lo a nd := by
  obtain ⟨g1, g2, ⟨gn, cn, bm, D, x1, x2, x3, x4, x5⟩, g3⟩ := h
  refine ⟨g1, g2, ⟨gn, cn, bm, D, ?_, keep_other x2 ho (fun e' => h2 e'.symm) hg, x3.kept hg ?_, x4, x5⟩, g3⟩
  · refine (hg.block a (Array.getElem?_eq_some_iff.1 x1).1 (fun e' => ?_)).trans x1
    rcases ho.2 with ⟨rfl, _⟩ | ⟨g, cap, cur, rfl, _, hb, _⟩
    · cases e'
    · cases e'
      rw [x1] at hb
      cases hb
      exact h1 rfl
  · exact fun e' => map_apart x3 ho e'.symm
/-- The rows that the first loop has made: of each list its places and its node. -/
structure LI (W : World) (lo a : Nat) (ls : List (List Pl)) (nd : List Nd) (v4 v5 : Value) (vs : List Value) (ns : List Nat) : Prop where
  tr : Tr W lo a nd
  dp : Dp nd
  r4 : W.ownsRow lo 23 1 v4 ls.length vs
  r5 : W.ownsRow lo 3 1 v5 ls.length (ns.map fun (n : Nat) => Value.int .i64 (n : Int))
  lv : vs.length = ls.length
  ln : ns.length = ls.length
  each : ∀ (i : Nat) (l : List Pl), ls[i]? = some l → chk l = 0 ∧ ∃ (n : Nat) (v : Value), ns[i]? = some n ∧ vs[i]? = some v ∧ n < nd.length ∧ stk nd n = l ∧ W.ownsRow lo 48 2 v l.length (flat l)
theorem LI.below {W W' : World} {lo a : Nat} {ls : List (List Pl)} {nd : List Nd} {v4 v5 : Value} {vs : List Value} {ns : List Nat} (h : LI W lo a ls nd v4 v5 vs ns) (hb : Below W.heap.size W W') : LI W' lo a ls nd v4 v5 vs ns :=
  ⟨h.tr.below hb, h.dp, own_below h.r4 hb, own_below h.r5 hb, h.lv, h.ln, fun i l hl => by
    obtain ⟨c, n, v, x1, x2, x3, x4, x5⟩ := h.each i l hl
    exact ⟨c, n, v, x1, x2, x3, x4, own_below x5 hb⟩⟩
theorem LI.only {W W' : World} {lo a : Nat} {ls : List (List Pl)} {nd nd' : List Nd} {v4 v5 : Value} {vs : List Value} {ns : List Nat} (h : LI W lo a ls nd v4 v5 vs ns) (ho : Only W W') (ht : Tr W' lo a nd') (hd : Dp nd') (he : ∃ e, nd' = nd ++ e) : LI W' lo a ls nd' v4 v5 vs ns :=
  ⟨ht, hd, own_only h.r4 ho (by decide) (by decide), own_only h.r5 ho (by decide) (by decide), h.lv, h.ln, fun i l hl => by
    obtain ⟨c, n, v, x1, x2, x3, x4, x5⟩ := h.each i l hl
    obtain ⟨e, rfl⟩ := he
    exact ⟨c, n, v, x1, x2, by rw [List.length_append]; omega, by rw [stk_ext h.tr.wf e ht.wf n x3]; exact x4, own_only x5 ho (by decide) (by decide)⟩⟩
theorem LI.push {W W' : World} {lo a n : Nat} {l : List Pl} {ls : List (List Pl)} {nd : List Nd} {v v4 v5 v4' v5' : Value} {vs : List Value} {ns : List Nat} (h : LI W lo a ls nd v4 v5 vs ns) (h7 : W.ownsRow lo 48 2 v l.length (flat l)) (hc : chk l = 0) (hn : n < nd.length) (hs : stk nd n = l)
    (ht : Tr W' lo a nd) (hk : ∀ (u : Value) (m : Nat) (xs : List Value), W.ownsRow lo 48 2 u m xs → W'.ownsRow lo 48 2 u m xs)
    (r4 : W'.ownsRow lo 23 1 v4' (ls.length + 1) (vs ++ [v])) (r5 : W'.ownsRow lo 3 1 v5' (ls.length + 1) ((ns.map fun (n : Nat) => Value.int .i64 (n : Int)) ++ [.int .i64 (n : Int)])) :
    LI W' lo a (ls ++ [l]) nd v4' v5' (vs ++ [v]) (ns ++ [n]) := by
  refine ⟨ht, h.dp, by rw [List.length_append]; exact r4, by rw [List.length_append, List.map_append]; exact r5, by simp [h.lv], by simp [h.ln], fun i l' hl => ?_⟩
  by_cases hi : i < ls.length
  · rw [List.getElem?_append_left hi] at hl
    obtain ⟨c, k, u, x1, x2, x3, x4, x5⟩ := h.each i l' hl
    exact ⟨c, k, u, by rw [List.getElem?_append_left (by rw [h.ln]; exact hi)]; exact x1, by rw [List.getElem?_append_left (by rw [h.lv]; exact hi)]; exact x2, x3, x4, hk _ _ _ x5⟩
  · have hl2 := (List.getElem?_eq_some_iff.1 hl).1
    rw [List.length_append] at hl2
    have hi2 : i = ls.length := by simp at hl2; omega
    subst hi2
    rw [List.getElem?_append_right (Nat.le_refl _), Nat.sub_self] at hl
    simp at hl
    subst hl
    exact ⟨hc, n, v, by rw [List.getElem?_append_right (by rw [h.ln]; exact Nat.le_refl _), h.ln, Nat.sub_self]; rfl, by rw [List.getElem?_append_right (by rw [h.lv]; exact Nat.le_refl _), h.lv, Nat.sub_self]; rfl, hn, hs, hk _ _ _ h7⟩
theorem own_base9 {W : World} {B B' e s n : Nat} {v : Value} {xs : List Value} (h : W.ownsRow B e s v n xs) (hb : B' ≤ B) : W.ownsRow B' e s v n xs := by
  refine ⟨h.1, ?_⟩
  rcases h.2 with hn | ⟨g, cap, cur, h1, h2, rest⟩
  · exact .inl hn
  · exact .inr ⟨g, cap, cur, h1, by omega, rest⟩
/-- A row as a source. -/
theorem row_src {W : World} {B e s n : Nat} {v : Value} {xs : List Value} (h : W.ownsRow B e s v n xs) : ∃ (A : Option Addr) (c : Nat), v = .slice A n c ∧ (A = none → n = 0 ∧ c = 0) ∧ (∀ ad, A = some ad → ∀ j u, xs[j]? = some u → W.cell? (ad.add j) = some u) := by
  rcases h.2 with ⟨h1, h2⟩ | ⟨g, cap, cur, h1, _⟩
  · exact ⟨none, 0, by rw [h1, h2], fun _ => ⟨h2, rfl⟩, fun ad h' => by cases h'⟩
  · refine ⟨some ⟨g, 0, none⟩, cap, h1, fun h' => (by cases h'), fun ad h' j u hu => ?_⟩
    cases h'
    have := h.cells (g := g) (by rw [h1]; rfl) j u hu
    simpa using this
/-- Lists of places as they lie. -/
def AtL (w : World) (A : Option Addr) (ls : List (List Pl)) : Prop := ∀ (i : Nat) (l : List Pl), ls[i]? = some l → ∃ g o Ai ci, A = some ⟨g, o, none⟩ ∧ w.cell? ⟨g, o + i, none⟩ = some (.slice Ai l.length ci) ∧ At w Ai l ∧ l.length ≤ 5864062014634 ∧ ∀ p ∈ l, p.1.size ≤ maxLen
theorem info23 : (Tryd.prog.info? 23).map (fun i => (i.zero, i.size, i.bytes)) = some (some (.slice none 0 0), 1, 24) := by kernel_rfl
theorem info3 : (Tryd.prog.info? 3).map (fun i => (i.zero, i.size, i.bytes)) = some (some (.int .i64 0), 1, 8) := by kernel_rfl
theorem flat_one (l : List Pl) : ∀ u ∈ flat l, u.oneCell' = true := by
  intro u hu
  obtain ⟨p, _, hp⟩ := List.mem_flatMap.1 hu
  simp [cel] at hp
  rcases hp with rfl | rfl <;> rfl
end Go.Proofs.YtocdinaomkmcbaaDoor
