/-
  Trees: their mathematics, and Push and Add, walked.
-/
import Derived.Test.YtocdinaomkmcbaaDoorFD
import Derived.Test.YtocdinaomkmcbaaDoorZ
import Derived.Test.YtocdinaomkmcbaaDoorUC
import Derived.Maps.OwnSet
import Derived.DeepKeys4
import Derived.BigQuiet
import Derived.IntWalk
import Derived.Test.YtocdinaomkmcbaaDoorL3
import Derived.Deep.RegionLaw
import Derived.Deep.DrawnRows
namespace Go.Proofs.YtocdinaomkmcbaaDoor
open Go.ChangeShapes Go.WideShapes Go.ChangeAt Go.RowKit
set_option linter.unusedVariables false

/-- A node: its parent's number and its place; the node 0 is the empty stack. -/
abbrev Nd := Nat × Pl
def stkF (nd : List Nd) : Nat → Nat → List Pl
  | 0, _ => []
  | f + 1, n => if n = 0 then [] else match nd[n]? with
    | some x => stkF nd f x.1 ++ [x.2]
    | none => []
/-- A node's stack. -/
def stk (nd : List Nd) (n : Nat) : List Pl := stkF nd n n
structure Wf (nd : List Nd) : Prop where
  pos : 1 ≤ nd.length
  root : nd[0]? = some (0, (ByteArray.empty, 0))
  up : ∀ (i : Nat) (x : Nd), 1 ≤ i → nd[i]? = some x → x.1 < i
  good : ∀ (i : Nat) (x : Nd), 1 ≤ i → nd[i]? = some x → may x.2 = true
  one : ∀ (i j : Nat) (x : Nd), 1 ≤ i → 1 ≤ j → nd[i]? = some x → nd[j]? = some x → i = j
theorem stkF_enough {nd : List Nd} (h : Wf nd) : ∀ (n f : Nat), n ≤ f → stkF nd f n = stkF nd n n := by
  intro n
  induction n using Nat.strongRecOn with
  | ind n ih =>
    intro f hf
    cases n with
    | zero => cases f <;> simp [stkF]
    | succ n =>
      cases f with
      | zero => omega
      | succ f =>
        simp only [stkF, Nat.succ_ne_zero, if_false]
        cases hx : nd[n + 1]? with
        | none => rfl
        | some x =>
          have hu := h.up (n + 1) x (by omega) hx
          simp only
          rw [ih x.1 hu f (by omega), ih x.1 hu n (by omega)]
theorem stk_zero (nd : List Nd) : stk nd 0 = [] := rfl
theorem stk_step {nd : List Nd} (h : Wf nd) {n : Nat} {x : Nd} (hn : 1 ≤ n) (hx : nd[n]? = some x) : stk nd n = stk nd x.1 ++ [x.2] := by
  cases n with
  | zero => omega
  | succ n =>
    have hu := h.up (n + 1) x hn hx
    unfold stk
    simp only [stkF, Nat.succ_ne_zero, if_false, hx]
    rw [stkF_enough h x.1 n (by omega)]
theorem stk_empty {nd : List Nd} (h : Wf nd) {n : Nat} (hn : n < nd.length) (he : stk nd n = []) : n = 0 := by
  rcases Nat.eq_zero_or_pos n with h0 | h0
  · exact h0
  · obtain ⟨x, hx⟩ : ∃ x, nd[n]? = some x := ⟨_, List.getElem?_eq_getElem hn⟩
    rw [stk_step h h0 hx] at he
    simp at he
theorem stk_inj {nd : List Nd} (h : Wf nd) : ∀ (m n : Nat), m < nd.length → n < nd.length → stk nd m = stk nd n → m = n := by
  intro m
  induction m using Nat.strongRecOn with
  | ind m ih =>
    intro n hm hn he
    rcases Nat.eq_zero_or_pos m with h0 | h0
    · subst h0
      rw [stk_zero] at he
      exact (stk_empty h hn he.symm).symm
    · obtain ⟨x, hx⟩ : ∃ x, nd[m]? = some x := ⟨_, List.getElem?_eq_getElem hm⟩
      have hxu := h.up m x h0 hx
      rcases Nat.eq_zero_or_pos n with h1 | h1
      · subst h1
        rw [stk_zero] at he
        exact stk_empty h hm he
      · obtain ⟨y, hy⟩ : ∃ y, nd[n]? = some y := ⟨_, List.getElem?_eq_getElem hn⟩
        have hyu := h.up n y h1 hy
        rw [stk_step h h0 hx, stk_step h h1 hy] at he
        have h2 := List.append_inj_left' he rfl
        have h3 := List.append_inj_right' he rfl
        simp only [List.cons.injEq, and_true] at h3
        have h4 := ih x.1 hxu y.1 (by omega) (by omega) h2
        exact h.one m n x h0 h1 hx (by rw [hy, Prod.ext h4 h3])
/-- A stack's beginnings are stacks of nodes that are no greater. -/
theorem stk_up {nd : List Nd} (h : Wf nd) : ∀ (n k : Nat), n < nd.length → k ≤ (stk nd n).length → ∃ m, m ≤ n ∧ stk nd m = (stk nd n).take k ∧ (k < (stk nd n).length → m < n) := by
  intro n
  induction n using Nat.strongRecOn with
  | ind n ih =>
    intro k hn hk
    rcases Nat.eq_zero_or_pos n with h0 | h0
    · subst h0
      exact ⟨0, Nat.le_refl _, by rw [stk_zero]; simp, by rw [stk_zero]; simp⟩
    · obtain ⟨x, hx⟩ : ∃ x, nd[n]? = some x := ⟨_, List.getElem?_eq_getElem hn⟩
      have hxu := h.up n x h0 hx
      have hs := stk_step h h0 hx
      by_cases hkl : k = (stk nd n).length
      · exact ⟨n, Nat.le_refl _, by rw [hkl, List.take_length], by omega⟩
      · have hlen : (stk nd n).length = (stk nd x.1).length + 1 := by rw [hs]; simp
        obtain ⟨m, h1, h2, _⟩ := ih x.1 hxu k (by omega) (by omega)
        exact ⟨m, by omega, by rw [h2, hs, List.take_append_of_le_length (by omega)], fun _ => by omega⟩
/-- What two stacks have alike, when the greater node goes one up. -/
theorem cm_snoc {l m : List Pl} {p : Pl} (h : ¬ (∃ k, m.take k = l ++ [p])) : cm (l ++ [p]) m = cm l m := by
  induction l generalizing m with
  | nil =>
    cases m with
    | nil => simp [cm]
    | cons q m =>
      have : p ≠ q := fun e => h ⟨1, by simp [e]⟩
      simp [cm, this]
  | cons a l ih =>
    cases m with
    | nil => simp [cm]
    | cons q m =>
      simp only [List.cons_append, cm]
      by_cases ha : a = q
      · subst ha
        simp only [if_true]
        rw [ih (fun ⟨k, hk⟩ => h ⟨k + 1, by simp [hk]⟩)]
      · simp [ha]
theorem cm_sym : ∀ (l m : List Pl), cm l m = cm m l ∧ l.take (cm l m) = m.take (cm l m) := by
  intro l
  induction l with
  | nil => intro m; cases m <;> simp [cm]
  | cons a l ih =>
    intro m
    cases m with
    | nil => simp [cm]
    | cons b m =>
      simp only [cm]
      by_cases h : a = b
      · subst h
        have := ih m
        simp only [if_true]
        exact ⟨by rw [this.1], by rw [List.take_succ_cons, List.take_succ_cons, this.2]⟩
      · simp [h, Ne.symm h]
theorem cm_self : ∀ (l : List Pl), cm l l = l.length := by
  intro l
  induction l with
  | nil => simp [cm]
  | cons a l ih => simp [cm, ih]
theorem cm_up {nd : List Nd} (h : Wf nd) {a b : Nat} {x : Nd} (ha : a < nd.length) (hb : b < nd.length) (hab : b < a) (hx : nd[a]? = some x) : cm (stk nd a) (stk nd b) = cm (stk nd x.1) (stk nd b) := by
  have hs := stk_step h (by omega) hx
  rw [hs]
  refine cm_snoc ?_
  rintro ⟨k, hk⟩
  rw [← hs] at hk
  have hkl : k ≤ (stk nd b).length ∨ (stk nd b).length < k := by omega
  rcases hkl with hk1 | hk1
  · obtain ⟨m, h1, h2, _⟩ := stk_up h b k hb hk1
    have := stk_inj h m a (by omega) ha (by rw [h2, hk])
    omega
  · rw [List.take_of_length_le (by omega)] at hk
    have := stk_inj h b a hb ha hk
    omega
end Go.Proofs.YtocdinaomkmcbaaDoor

namespace Go.Proofs.YtocdinaomkmcbaaDoor
open Go.ChangeShapes Go.WideShapes Go.ChangeAt Go.RowKit Go.Shelf
open Go.Maps (Keyed)
set_option linter.unusedVariables false

def celN (x : Nd) : List Value := [.int .i64 (x.1 : Int), .string x.2.1, .int .i64 x.2.2]
def flatN (nd : List Nd) : List Value := nd.flatMap celN
theorem flatN_snoc (l : List Nd) (x : Nd) : flatN (l ++ [x]) = flatN l ++ celN x := by simp [flatN]
theorem flatN_length (l : List Nd) : (flatN l).length = l.length * 3 := by
  induction l with
  | nil => rfl
  | cons p l ih => simp only [flatN, List.flatMap_cons, List.length_append, List.length_cons] at ih ⊢; rw [ih]; simp [celN]; omega
theorem flatN_get : ∀ (l : List Nd) (i : Nat) (x : Nd), l[i]? = some x → (flatN l)[i * 3]? = some (.int .i64 (x.1 : Int)) ∧ (flatN l)[i * 3 + 1]? = some (.string x.2.1) ∧ (flatN l)[i * 3 + 2]? = some (.int .i64 x.2.2) := by
  intro l
  induction l with
  | nil => intro i p h; simp at h
  | cons q l ih =>
    intro i p h
    cases i with
    | zero =>
      simp at h
      subst h
      exact ⟨rfl, rfl, rfl⟩
    | succ i =>
      have := ih i p (by simpa using h)
      simp only [flatN, List.flatMap_cons, celN] at this ⊢
      rw [show (i + 1) * 3 = i * 3 + 1 + 1 + 1 by omega]
      simpa using this
theorem keyed140 : Keyed Tryd.prog 140 := Keyed.of_law (deep_law_laid laidOut (m := 5) (by decide) (by decide +kernel) (by kernel_rfl) (by kernel_rfl))
/-- A node as a key. -/
def keyV (k : Int) (p : Pl) : Value := .agg #[.int .i64 k, .string p.1, .int .i64 p.2]
def keyL (k : Int) (p : Pl) : Lit := .string (keyBytes [.int .i64 k, .string p.1.data.toList, .int .i64 p.2])
theorem wf_i64 {n : Int} (h0 : -9223372036854775808 ≤ n) (h1 : n ≤ 9223372036854775807) : (Lit.int .i64 n).wf = true := by
  have e1 : IntKind.i64.min = -9223372036854775808 := by decide
  have e2 : IntKind.i64.max = 9223372036854775807 := by decide
  simp [Lit.wf, e1, e2, h0, h1]
theorem keyL_is (k : Nat) (p : Pl) (hk : k ≤ 4096) (hp : may p = true) : keyOf Tryd.prog 140 (keyV k p) = some (keyL k p) := by
  obtain ⟨_, m2, m3, m4, _⟩ := may_iff.1 hp
  obtain ⟨m, hm⟩ : ∃ m, Tryd.prog.types.size = m + 2 := ⟨Tryd.prog.types.size - 2, by decide +kernel⟩
  have h1 : Tryd.prog.keyType 140 = true := by kernel_rfl
  have c140 : Tryd.prog.cellsOf 140 = 3 := by kernel_rfl
  have c48 : Tryd.prog.cellsOf 48 = 2 := by kernel_rfl
  have c3 : Tryd.prog.cellsOf 3 = 1 := by kernel_rfl
  have c9 : Tryd.prog.cellsOf 9 = 1 := by kernel_rfl
  have h2 : (keyV k p).formed Tryd.prog 140 = true := by simp [keyV, Value.formed, Tryd.underlying140, c140]
  have w1 : (Lit.int .i64 (k : Int)).wf = true := wf_i64 (by omega) (by omega)
  have w2 : (Lit.int .i64 p.2).wf = true := wf_i64 (by omega) (by omega)
  have w3 : p.1.size ≤ maxLen := by unfold maxLen; omega
  have hk : Tryd.prog.keyLits (Tryd.prog.types.size + 1) 140 (keyV k p).cells.toList = some [.int .i64 k, .string p.1.data.toList, .int .i64 p.2] := by
    rw [hm]
    simp (decide := true) [Program.keyLits, keyV, Value.cells, Tryd.underlying140, Tryd.underlying48, Tryd.underlying3, Tryd.underlying9, c140, c48, c3, c9, w1, w2, w3]
  unfold keyOf
  simp only [Tryd.underlying140, h1, h2, hk]
  rfl
theorem keyL_inj {k k' : Nat} {p p' : Pl} (hk : k ≤ 4096) (hp : may p = true) (hk' : k' ≤ 4096) (hp' : may p' = true) (h : keyL k p = keyL k' p') : k = k' ∧ p = p' := by
  have h1 := keyL_is k p hk hp
  have h2 := keyL_is k' p' hk' hp'
  rw [h] at h1
  have := keyed140.inj h1 h2
  simp only [keyV, Value.agg.injEq] at this
  simp at this
  exact ⟨by omega, Prod.ext this.2.1 this.2.2⟩
/-- What the map holds: each node but the first under its parent and its place, and nothing else. -/
def MapOf (nd : List Nd) (D : DataW Unit) : Prop :=
  Maps.IsMap D ∧ (∀ (i : Nat) (x : Nd), 1 ≤ i → nd[i]? = some x → ∀ z, D.atKey (keyL x.1 x.2) z = .lit (.int .i64 (i : Int))) ∧
  ∀ (k : Nat) (p : Pl), k ≤ 4096 → may p = true → (∀ i, 1 ≤ i → nd[i]? ≠ some (k, p)) → Maps.has D (keyL k p) = false
/-- A tree of the call's own. -/
structure Tr (W : World) (lo a : Nat) (nd : List Nd) : Prop where
  wf : Wf nd
  few : nd.length ≤ 4096
  ex : ∃ (gn cn bm : Nat) (D : DataW Unit), W.heap[a]? = some (.cells #[.slice (some ⟨gn, 0, none⟩) nd.length cn, .map (some bm)] 137 (0, 0)) ∧
    W.ownsRow lo 140 3 (.slice (some ⟨gn, 0, none⟩) nd.length cn) nd.length (flatN nd) ∧ W.ownsMap Tryd.prog 140 (plainElem Tryd.prog 3) bm nd.length D ∧ MapOf nd D ∧ lo ≤ bm
  lo : lo ≤ a
theorem Tr.lt {W : World} {lo a : Nat} {nd : List Nd} (h : Tr W lo a nd) : a < W.heap.size := by
  obtain ⟨gn, cn, bm, D, h1, _⟩ := h.ex
  exact (Array.getElem?_eq_some_iff.1 h1).1
theorem Tr.below {W W' : World} {lo a : Nat} {nd : List Nd} (h : Tr W lo a nd) (hb : Below W.heap.size W W') : Tr W' lo a nd := by
  have hlt := h.lt
  obtain ⟨h1, h2, ⟨gn, cn, bm, D, x1, x2, x3, x4, x5⟩, h3⟩ := h
  exact ⟨h1, h2, ⟨gn, cn, bm, D, by rw [hb.block a hlt]; exact x1, own_below x2 hb, x3.kept (row := none) ⟨hb.os, hb.tape, hb.output, hb.size, fun j hj _ => hb.block j hj⟩ (by simp), x4, x5⟩, h3⟩
/-- The cells that reading a tree reads. -/
theorem Tr.cells {W : World} {lo a : Nat} {nd : List Nd} (h : Tr W lo a nd) : ∃ gn cn, W.cell? ⟨a, 0, none⟩ = some (.slice (some ⟨gn, 0, none⟩) nd.length cn) ∧ nd.length ≤ cn ∧ ∀ (i : Nat) (x : Nd), nd[i]? = some x → W.cell? ⟨gn, i * 3, none⟩ = some (.int .i64 (x.1 : Int)) ∧ W.cell? ⟨gn, i * 3 + 1, none⟩ = some (.string x.2.1) ∧ W.cell? ⟨gn, i * 3 + 2, none⟩ = some (.int .i64 x.2.2) := by
  obtain ⟨h1, h2, ⟨gn, cn, bm, D, x1, x2, _⟩, h3⟩ := h
  refine ⟨gn, cn, ?_, ?_, fun i x hx => ?_⟩
  · rw [cell_of_row W a 0 _ 137 (0, 0) x1]; rfl
  · rcases x2.2 with ⟨h', _⟩ | ⟨g', cap', cur, h', _, _, h4, _⟩
    · simp at h'
    · simp only [Value.slice.injEq, Option.some.injEq, Addr.mk.injEq, and_true, true_and] at h'
      omega
  · have hi := (List.getElem?_eq_some_iff.1 hx).1
    obtain ⟨f0, f1, f2⟩ := flatN_get nd i x hx
    exact ⟨(x2.cellAt _ (by omega)).trans f0, (x2.cellAt _ (by omega)).trans f1, (x2.cellAt _ (by omega)).trans f2⟩

theorem len_any (a lo : Nat) (nd : List Nd) (w : World) (hT : Tr w lo a nd) :
    Calls Tryd.prog 35 #[.pointer (some ⟨a, 0, none⟩)] w fun e w' => e = .returned (.int .i64 nd.length) ∧ w = w' := by
  obtain ⟨gn, cn, c0, _, _⟩ := hT.cells
  clear hT
  go_enter Tryd.func35, Tryd.ntmps35
  go_wp2_with fail
  go_ret
  exact ⟨rfl, rfl⟩
theorem has_any (a lo : Nat) (nd : List Nd) (n : Int) (w : World) (hT : Tr w lo a nd) :
    Calls Tryd.prog 74 #[.pointer (some ⟨a, 0, none⟩), .int .i64 n] w fun e w' => e = .returned (.bool (decide (0 ≤ n ∧ n < nd.length))) ∧ w = w' := by
  have H := Lib.hid (len_any a lo nd w hT)
  clear hT
  by_cases h0 : 0 ≤ n
  · by_cases h1 : n < nd.length
    · have HD : Hid (decide (0 ≤ n ∧ n < nd.length) = true) := Lib.hid (decide_eq_true ⟨h0, h1⟩)
      generalize decide (0 ≤ n ∧ n < (nd.length : Int)) = d at *
      go_enter Tryd.func74, Tryd.ntmps74
      go_wp2_with fail
      refine H.out.mono ?_
      rintro e w1 ⟨rfl, rfl⟩
      go_wp2_with fail
      go_ret
      exact ⟨by rw [HD.out]; rfl, rfl⟩
    · have HD : Hid (decide (0 ≤ n ∧ n < nd.length) = false) := Lib.hid (decide_eq_false (fun h => h1 h.2))
      have h2 : decide (n < (nd.length : Int)) = false := decide_eq_false h1
      clear h1
      generalize decide (0 ≤ n ∧ n < (nd.length : Int)) = d at *
      go_enter Tryd.func74, Tryd.ntmps74
      go_wp2_with fail
      refine H.out.mono ?_
      rintro e w1 ⟨rfl, rfl⟩
      go_wp2_with fail
      go_ret
      exact ⟨by rw [HD.out]; rfl, rfl⟩
  · have HD : Hid (decide (0 ≤ n ∧ n < nd.length) = false) := Lib.hid (decide_eq_false (fun h => h0 h.1))
    generalize decide (0 ≤ n ∧ n < (nd.length : Int)) = d at *
    go_enter Tryd.func74, Tryd.ntmps74
    go_wp2_with fail
    go_ret
    exact ⟨by rw [HD.out]; rfl, rfl⟩
theorem parent_zero (a lo : Nat) (nd : List Nd) (w : World) :
    Calls Tryd.prog 69 #[.pointer (some ⟨a, 0, none⟩), .int .i64 0] w fun e w' => e = .returned (.tuple #[.int .i64 0, .bool false]) ∧ w = w' := by
  go_enter Tryd.func69, Tryd.ntmps69
  go_wp2_with fail
  go_ret2
  exact ⟨rfl, rfl⟩
theorem parent_any (a lo n : Nat) (nd : List Nd) (x : Nd) (w : World) (hT : Tr w lo a nd) (hn : 1 ≤ n) (hx : nd[n]? = some x) :
    Calls Tryd.prog 69 #[.pointer (some ⟨a, 0, none⟩), .int .i64 n] w fun e w' => e = .returned (.tuple #[.int .i64 x.1, .bool true]) ∧ w = w' := by
  have hh := has_any a lo nd n w hT
  have hlt := (List.getElem?_eq_some_iff.1 hx).1
  rw [decide_eq_true ⟨by omega, by omega⟩] at hh
  have H := Lib.hid hh
  obtain ⟨gn, cn, c0, _, hc⟩ := hT.cells
  obtain ⟨c1, c2, c3⟩ := hc n x hx
  have h0 : (0 : Int) ≤ (n : Int) := by omega
  have h1 : (n : Int) < (nd.length : Int) := by omega
  have h2 : ¬ (n : Int) = 0 := by omega
  have h3 : ((n : Int) == 0) = false := beq_eq_false_iff_ne.2 h2
  have h4 : decide (n = 0) = false := decide_eq_false (by omega)
  clear hh hT hc hx
  go_enter Tryd.func69, Tryd.ntmps69
  go_wp2_with fail
  refine H.out.mono ?_
  rintro e w1 ⟨rfl, rfl⟩
  go_wp2_with fail
  go_ret2
  exact ⟨rfl, rfl⟩
end Go.Proofs.YtocdinaomkmcbaaDoor

namespace Go.Proofs.YtocdinaomkmcbaaDoor
open Go.ChangeShapes Go.WideShapes Go.ChangeAt Go.RowKit Go.Shelf
open Go.Maps (Keyed)
set_option linter.unusedVariables false

theorem stk_len {nd : List Nd} (h : Wf nd) : ∀ n, n < nd.length → (stk nd n).length ≤ n := by
  intro n
  induction n using Nat.strongRecOn with
  | ind n ih =>
    intro hn
    rcases Nat.eq_zero_or_pos n with h0 | h0
    · subst h0; simp [stk_zero]
    · obtain ⟨x, hx⟩ : ∃ x, nd[n]? = some x := ⟨_, List.getElem?_eq_getElem hn⟩
      have hu := h.up n x h0 hx
      have := ih x.1 hu (by omega)
      rw [stk_step h h0 hx]
      simp; omega

set_option maxHeartbeats 1000000 in
theorem depth_any (a lo n : Nat) (nd : List Nd) (w : World) (hT : Tr w lo a nd) (hn : n < nd.length) :
    Calls Tryd.prog 41 #[.pointer (some ⟨a, 0, none⟩), .int .i64 n] w fun e w' => e = .returned (.int .i64 (stk nd n).length) ∧ w = w' := by
  have hwf := hT.wf
  have hfew := hT.few
  have K0 := Lib.hid (parent_zero a lo nd w)
  have K1 := Lib.hid (fun (m : Nat) (x : Nd) (h1 : 1 ≤ m) (h2 : nd[m]? = some x) => parent_any a lo m nd x w hT h1 h2)
  have HWF := Lib.hid hwf
  have hsl := stk_len hwf n hn
  clear hT hwf
  go_enter Tryd.func41, Tryd.ntmps41
  go_wp2_with fail
  go_loopw [1, 5] (fun t1 t5 wr => ∃ m d : Nat, t1 = .int .i64 m ∧ t5 = .int .i64 d ∧ m < nd.length ∧ Hid (d + (stk nd m).length = (stk nd n).length) ∧ wr = w) (fun t1 _ _ => (intOf t1).toNat)
  case atStart => exact ⟨n, 0, rfl, rfl, hn, Lib.hid (by omega), rfl⟩
  case round =>
    obtain ⟨m, d, rfl, rfl, hm, HD, rfl⟩ := hrel
    by_cases h0 : m = 0
    · subst h0
      have HF : Hid ((stk nd n).length = d) := Lib.hid (by have := HD.out; rw [stk_zero] at this; simp at this; omega)
      go_wp2_with fail
      refine K0.out.mono ?_
      rintro e w1 ⟨rfl, rfl⟩
      go_wp2_with fail
      go_ret
      exact ⟨by rw [HF.out]; rfl, by simp⟩
    · obtain ⟨x, hx⟩ : ∃ x, nd[m]? = some x := ⟨_, List.getElem?_eq_getElem hm⟩
      have hu := HWF.out.up m x (by omega) hx
      have H := Lib.hid (K1.out m x (by omega) hx)
      have HN : Hid (d + 1 + (stk nd x.1).length = (stk nd n).length) := Lib.hid (by have := HD.out; rw [stk_step HWF.out (by omega) hx] at this; simp at this; omega)
      have hd : d ≤ 4096 := by have := HD.out; omega
      clear hx HD
      generalize x.1 = y at *
      go_wp2_with fail
      refine H.out.mono ?_
      rintro e w1 ⟨rfl, rfl⟩
      go_wp2_with fail
      go_roundw
      case rel => exact ⟨y, d + 1, rfl, by go_num, by omega, HN, by simp⟩
      case measure => simp [intOf]; omega

theorem pre_up {nd : List Nd} (h : Wf nd) {a n : Nat} {x : Nd} (h0 : 1 ≤ n) (hx : nd[n]? = some x) (hp : stk nd n = (stk nd a).take (stk nd n).length) : stk nd x.1 = (stk nd a).take (stk nd x.1).length := by
  have hs := stk_step h h0 hx
  have h1 : (stk nd n).take (stk nd x.1).length = stk nd x.1 := by rw [hs]; simp
  have h4 : (stk nd n).length = (stk nd x.1).length + 1 := by rw [hs]; simp
  have h3 : stk nd x.1 = ((stk nd a).take (stk nd n).length).take (stk nd x.1).length := by rw [← hp]; exact h1.symm
  rw [List.take_take, Nat.min_eq_left (by omega)] at h3
  exact h3
/-- Where two nodes meet. -/
def Met (nd : List Nd) (a b m : Nat) : Prop := m < nd.length ∧ stk nd m = (stk nd a).take (cm (stk nd a) (stk nd b))

set_option maxHeartbeats 2000000 in
theorem meet_any (a lo x y : Nat) (nd : List Nd) (w : World) (hT : Tr w lo a nd) (hx : x < nd.length) (hy : y < nd.length) :
    Calls Tryd.prog 43 #[.pointer (some ⟨a, 0, none⟩), .int .i64 x, .int .i64 y] w fun e w' => ∃ m : Nat, e = .returned (.tuple #[.int .i64 m, .int .i64 0]) ∧ Hid (Met nd x y m) ∧ w = w' := by
  have hwf := hT.wf
  have hfew := hT.few
  have h1 := has_any a lo nd x w hT
  rw [decide_eq_true ⟨by omega, by omega⟩] at h1
  have h2 := has_any a lo nd y w hT
  rw [decide_eq_true ⟨by omega, by omega⟩] at h2
  have H1 := Lib.hid h1
  have H2 := Lib.hid h2
  have HWF := Lib.hid hwf
  obtain ⟨gn, cn, c0, hcn, hc⟩ := hT.cells
  have HC := Lib.hid hc
  clear hT hwf h1 h2 hc
  go_enter Tryd.func43, Tryd.ntmps43
  go_wp2_with fail
  refine H1.out.mono ?_
  rintro e w1 ⟨rfl, rfl⟩
  go_wp2_with fail
  refine H2.out.mono ?_
  rintro e w1 ⟨rfl, rfl⟩
  go_wp2_with fail
  go_loopw [1, 2] (fun t1 t2 wr => ∃ p q : Nat, t1 = .int .i64 p ∧ t2 = .int .i64 q ∧ p < nd.length ∧ q < nd.length ∧ Hid (cm (stk nd p) (stk nd q) = cm (stk nd x) (stk nd y)) ∧ Hid (stk nd p = (stk nd x).take (stk nd p).length) ∧ wr = w) (fun t1 t2 _ => (intOf t1).toNat + (intOf t2).toNat)
  case atStart => exact ⟨x, y, rfl, rfl, hx, hy, Lib.hid rfl, Lib.hid (by rw [List.take_length]), rfl⟩
  case round =>
    obtain ⟨p, q, rfl, rfl, hp, hq, HCM, HPR, rfl⟩ := hrel
    have hp0 : (0 : Int) ≤ (p : Int) := by omega
    have hq0 : (0 : Int) ≤ (q : Int) := by omega
    by_cases hpq : p = q
    · subst hpq
      have HM : Hid (Met nd x y p) := Lib.hid ⟨hp, by
        have := HCM.out
        rw [cm_self] at this
        rw [← this]
        exact HPR.out⟩
      clear HCM HPR HC
      go_wp2_with fail
      go_ret2
      exact ⟨p, rfl, HM, by simp⟩
    · have hne : ¬ (p : Int) = (q : Int) := by omega
      have hnb : ((p : Int) == (q : Int)) = false := beq_eq_false_iff_ne.2 hne
      have hnd : decide (p = q) = false := decide_eq_false hpq
      by_cases hgt : q < p
      · have hg1 : (q : Int) < (p : Int) := by omega
        have hg2 : (p : Int) < (nd.length : Int) := by omega
        obtain ⟨z, hz⟩ : ∃ z, nd[p]? = some z := ⟨_, List.getElem?_eq_getElem hp⟩
        obtain ⟨d0, _, _⟩ := HC.out p z hz
        have hu := HWF.out.up p z (by omega) hz
        have HN1 : Hid (cm (stk nd z.1) (stk nd q) = cm (stk nd x) (stk nd y)) := Lib.hid (by rw [← cm_up HWF.out hp hq hgt hz]; exact HCM.out)
        have HN2 := Lib.hid (pre_up HWF.out (by omega) hz HPR.out)
        clear hz HCM HPR
        generalize z.1 = z1 at *
        go_wp2_with fail
        go_roundw
        case rel => exact ⟨z1, q, rfl, rfl, by omega, hq, HN1, HN2, by simp⟩
        case measure => simp [intOf]; omega
      · have hg1 : ¬ (q : Int) < (p : Int) := by omega
        have hg2 : (q : Int) < (nd.length : Int) := by omega
        obtain ⟨z, hz⟩ : ∃ z, nd[q]? = some z := ⟨_, List.getElem?_eq_getElem hq⟩
        obtain ⟨d0, _, _⟩ := HC.out q z hz
        have hu := HWF.out.up q z (by omega) hz
        have HN1 : Hid (cm (stk nd p) (stk nd z.1) = cm (stk nd x) (stk nd y)) := Lib.hid (by
          rw [(cm_sym _ _).1, ← cm_up HWF.out hq hp (by omega) hz, (cm_sym _ _).1]; exact HCM.out)
        clear hz HCM
        generalize z.1 = z1 at *
        go_wp2_with fail
        go_roundw
        case rel => exact ⟨p, z1, rfl, rfl, hp, by omega, HN1, HPR, by simp⟩
        case measure => simp [intOf]; omega
def rootN : List Nd := [(0, (ByteArray.empty, 0))]
theorem root_wf : Wf rootN := ⟨by simp [rootN], rfl, fun i x h1 h2 => by
    have := (List.getElem?_eq_some_iff.1 h2).1
    simp [rootN] at this; omega, fun i x h1 h2 => by
    have := (List.getElem?_eq_some_iff.1 h2).1
    simp [rootN] at this; omega, fun i j x h1 h3 h2 => by
    have := (List.getElem?_eq_some_iff.1 h2).1
    simp [rootN] at this; omega⟩
theorem root_map : MapOf rootN (.map []) := ⟨Maps.isMap_empty, fun i x h1 h2 => by
    have := (List.getElem?_eq_some_iff.1 h2).1
    simp [rootN] at this; omega, fun k p _ _ _ => rfl⟩
theorem info140 : (Tryd.prog.info? 140).map (fun i => (i.zero, i.size, i.bytes)) = some (some (.agg #[.int .i64 0, .string ByteArray.empty, .int .i64 0]), 3, 32) := by kernel_rfl
set_option maxRecDepth 100000 in
theorem new_any (w : World) :
    Calls Tryd.prog 39 #[] w fun e w' => ∃ a, e = .returned (.pointer (some ⟨a, 0, none⟩)) ∧ Tr w' w.heap.size a rootN ∧ Below w.heap.size w w' := by
  obtain ⟨i0, hi0, hz0, hz1, hz2⟩ := info_parts info140
  have hmm := @run_makeMap Tryd.prog
  go_enter Tryd.func39, Tryd.ntmps39
  go_wp2_with (at_make; refine wpList_make_full _ rfl _ _ 134 rfl w.heap.size 140 i0 _ 3 Tryd.underlying134 hi0 hz0 hz1 .i64 .i64 1 1 1 rfl rfl rfl rfl (by simp [hz2]) (by unfold maxLen; omega) (by omega) ?_; intro w1 hown1 hgrow1)
  have hz := hgrow1.size
  have hb1 : Below w.heap.size w w1 := ⟨hgrow1.os, hgrow1.tape, hgrow1.output, hgrow1.size, fun j hj => hgrow1.block j hj (by simp)⟩
  have hrow : (madeCells (Value.agg #[.int .i64 0, .string ByteArray.empty, .int .i64 0]).cells (1 * 3)).toList = flatN rootN := by kernel_rfl
  rw [hrow] at hown1
  go_ret
  refine ⟨w1.heap.size + 1, by simp, ⟨root_wf, by simp [rootN], ⟨w.heap.size, 1, w1.heap.size, .map [], ?_, ?_, ?_, root_map, hz⟩, by omega⟩, ?_⟩
  · have := heap_alloc_new (w1.alloc (.map #[] 0)) (.cells #[.slice (some ⟨w.heap.size, 0, none⟩) 1 1, .map (some w1.heap.size)] 137)
    simpa [rootN] using this
  · exact (hown1.alloc _).alloc _
  · exact ((World.ownsMap_made w1 Tryd.prog 140 (plainElem Tryd.prog 3)).alloc _).mono (by simp)
  · exact (hb1.alloc hz _).alloc (by simp; omega) _
end Go.Proofs.YtocdinaomkmcbaaDoor

namespace Go.Proofs.YtocdinaomkmcbaaDoor
open Go.ChangeShapes Go.WideShapes Go.ChangeAt Go.RowKit Go.Shelf
open Go.Maps (Keyed)
set_option linter.unusedVariables false

/-- The number of a node under that parent, at that place, if there is one. -/
def seekN (nd : List Nd) (x : Nd) : Option Nat := (List.range nd.length).find? fun i => decide (1 ≤ i ∧ nd[i]? = some x)
theorem seek_some {nd : List Nd} {x : Nd} {i : Nat} (h : seekN nd x = some i) : 1 ≤ i ∧ nd[i]? = some x ∧ i < nd.length := by
  have h1 := List.find?_some h
  have h2 := List.mem_of_find?_eq_some h
  simp only [decide_eq_true_eq] at h1
  exact ⟨h1.1, h1.2, List.mem_range.1 h2⟩
theorem seek_none {nd : List Nd} {x : Nd} (h : seekN nd x = none) : ∀ i, 1 ≤ i → nd[i]? ≠ some x := by
  intro i hi he
  have hl := (List.getElem?_eq_some_iff.1 he).1
  have := List.find?_eq_none.1 h i (List.mem_range.2 hl)
  simp only [decide_eq_true_eq] at this
  exact this ⟨hi, he⟩
theorem wf_snoc {nd : List Nd} {x : Nd} (h : Wf nd) (hx : x.1 < nd.length) (hm : may x.2 = true) (hn : ∀ i, 1 ≤ i → nd[i]? ≠ some x) : Wf (nd ++ [x]) := by
  have get : ∀ (i : Nat) (y : Nd), (nd ++ [x])[i]? = some y → (i < nd.length ∧ nd[i]? = some y) ∨ (i = nd.length ∧ y = x) := fun i y hy => by
    by_cases hi : i < nd.length
    · rw [List.getElem?_append_left hi] at hy; exact .inl ⟨hi, hy⟩
    · have := (List.getElem?_eq_some_iff.1 hy).1
      simp at this
      have hil : i = nd.length := by omega
      subst hil
      rw [List.getElem?_append_right (Nat.le_refl _), Nat.sub_self] at hy
      simp at hy
      exact .inr ⟨rfl, hy.symm⟩
  refine ⟨by simp, ?_, fun i y hi hy => ?_, fun i y hi hy => ?_, fun i j y hi hj h1 h2 => ?_⟩
  · rw [List.getElem?_append_left h.pos]; exact h.root
  · rcases get i y hy with ⟨_, h1⟩ | ⟨rfl, rfl⟩
    · exact h.up i y hi h1
    · exact hx
  · rcases get i y hy with ⟨_, h1⟩ | ⟨rfl, rfl⟩
    · exact h.good i y hi h1
    · exact hm
  · rcases get i y h1 with ⟨_, a1⟩ | ⟨a1, a2⟩ <;> rcases get j y h2 with ⟨_, b1⟩ | ⟨b1, b2⟩
    · exact h.one i j y hi hj a1 b1
    · subst b2; exact absurd a1 (hn i hi)
    · subst a2; exact absurd b1 (hn j hj)
    · omega
theorem key_lit (k : Int) (p : Pl) : WideAt.IsKeyLit (keyL k p) := by
  unfold keyL WideAt.IsKeyLit
  trivial
theorem map_snoc {nd : List Nd} {x : Nd} {D : DataW Unit} (hw : Wf nd) (h : MapOf nd D) (hl : nd.length ≤ 4095) (hx : x.1 < nd.length) (hm : may x.2 = true) (hn : ∀ i, 1 ≤ i → nd[i]? ≠ some x) : MapOf (nd ++ [x]) (D.put (keyL x.1 x.2) (.lit (.int .i64 (nd.length : Int)))) := by
  obtain ⟨h1, h2, h3⟩ := h
  refine ⟨h1.put _ _, fun i y hi hy z => ?_, fun k p hk hp hno => ?_⟩
  · by_cases hil : i < nd.length
    · rw [List.getElem?_append_left hil] at hy
      have hu := hw.up i y hi hy
      have hg := hw.good i y hi hy
      rw [Maps.atKey_put_other (fun e => by
        obtain ⟨e1, e2⟩ := keyL_inj (by omega) hg (by omega) hm e
        exact hn i hi (by rw [hy, Prod.ext e1 e2]))]
      exact h2 i y hi hy z
    · have := (List.getElem?_eq_some_iff.1 hy).1
      simp at this
      have hil : i = nd.length := by omega
      subst hil
      rw [List.getElem?_append_right (Nat.le_refl _), Nat.sub_self] at hy
      simp at hy
      subst hy
      exact Maps.atKey_put_same h1 (key_lit _ _) _ _
  · rw [Maps.has_put_other (fun e => by
      obtain ⟨e1, e2⟩ := keyL_inj hk hp (by omega) hm e
      exact hno nd.length hw.pos (by rw [List.getElem?_append_right (Nat.le_refl _), Nat.sub_self]; simp [e1, e2]))]
    exact h3 k p hk hp (fun i hi he => hno i hi (by rw [List.getElem?_append_left (List.getElem?_eq_some_iff.1 he).1]; exact he))
end Go.Proofs.YtocdinaomkmcbaaDoor

namespace Go.Proofs.YtocdinaomkmcbaaDoor
open Go.ChangeShapes Go.WideShapes Go.ChangeAt Go.RowKit Go.Shelf
open Go.Maps (Keyed)
set_option linter.unusedVariables false

/-- Nothing has turned but trees, and what is new. -/
structure Only (w w' : World) : Prop where
  os : w'.os = w.os
  tape : w'.tape = w.tape
  output : w'.output = w.output
  size : w.heap.size ≤ w'.heap.size
  block : ∀ (k : Nat) (cs : Array Value) (e : TypeId) (fr : Nat × Nat), w.heap[k]? = some (.cells cs e fr) → e ≠ 137 → e ≠ 140 → w'.heap[k]? = w.heap[k]?
theorem Only.refl (w : World) : Only w w := ⟨rfl, rfl, rfl, Nat.le_refl _, fun _ _ _ _ _ _ _ => rfl⟩
theorem Only.trans {a b c : World} (h : Only a b) (k : Only b c) : Only a c :=
  ⟨k.os.trans h.os, k.tape.trans h.tape, k.output.trans h.output, Nat.le_trans h.size k.size, fun i cs e fr hi h1 h2 => (k.block i cs e fr ((h.block i cs e fr hi h1 h2).trans hi) h1 h2).trans (h.block i cs e fr hi h1 h2)⟩
theorem Only.of_below {a b : World} (h : Below a.heap.size a b) : Only a b := ⟨h.os, h.tape, h.output, h.size, fun k cs e fr hk _ _ => h.block k (Array.getElem?_eq_some_iff.1 hk).1⟩
theorem Only.of_grown {a b : World} {g : Nat} (h : a.grownBy b (some g)) (hg : ∀ cs e fr, a.heap[g]? = some (.cells cs e fr) → e = 137 ∨ e = 140) : Only a b :=
  ⟨h.os, h.tape, h.output, h.size, fun k cs e fr hk h1 h2 => h.block k (Array.getElem?_eq_some_iff.1 hk).1 (fun e' => by
    cases e'
    rcases hg cs e fr hk with h' | h'
    · exact h1 h'
    · exact h2 h')⟩
theorem own_only {w w' : World} {B e size n : Nat} {v : Value} {xs : List Value} (h : w.ownsRow B e size v n xs) (ho : Only w w') (h1 : e ≠ 137) (h2 : e ≠ 140) : w'.ownsRow B e size v n xs := by
  refine ⟨h.1, ?_⟩
  rcases h.2 with hn | ⟨g, cap, cur, rfl, hb, hg, rest⟩
  · exact .inl hn
  · exact .inr ⟨g, cap, cur, rfl, hb, (ho.block g cur e (0, 0) hg h1 h2).trans hg, rest⟩

set_option maxRecDepth 100000 in
set_option maxHeartbeats 8000000 in
theorem push_old (a lo n i : Nat) (nd : List Nd) (p : Pl) (w : World) (hT : Tr w lo a nd) (hn : n < nd.length) (hm : may p = true) (hd : (stk nd n).length < 64) (hs : seekN nd (n, p) = some i) (hlo : lo ≤ w.heap.size) :
    Calls Tryd.prog 64 #[.pointer (some ⟨a, 0, none⟩), .int .i64 n, .agg #[.string p.1, .int .i64 p.2]] w fun e w' => e = .returned (.tuple #[.int .i64 i, .int .i64 0]) ∧ Below w.heap.size w w' := by
  have K74 := Lib.hid (fun (W : World) (hb : Below w.heap.size w W) => by
    have := has_any a lo nd n W (hT.below hb)
    rw [decide_eq_true ⟨by omega, by omega⟩] at this
    exact this)
  have K50 := Lib.hid (fun (W : World) => by
    have := mayBe_any p W
    rw [hm] at this
    exact this)
  have K41 := Lib.hid (fun (W : World) (hb : Below w.heap.size w W) => depth_any a lo n nd W (hT.below hb) hn)
  have HT := Lib.hid hT
  have hdi : ¬ ((stk nd n).length : Int) = 64 := by omega
  have hdd : decide ((stk nd n).length = 64) = false := decide_eq_false (by omega)
  have hdb : (((stk nd n).length : Int) == 64) = false := beq_eq_false_iff_ne.2 hdi
  generalize (stk nd n).length = dd at *
  clear hT
  go_enter Tryd.func64, Tryd.ntmps64
  have b1 : Below w.heap.size w (w.alloc (.cells #[.string p.1, .int .i64 p.2] 48)) := (Below.refl _ w).alloc (Nat.le_refl _) _
  go_wp2_with fail
  refine (K74.out _ b1).mono ?_
  rintro e W1 ⟨rfl, hW1⟩
  subst hW1
  go_wp2_with fail
  refine (K50.out _).mono ?_
  rintro e W2 ⟨rfl, b2⟩
  have b12 := b1.trans (b2.mono (by simp))
  go_wp2_with fail
  refine (K41.out _ b12).mono ?_
  rintro e W3 ⟨rfl, hW3⟩
  subst hW3
  have hq0 : W2.cell? ⟨w.heap.size, 0, none⟩ = some (.string p.1) := cell_below (w := w.alloc (.cells #[.string p.1, .int .i64 p.2] 48)) (by simp) b2 (Nat.le_refl _)
  have hq1 : W2.cell? ⟨w.heap.size, 1, none⟩ = some (.int .i64 p.2) := cell_below (w := w.alloc (.cells #[.string p.1, .int .i64 p.2] 48)) (by simp) b2 (Nat.le_refl _)
  go_wp2_with fail
  have b13 : Below w.heap.size w (W2.alloc (.cells #[.int .i64 (n : Int), .string p.1, .int .i64 p.2] 140)) := b12.alloc b12.size _
  have hT3 := HT.out.below b13
  obtain ⟨gn, cn, bm, D, x1, x2, x3, x4, x5⟩ := hT3.ex
  obtain ⟨s1, s2, s3⟩ := seek_some hs
  have hmay := hm
  have hkl := keyL_is n p (by have := hT3.few; omega) hm
  have hat := x4.2.1 i (n, p) s1 s2
  have hhas : Maps.has D (keyL n p) = true := Maps.has_true_of_atKey hat
  have hce : ∀ W : World, (zeroValue 3).run Tryd.prog W = .ok (.int .i64 0) W := fun W => by rfl
  have hlook : Hid (∀ k : Nat, (Instr.lookup 135 (.map (some bm)) (.agg #[.int .i64 (n : Int), .string p.1, .int .i64 p.2]) true).run Tryd.prog ((W2.alloc (.cells #[.int .i64 (n : Int), .string p.1, .int .i64 p.2] 140)).drewN k) = .ok (.tuple #[.int .i64 (i : Int), .bool true]) ((W2.alloc (.cells #[.int .i64 (n : Int), .string p.1, .int .i64 p.2] 140)).drewN k)) := Lib.hid (fun k => by
    have x3' : ((W2.alloc (.cells #[.int .i64 (n : Int), .string p.1, .int .i64 p.2] 140)).drewN k).ownsMap Tryd.prog 140 (plainElem Tryd.prog 3) bm nd.length D := x3
    obtain ⟨v, ps, hrun, hv⟩ := x3'.look_ok keyed140 Tryd.underlying135 (hce _) (plainElem_int Tryd.underlying3 (by decide : (Lit.int .i64 0).wf = true)) hkl
    rw [hat] at hv
    obtain ⟨c, rfl, hc, _⟩ := plainElem_int_inv Tryd.underlying3 hv
    rw [hhas] at hrun
    simp only [Prod.mk.injEq, DataW.lit.injEq, Lit.int.injEq, true_and] at hc
    rw [hc.1]
    exact hrun)
  have cm : (W2.alloc (.cells #[.int .i64 (n : Int), .string p.1, .int .i64 p.2] 140)).cell? ⟨a, 1, none⟩ = some (.map (some bm)) := by rw [cell_of_row _ a 1 _ 137 (0, 0) x1]; rfl
  have k0 : (W2.alloc (.cells #[.int .i64 (n : Int), .string p.1, .int .i64 p.2] 140)).cell? ⟨W2.heap.size, 0, none⟩ = some (.int .i64 (n : Int)) := by simp
  have k1 : (W2.alloc (.cells #[.int .i64 (n : Int), .string p.1, .int .i64 p.2] 140)).cell? ⟨W2.heap.size, 1, none⟩ = some (.string p.1) := by simp
  have k2 : (W2.alloc (.cells #[.int .i64 (n : Int), .string p.1, .int .i64 p.2] 140)).cell? ⟨W2.heap.size, 2, none⟩ = some (.int .i64 p.2) := by simp
  have HLK := hlook.out
  clear hlook x1 x2 x3 x4 hat hhas hce hkl hT3 b1 b2 b12 hq0 hq1
  generalize hW3 : W2.alloc (.cells #[.int .i64 (n : Int), .string p.1, .int .i64 p.2] 140) = W3 at *
  clear hW3
  go_quiet (fail)
  go_wp2_with fail
  go_ret2
  exact ⟨rfl, b13.trans ((below_drewN _ _ _ (Nat.le_refl _)).mono b13.size)⟩
end Go.Proofs.YtocdinaomkmcbaaDoor

namespace Go.Proofs.YtocdinaomkmcbaaDoor
open Go.ChangeShapes Go.WideShapes Go.ChangeAt Go.RowKit Go.Shelf
open Go.Maps (Keyed)
set_option linter.unusedVariables false

theorem block_row {W : World} {lo a : Nat} {u v : Value} (h : W.heap[a]? = some (.cells #[u, v] 137 (0, 0))) (hl : lo ≤ a) : W.ownsRow lo 137 2 (.slice (some ⟨a, 0, none⟩) 1 1) 1 [u, v] :=
  ⟨rfl, .inr ⟨a, 1, #[u, v], rfl, hl, h, Nat.le_refl _, by decide, rfl, rfl⟩⟩
theorem row_block {W : World} {lo a : Nat} {u v : Value} (h : W.ownsRow lo 137 2 (.slice (some ⟨a, 0, none⟩) 1 1) 1 [u, v]) : W.heap[a]? = some (.cells #[u, v] 137 (0, 0)) := by
  rcases h.2 with ⟨h', _⟩ | ⟨g, cap, cur, h', _, hg, _, _, h3, h4⟩
  · simp at h'
  · simp only [Value.slice.injEq, Option.some.injEq, Addr.mk.injEq, and_true, true_and] at h'
    obtain ⟨rfl, rfl⟩ := h'
    have : cur = #[u, v] := by
      apply Array.toList_inj.1
      rw [← h4, List.take_of_length_le (by simp; omega)]
    rw [hg, this]
theorem map_apart {W : World} {bm n : Nat} {D : DataW Unit} {P : Program} {k : TypeId} {R : Value → Option (DataW Unit × List MemPlace)} (h : W.ownsMap P k R bm n D) {B e s m : Nat} {v : Value} {xs : List Value} (hr : W.ownsRow B e s v m xs) : v.ownBlock ≠ some bm := by
  obtain ⟨es, clock, hb, _⟩ := h
  intro e'
  rcases hr.2 with ⟨rfl, _⟩ | ⟨g, cap, cur, rfl, _, hg, _⟩
  · cases e'
  · have : g = bm := by simpa [Value.ownBlock] using e'
    subst this
    rw [hb] at hg
    cases hg

structure TX (W : World) (lo a : Nat) (nd : List Nd) (gn cn bm : Nat) (D : DataW Unit) : Prop where
  x1 : W.heap[a]? = some (.cells #[.slice (some ⟨gn, 0, none⟩) nd.length cn, .map (some bm)] 137 (0, 0))
  x2 : W.ownsRow lo 140 3 (.slice (some ⟨gn, 0, none⟩) nd.length cn) nd.length (flatN nd)
  x3 : W.ownsMap Tryd.prog 140 (plainElem Tryd.prog 3) bm nd.length D
theorem TX.below {W W' : World} {lo a gn cn bm : Nat} {nd : List Nd} {D : DataW Unit} (h : TX W lo a nd gn cn bm D) (hb : Below W.heap.size W W') : TX W' lo a nd gn cn bm D :=
  ⟨by rw [hb.block a (Array.getElem?_eq_some_iff.1 h.x1).1]; exact h.x1, own_below h.x2 hb, h.x3.kept (row := none) ⟨hb.os, hb.tape, hb.output, hb.size, fun j hj _ => hb.block j hj⟩ (by simp)⟩

set_option maxRecDepth 100000 in
set_option maxHeartbeats 8000000 in
theorem push_new (a lo n : Nat) (nd : List Nd) (p : Pl) (w : World) (hT : Tr w lo a nd) (hn : n < nd.length) (hm : may p = true) (hd : (stk nd n).length < 64) (hs : seekN nd (n, p) = none) (hl : nd.length ≤ 4095) (hlo : lo ≤ w.heap.size) :
    Calls Tryd.prog 64 #[.pointer (some ⟨a, 0, none⟩), .int .i64 n, .agg #[.string p.1, .int .i64 p.2]] w fun e w' => e = .returned (.tuple #[.int .i64 nd.length, .int .i64 0]) ∧ Tr w' lo a (nd ++ [(n, p)]) ∧ Only w w' ∧ Below lo w w' := by
  obtain ⟨i0, hi0, hz0, hz1, hz2⟩ := info_parts info140
  have K74 := Lib.hid (fun (W : World) (hb : Below w.heap.size w W) => by
    have := has_any a lo nd n W (hT.below hb)
    rw [decide_eq_true ⟨by omega, by omega⟩] at this
    exact this)
  have K50 := Lib.hid (fun (W : World) => by
    have := mayBe_any p W
    rw [hm] at this
    exact this)
  have K41 := Lib.hid (fun (W : World) (hb : Below w.heap.size w W) => depth_any a lo n nd W (hT.below hb) hn)
  have hms := (may_iff.1 hm).2.1
  have K83 := Lib.hid (fun (W : World) => sclone_any p.1 W (by omega))
  have HT := Lib.hid hT
  obtain ⟨gn, cn, bm, D, y1, y2, y3, x4, x5⟩ := hT.ex
  have HX := Lib.hid (TX.mk y1 y2 y3)
  clear y1 y2 y3
  have hdi : ¬ ((stk nd n).length : Int) = 64 := by omega
  have hdd : decide ((stk nd n).length = 64) = false := decide_eq_false (by omega)
  have hdb : (((stk nd n).length : Int) == 64) = false := beq_eq_false_iff_ne.2 hdi
  generalize (stk nd n).length = dd at *
  clear hT
  go_enter Tryd.func64, Tryd.ntmps64
  have b1 : Below w.heap.size w (w.alloc (.cells #[.string p.1, .int .i64 p.2] 48)) := (Below.refl _ w).alloc (Nat.le_refl _) _
  go_wp2_with fail
  refine (K74.out _ b1).mono ?_
  rintro e W1 ⟨rfl, hW1⟩
  subst hW1
  go_wp2_with fail
  refine (K50.out _).mono ?_
  rintro e W2 ⟨rfl, b2⟩
  have b12 := b1.trans (b2.mono (by simp))
  go_wp2_with fail
  refine (K41.out _ b12).mono ?_
  rintro e W3 ⟨rfl, hW3⟩
  subst hW3
  have hq0 : W2.cell? ⟨w.heap.size, 0, none⟩ = some (.string p.1) := cell_below (w := w.alloc (.cells #[.string p.1, .int .i64 p.2] 48)) (by simp) b2 (Nat.le_refl _)
  have hq1 : W2.cell? ⟨w.heap.size, 1, none⟩ = some (.int .i64 p.2) := cell_below (w := w.alloc (.cells #[.string p.1, .int .i64 p.2] 48)) (by simp) b2 (Nat.le_refl _)
  have hzq : w.heap.size < W2.heap.size := by have := b2.size; simp at this; omega
  go_wp2_with fail
  have b13 : Below w.heap.size w (W2.alloc (.cells #[.int .i64 (n : Int), .string p.1, .int .i64 p.2] 140)) := b12.alloc b12.size _
  have hT3 := HT.out.below b13
  obtain ⟨x1, x2, x3⟩ := HX.out.below b13
  have hsn := seek_none hs
  have hkl := keyL_is n p (by have := hT3.few; omega) hm
  have hhas := x4.2.2 n p (by have := hT3.few; omega) hm (fun i hi => hsn i hi)
  have hce : ∀ W : World, (zeroValue 3).run Tryd.prog W = .ok (.int .i64 0) W := fun W => by rfl
  have hlook : Hid (∀ k : Nat, (Instr.lookup 135 (.map (some bm)) (.agg #[.int .i64 (n : Int), .string p.1, .int .i64 p.2]) true).run Tryd.prog ((W2.alloc (.cells #[.int .i64 (n : Int), .string p.1, .int .i64 p.2] 140)).drewN k) = .ok (.tuple #[.int .i64 0, .bool false]) ((W2.alloc (.cells #[.int .i64 (n : Int), .string p.1, .int .i64 p.2] 140)).drewN k)) := Lib.hid (fun k => by
    have x3' : ((W2.alloc (.cells #[.int .i64 (n : Int), .string p.1, .int .i64 p.2] 140)).drewN k).ownsMap Tryd.prog 140 (plainElem Tryd.prog 3) bm nd.length D := x3
    obtain ⟨v, ps, hrun, hv⟩ := x3'.look_ok keyed140 Tryd.underlying135 (hce _) (plainElem_int Tryd.underlying3 (by decide : (Lit.int .i64 0).wf = true)) hkl
    rw [Maps.atKey_of_not_has hhas] at hv
    obtain ⟨c, rfl, hc, _⟩ := plainElem_int_inv Tryd.underlying3 hv
    rw [hhas] at hrun
    simp only [Prod.mk.injEq, DataW.lit.injEq, Lit.int.injEq, true_and] at hc
    rw [hc.1]
    exact hrun)
  have cm : (W2.alloc (.cells #[.int .i64 (n : Int), .string p.1, .int .i64 p.2] 140)).cell? ⟨a, 1, none⟩ = some (.map (some bm)) := by rw [cell_of_row _ a 1 _ 137 (0, 0) x1]; rfl
  have ca : (W2.alloc (.cells #[.int .i64 (n : Int), .string p.1, .int .i64 p.2] 140)).cell? ⟨a, 0, none⟩ = some (.slice (some ⟨gn, 0, none⟩) nd.length cn) := by rw [cell_of_row _ a 0 _ 137 (0, 0) x1]; rfl
  have q0 : (W2.alloc (.cells #[.int .i64 (n : Int), .string p.1, .int .i64 p.2] 140)).cell? ⟨w.heap.size, 0, none⟩ = some (.string p.1) := cell_below hq0 ((Below.refl _ W2).alloc (Nat.le_refl _) _) (Nat.le_refl _)
  have k0 : (W2.alloc (.cells #[.int .i64 (n : Int), .string p.1, .int .i64 p.2] 140)).ownsRow W2.heap.size 140 3 (.slice (some ⟨W2.heap.size, 0, none⟩) 1 1) 1 [.int .i64 (n : Int), .string p.1, .int .i64 p.2] :=
    ⟨rfl, .inr ⟨W2.heap.size, 1, #[.int .i64 (n : Int), .string p.1, .int .i64 p.2], rfl, Nat.le_refl _, heap_alloc_new W2 _, Nat.le_refl _, by decide, rfl, rfl⟩⟩
  have HLK := hlook.out
  have hmbw : w.heap.size < W2.heap.size := hzq
  clear hlook x1 x2 x3 hT3 b1 b2 b12 hq0 hq1 hce
  generalize hW3 : W2.alloc (.cells #[.int .i64 (n : Int), .string p.1, .int .i64 p.2] 140) = W3 at *
  clear hW3
  generalize W2.heap.size = mb at *
  have m0 : W3.cell? ⟨mb, 0, none⟩ = some (.int .i64 (n : Int)) := k0.cellAt 0 (by omega)
  have m1 : W3.cell? ⟨mb, 1, none⟩ = some (.string p.1) := k0.cellAt 1 (by omega)
  have m2 : W3.cell? ⟨mb, 2, none⟩ = some (.int .i64 p.2) := k0.cellAt 2 (by omega)
  go_quiet (fail)
  clear HLK m0 m1 m2
  have e4 := below_drewN W3.heap.size W3 nq (Nat.le_refl _)
  have k4 := own_below k0 e4
  have b14 := b13.trans (e4.mono b13.size)
  have ca4 := cell_below ca e4 (Nat.le_refl _)
  have q04 := cell_below q0 e4 (Nat.le_refl _)
  have hgoal : True := trivial
  clear k0 b13 ca cm q0 e4
  generalize W3.drewN nq = W4 at *
  have h4095 : ¬ (nd.length : Int) = 4096 := by omega
  have h4095b : ((nd.length : Int) == 4096) = false := beq_eq_false_iff_ne.2 h4095
  have h4095d : decide (nd.length = 4096) = false := decide_eq_false (by omega)
  go_wp2_with fail
  refine (K83.out _).mono ?_
  rintro e W5 ⟨rfl, b5⟩
  have k5 := own_below k4 b5
  have b15 := b14.trans (b5.mono b14.size)
  have m1 : W5.cell? ⟨mb, 1, none⟩ = some (.string p.1) := k5.cellAt 1 (by omega)
  have f1 := k5.frozenAt 1
  have hst := k5.stored 1 (.string p.1)
  have hb6 : Below w.heap.size w (W5.setCell ⟨mb, 1, none⟩ (.string p.1)) := b15.setCell (by show w.heap.size ≤ mb; omega) _
  have k6 : (W5.setCell ⟨mb, 1, none⟩ (.string p.1)).ownsRow mb 140 3 (.slice (some ⟨mb, 0, none⟩) 1 1) 1 [.int .i64 (n : Int), .string p.1, .int .i64 p.2] := hst.1
  go_wp2_with fail
  clear k4 k5 m1 f1 hst b14 b15 b5 ca4 q04
  generalize hV6 : W5.setCell ⟨mb, 1, none⟩ (.string p.1) = V6 at *
  clear hV6
  have hz6 := hb6.size
  obtain ⟨x1, x2, x3⟩ := HX.out.below hb6
  have lga := HT.out.lt
  have llo := HT.out.lo
  have lgn := HX.out.x2.lt gn rfl
  have lbm := HX.out.x3.lt
  have ca : V6.cell? ⟨a, 0, none⟩ = some (.slice (some ⟨gn, 0, none⟩) nd.length cn) := by rw [cell_of_row _ a 0 _ 137 (0, 0) x1]; rfl
  have m0 : V6.cell? ⟨mb, 0, none⟩ = some (.int .i64 (n : Int)) := k6.cellAt 0 (by omega)
  have m1 : V6.cell? ⟨mb, 1, none⟩ = some (.string p.1) := k6.cellAt 1 (by omega)
  have m2 : V6.cell? ⟨mb, 2, none⟩ = some (.int .i64 p.2) := k6.cellAt 2 (by omega)
  have ar := block_row x1 llo
  have caA := cell_below ca ((Below.refl _ V6).alloc (Nat.le_refl _) (.cells #[.int .i64 (n : Int), .string p.1, .int .i64 p.2] 140)) (Nat.le_refl _)
  have hcc := own_cap x2
  have HAR := Lib.hid ar
  have HK6 := Lib.hid k6
  have HX2 := Lib.hid x2
  have HX3 := Lib.hid x3
  clear ar k6 x3 x1
  go_region_law (refine step_append_lies _ (by rfl) _ _ _ (by rfl) lo 140 i0 _ 3 32 Tryd.underlying134 hi0 hz0 hz1 hz2 rfl (by omega) (.slice (some ⟨gn, 0, none⟩) nd.length cn) nd.length (flatN nd) (by rfl) ((HX2.out.alloc _).drew) ⟨V6.heap.size, 0, none⟩ 1 1 (celN (n, p)) (by rfl) (by rfl) (World.news_of_block (cs := #[.int .i64 (n : Int), .string p.1, .int .i64 p.2]) (t := 140) (fr := (0, 0)) (heap_alloc_new V6 _)) (by simp [celN, Value.oneCell']) (by omega) (by unfold maxLen; omega) (by omega) (by simp; omega) (V6.heap.size + 1) (by simp) ?_; intro gg cap' w6 hown6 hgrow hat hlt6; have ar6 := keep_other ((HAR.out.alloc (.cells #[.int .i64 (n : Int), .string p.1, .int .i64 p.2] 140)).drew) ((HX2.out.alloc (.cells #[.int .i64 (n : Int), .string p.1, .int .i64 p.2] 140)).drew) (by decide) hgrow; have c9 := ar6.cellAt 0 (by omega); have f9 := ar6.frozenAt 0; simp only [List.getElem?_cons_zero] at c9)
  all_goals
    have hst := ar6.stored 0 (.slice (some ⟨gg, 0, none⟩) (nd.length + 1) cap')
    have hgs := hgrow.size
    simp at hgs
    have hmk : (V6.alloc (.cells #[.int .i64 (n : Int), .string p.1, .int .i64 p.2] 140)).drew.ownsRow mb 140 3 (.slice (some ⟨mb, 0, none⟩) 1 1) 1 [.int .i64 (n : Int), .string p.1, .int .i64 p.2] := (HK6.out.alloc _).drew
    have hmk6 := hmk.kept hgrow (.inr (by simp [Value.ownBlock]; omega))
    have hmk7 := hmk6.kept hst.2 (.inr (by simp [Value.ownBlock]; omega))
    have hm6 := ((HX3.out.alloc (.cells #[.int .i64 (n : Int), .string p.1, .int .i64 p.2] 140)).drew).kept hgrow (fun e => map_apart ((HX3.out.alloc (.cells #[.int .i64 (n : Int), .string p.1, .int .i64 p.2] 140)).drew) ((HX2.out.alloc (.cells #[.int .i64 (n : Int), .string p.1, .int .i64 p.2] 140)).drew) e.symm)
    have hm7 := hm6.kept hst.2 (fun e => map_apart hm6 ar6 e.symm)
    have hr7 := keep_other hown6 ar6 (by decide) hst.2
    have ar7 := hst.1
    have hw6 : Below lo w w6 := Below.grown (((hb6.mono hlo).alloc (by omega) _).drew) hgrow (by simp; omega) (fun j hj => by cases hj; exact lgn.1)
    have hw7 : Below lo w (w6.setCell ⟨a, 0, none⟩ (.slice (some ⟨gg, 0, none⟩) (nd.length + 1) cap')) := Below.grown hw6 hst.2 (by have := hw6.size; omega) (fun j hj => by cases hj; exact llo)
    have ho7 : Only w (w6.setCell ⟨a, 0, none⟩ (.slice (some ⟨gg, 0, none⟩) (nd.length + 1) cap')) := by
      have o1 : Only w (V6.alloc (.cells #[.int .i64 (n : Int), .string p.1, .int .i64 p.2] 140)).drew := Only.of_below ((hb6.alloc hz6 _).drew)
      have o2 := Only.of_grown hgrow (fun cs e fr h => by
        rcases ((HX2.out.alloc (.cells #[.int .i64 (n : Int), .string p.1, .int .i64 p.2] 140)).drew).2 with ⟨h', _⟩ | ⟨g', cap2, cur, h', _, hg', _⟩
        · cases h'
        · simp only [Value.slice.injEq, Option.some.injEq, Addr.mk.injEq, and_true, true_and] at h'
          obtain ⟨rfl, rfl⟩ := h'
          have h2 := h.symm.trans hg'
          simp only [Option.some.injEq, Obj.cells.injEq] at h2
          exact .inr h2.2.1)
      have o3 := Only.of_grown hst.2 (fun cs e fr h => by
        have h2 := h.symm.trans (row_block ar6)
        simp only [Option.some.injEq, Obj.cells.injEq] at h2
        exact .inl h2.2.1)
      exact (o1.trans o2).trans o3
    have c7 : (w6.setCell ⟨a, 0, none⟩ (.slice (some ⟨gg, 0, none⟩) (nd.length + 1) cap')).cell? ⟨a, 1, none⟩ = some (.map (some bm)) := ar7.cellAt 1 (by omega)
    have m70 : (w6.setCell ⟨a, 0, none⟩ (.slice (some ⟨gg, 0, none⟩) (nd.length + 1) cap')).cell? ⟨mb, 0, none⟩ = some (.int .i64 (n : Int)) := hmk7.cellAt 0 (by omega)
    have m71 : (w6.setCell ⟨a, 0, none⟩ (.slice (some ⟨gg, 0, none⟩) (nd.length + 1) cap')).cell? ⟨mb, 1, none⟩ = some (.string p.1) := hmk7.cellAt 1 (by omega)
    have m72 : (w6.setCell ⟨a, 0, none⟩ (.slice (some ⟨gg, 0, none⟩) (nd.length + 1) cap')).cell? ⟨mb, 2, none⟩ = some (.int .i64 p.2) := hmk7.cellAt 2 (by omega)
    clear hst hgs hmk hmk6 hmk7 hm6 ar6 hown6 hgrow hat c9 f9 hw6 ca m0 m1 m2 caA
    generalize hV7 : w6.setCell ⟨a, 0, none⟩ (.slice (some ⟨gg, 0, none⟩) (nd.length + 1) cap') = V7 at *
    clear hV7
    obtain ⟨W9, hrun, hm9, hg9⟩ := (hm7.drew).update keyed140 Tryd.underlying135 (by unfold maxLen; omega) hkl (plainElem_int (a := (nd.length : Int)) Tryd.underlying3 (wf_i64 (by omega) (by omega)))
    have hrun' : (Instr.mapUpdate 135 (.map (some bm)) (.agg #[.int .i64 (n : Int), .string p.1, .int .i64 p.2]) (.int .i64 (nd.length : Int))).run Tryd.prog V7.drew = .ok () W9 := hrun
    have hFin : Hid (Tr W9 lo a (nd ++ [(n, p)]) ∧ Only w W9 ∧ Below lo w W9) := Lib.hid (by
      have ar9 := (ar7.drew).kept hg9 (.inr (map_apart hm7.drew ar7.drew))
      have hr9 := (hr7.drew).kept hg9 (.inr (map_apart hm7.drew hr7.drew))
      have hl1 : (nd ++ [(n, p)]).length = nd.length + 1 := by simp
      refine ⟨⟨wf_snoc HT.out.wf hn hm hsn, by omega, ⟨gg, cap', bm, _, ?_, ?_, ?_, map_snoc HT.out.wf x4 hl hn hm hsn, x5⟩, llo⟩, ?_, ?_⟩
      · rw [hl1]; exact row_block ar9
      · rw [hl1, flatN_snoc]; exact hr9
      · rw [hl1]; exact hm9
      · refine ho7.trans ((Only.of_below ((Below.refl _ V7).drew)).trans (Only.of_grown hg9 (fun cs e fr h => ?_)))
        obtain ⟨es, clock, hb, _⟩ := hm7
        have h2 := hb.symm.trans h
        cases h2
      · exact Below.grown hw7.drew hg9 (by have := hw7.size; simp; omega) (fun j hj => by cases hj; exact x5))
    clear hrun hm9 hg9 hm7 hr7 ar7 ho7 hw7
    go_wp2_with fail
    go_region
    go_wp2_with fail
    go_ret2
    exact ⟨rfl, hFin.out⟩
end Go.Proofs.YtocdinaomkmcbaaDoor

namespace Go.Proofs.YtocdinaomkmcbaaDoor
open Go.ChangeShapes Go.WideShapes Go.ChangeAt Go.RowKit Go.Shelf
open Go.Maps (Keyed)
set_option linter.unusedVariables false

/-- A further place behind a node: its node, and the nodes then. -/
def insN (nd : List Nd) (n : Nat) (p : Pl) : Nat × List Nd := match seekN nd (n, p) with
  | some i => (i, nd)
  | none => (nd.length, nd ++ [(n, p)])
def addN (nd : List Nd) (n : Nat) : List Pl → Nat × List Nd
  | [] => (n, nd)
  | p :: l => addN (insN nd n p).2 (insN nd n p).1 l
theorem addN_snoc : ∀ (l : List Pl) (nd : List Nd) (n : Nat) (p : Pl), addN nd n (l ++ [p]) = insN (addN nd n l).2 (addN nd n l).1 p := by
  intro l
  induction l with
  | nil => intro nd n p; rfl
  | cons q l ih => intro nd n p; simp only [List.cons_append, addN]; exact ih _ _ _
theorem stk_ext {nd : List Nd} (h : Wf nd) (e : List Nd) (h' : Wf (nd ++ e)) : ∀ n, n < nd.length → stk (nd ++ e) n = stk nd n := by
  intro n
  induction n using Nat.strongRecOn with
  | ind n ih =>
    intro hn
    rcases Nat.eq_zero_or_pos n with h0 | h0
    · subst h0; rfl
    · obtain ⟨x, hx⟩ : ∃ x, nd[n]? = some x := ⟨_, List.getElem?_eq_getElem hn⟩
      have hu := h.up n x h0 hx
      rw [stk_step h h0 hx, stk_step h' h0 (by rw [List.getElem?_append_left hn]; exact hx), ih x.1 hu (by omega)]
theorem insN_ok {nd : List Nd} {n : Nat} {p : Pl} (h : Wf nd) (hn : n < nd.length) (hm : may p = true) : Wf (insN nd n p).2 ∧ (insN nd n p).1 < (insN nd n p).2.length ∧ (∃ e, (insN nd n p).2 = nd ++ e) ∧ (insN nd n p).2.length ≤ nd.length + 1 ∧ stk (insN nd n p).2 (insN nd n p).1 = stk nd n ++ [p] := by
  unfold insN
  cases hs : seekN nd (n, p) with
  | some i =>
    obtain ⟨s1, s2, s3⟩ := seek_some hs
    exact ⟨h, s3, ⟨[], by simp⟩, by simp, stk_step h s1 s2⟩
  | none =>
    have hw := wf_snoc h (x := (n, p)) hn hm (seek_none hs)
    refine ⟨hw, by simp, ⟨_, rfl⟩, by simp, ?_⟩
    simp only
    rw [stk_step hw h.pos (x := (n, p)) (by rw [List.getElem?_append_right (Nat.le_refl _), Nat.sub_self]; rfl)]
    rw [stk_ext h _ hw n hn]
theorem addN_ok : ∀ (l : List Pl) (nd : List Nd) (n : Nat), Wf nd → n < nd.length → (∀ p ∈ l, may p = true) → Wf (addN nd n l).2 ∧ (addN nd n l).1 < (addN nd n l).2.length ∧ (∃ e, (addN nd n l).2 = nd ++ e) ∧ (addN nd n l).2.length ≤ nd.length + l.length ∧ stk (addN nd n l).2 (addN nd n l).1 = stk nd n ++ l := by
  intro l
  induction l with
  | nil => intro nd n h hn _; exact ⟨h, hn, ⟨[], by simp [addN]⟩, by simp [addN], by simp [addN]⟩
  | cons p l ih =>
    intro nd n h hn hm
    obtain ⟨a1, a2, ⟨e, a3⟩, a4, a5⟩ := insN_ok h hn (hm p (by simp))
    obtain ⟨b1, b2, ⟨e', b3⟩, b4, b5⟩ := ih (insN nd n p).2 (insN nd n p).1 a1 a2 (fun q hq => hm q (by simp [hq]))
    simp only [addN]
    refine ⟨b1, b2, ⟨e ++ e', by rw [b3, a3, List.append_assoc]⟩, by simp; omega, by rw [b5, a5]; simp⟩

theorem push_any (a lo n : Nat) (nd : List Nd) (p : Pl) (w : World) (hT : Tr w lo a nd) (hn : n < nd.length) (hm : may p = true) (hd : (stk nd n).length < 64) (hl : nd.length ≤ 4095) (hlo : lo ≤ w.heap.size) :
    Calls Tryd.prog 64 #[.pointer (some ⟨a, 0, none⟩), .int .i64 n, .agg #[.string p.1, .int .i64 p.2]] w fun e w' => e = .returned (.tuple #[.int .i64 (insN nd n p).1, .int .i64 0]) ∧ Tr w' lo a (insN nd n p).2 ∧ Only w w' ∧ Below lo w w' := by
  unfold insN
  cases hs : seekN nd (n, p) with
  | some i =>
    exact (push_old a lo n i nd p w hT hn hm hd hs hlo).mono fun e w' ⟨he, hb⟩ => ⟨he, hT.below hb, Only.of_below hb, hb.mono hlo⟩
  | none => exact push_new a lo n nd p w hT hn hm hd hs hl hlo

set_option maxRecDepth 100000 in
set_option maxHeartbeats 4000000 in
theorem add_any (a lo B : Nat) (nd : List Nd) (v : Value) (l : List Pl) (w : World) (hT : Tr w lo a nd) (hv : w.ownsRow B 48 2 v l.length (flat l)) (hc : chk l = 0) (hl : nd.length ≤ 4032) (hlo : lo ≤ w.heap.size) :
    Calls Tryd.prog 40 #[.pointer (some ⟨a, 0, none⟩), v] w fun e w' => e = .returned (.tuple #[.int .i64 (addN nd 0 l).1, .int .i64 0]) ∧ Tr w' lo a (addN nd 0 l).2 ∧ Only w w' ∧ Below lo w w' := by
  obtain ⟨hmay, h64⟩ := chk_ok.1 hc
  obtain ⟨A, cap, rfl, hA, _⟩ := own_form hv
  have h14 := check_any A cap l w hA (by omega)
  rw [hc] at h14
  have H14 := Lib.hid h14
  have HV := Lib.hid hv
  have HT := Lib.hid hT
  have HM := Lib.hid hmay
  have HOK := Lib.hid (fun k : Nat => addN_ok (l.take k) nd 0 hT.wf (by have := hT.wf.pos; omega) (fun p hp => hmay p (List.mem_of_mem_take hp)))
  clear h14 hA hc hmay hT
  go_enter Tryd.func40, Tryd.ntmps40
  go_wp2_with fail
  refine H14.out.mono ?_
  rintro e W ⟨rfl, hb⟩
  have hzW := hb.size
  go_wp2_with fail
  go_loopw [7, 20] (fun t7 t20 wr => ∃ k : Nat, t20 = .int .i64 k ∧ k ≤ l.length ∧ t7 = .int .i64 (addN nd 0 (l.take k)).1 ∧ Hid (Tr wr lo a (addN nd 0 (l.take k)).2 ∧ Only w wr ∧ Below lo w wr)) (fun _ t20 _ => l.length - (intOf t20).toNat)
  case atStart => exact ⟨0, rfl, by omega, rfl, Lib.hid ⟨HT.out.below hb, Only.of_below hb, hb.mono hlo⟩⟩
  case round =>
    obtain ⟨k, rfl, hk, rfl, HR⟩ := hrel
    have hk0 : (0 : Int) ≤ (k : Int) := Int.natCast_nonneg _
    obtain ⟨o1, o2, _, o4, o5⟩ := HOK.out k
    by_cases hlt : k < l.length
    · have hk1 : (k : Int) < (l.length : Int) := by omega
      obtain ⟨p, hp⟩ : ∃ p, l[k]? = some p := ⟨_, List.getElem?_eq_getElem hlt⟩
      have hv' := own_only HV.out HR.out.2.1 (by decide) (by decide)
      obtain ⟨A2, cap2, e2, hA2, _⟩ := own_form hv'
      simp only [Value.slice.injEq, true_and] at e2
      obtain ⟨rfl, rfl⟩ := e2
      obtain ⟨g, o, rfl, c0, c1⟩ := hA2 k p hp
      have hsz := HR.out.2.1.size
      have hmp := HM.out p (List.mem_of_getElem? hp)
      have HAD := Lib.hid (show addN nd 0 (l.take (k + 1)) = insN (addN nd 0 (l.take k)).2 (addN nd 0 (l.take k)).1 p by rw [take_snoc' l k p hp, addN_snoc])
      have hlk : (l.take k).length = k := by rw [List.length_take]; omega
      rw [hlk] at o4
      have hst : (stk (addN nd 0 (l.take k)).2 (addN nd 0 (l.take k)).1).length < 64 := by rw [o5, stk_zero]; simp; omega
      generalize addN nd 0 (l.take k) = r at *
      have H64 : Hid (Calls Tryd.prog 64 #[.pointer (some ⟨a, 0, none⟩), .int .i64 r.1, .agg #[.string p.1, .int .i64 p.2]] (wr.alloc (.cells #[.string p.1, .int .i64 p.2] 48)) fun e w' => e = .returned (.tuple #[.int .i64 (insN r.2 r.1 p).1, .int .i64 0]) ∧ Tr w' lo a (insN r.2 r.1 p).2 ∧ Only w w' ∧ Below lo w w') := Lib.hid (by
        have hb2 : Below wr.heap.size wr (wr.alloc (.cells #[.string p.1, .int .i64 p.2] 48)) := (Below.refl _ wr).alloc (Nat.le_refl _) _
        refine (push_any a lo r.1 r.2 p _ (HR.out.1.below hb2) o2 hmp hst (by omega) (by simp; omega)).mono fun e w' ⟨h1, h2, h3, h4⟩ => ⟨h1, h2, HR.out.2.1.trans ((Only.of_below hb2).trans h3), ?_⟩
        have hb3 : Below lo w (wr.alloc (.cells #[.string p.1, .int .i64 p.2] 48)) := HR.out.2.2.alloc (by omega) _
        exact hb3.trans h4)
      clear hp hA2 hv' o1 o2 o4 o5 hst HR hmp
      go_wp2_with fail
      refine H64.out.mono ?_
      rintro e W2 ⟨rfl, h2, h3, h4⟩
      have HN := Lib.hid (And.intro h2 (And.intro h3 h4))
      clear h2 h3 h4
      go_wp2_with fail
      go_roundw
      case rel => exact ⟨k + 1, by go_num, by omega, by rw [HAD.out], by rw [HAD.out]; exact HN⟩
      case measure => simp [intOf]; omega
    · have hk1 : ¬ (k : Int) < (l.length : Int) := by omega
      obtain rfl : k = l.length := by omega
      have HE := Lib.hid (show l.take l.length = l from List.take_length)
      clear o1 o2 o4 o5
      go_wp2_with fail
      go_ret2
      exact ⟨rfl, by have := HR.out; rwa [HE.out] at this⟩
end Go.Proofs.YtocdinaomkmcbaaDoor
