/-
  Runs of the call's own: each in a row of its own, no two in one block.
-/
import Derived.Test.YtocdinaomkmcbaaDoorFE
import Derived.Test.YtocdinaomkmcbaaDoorUC
namespace Go.Proofs.YtocdinaomkmcbaaDoor
open Go.ChangeShapes Go.WideShapes Go.ChangeAt Go.RowKit
set_option linter.unusedVariables false

/-- From the run k on: each in a row of its own, that no other shares. -/
def RwP (e lo k : Nat) (W : World) (rs : List Rn) (xs : List Value) : Prop :=
  ∀ i r, k ≤ i → rs[i]? = some r → ∃ g c, xs[i * 2]? = some (.slice (some ⟨g, 0, none⟩) r.1.length c) ∧ xs[i * 2 + 1]? = some (.int .i64 r.2) ∧
    W.ownsRow lo e 2 (.slice (some ⟨g, 0, none⟩) r.1.length c) r.1.length (flat r.1) ∧ ∀ j v, j ≠ i → xs[j * 2]? = some v → v.ownBlock ≠ some g
/-- No run lies in the block. -/
def OfP (xs : List Value) (row : Option Nat) : Prop := ∀ (j : Nat) (v : Value) (g : Nat), xs[j * 2]? = some v → v.ownBlock = some g → row ≠ some g
theorem RwP.mono {e lo k k' : Nat} {W : World} {rs : List Rn} {xs : List Value} (h : RwP e lo k W rs xs) (hk : k ≤ k') : RwP e lo k' W rs xs := fun i r hi hr => h i r (Nat.le_trans hk hi) hr
theorem RwP.base {e lo lo' k : Nat} {W : World} {rs : List Rn} {xs : List Value} (h : RwP e lo k W rs xs) (hl : lo' ≤ lo) : RwP e lo' k W rs xs := fun i r hi hr => by
  obtain ⟨g, c, a, b, d, f⟩ := h i r hi hr
  exact ⟨g, c, a, b, own_base d hl, f⟩
theorem RwP.nil (e lo k : Nat) (W : World) : RwP e lo k W [] [] := fun i r _ hr => by simp at hr
theorem RwP.kept {e lo k : Nat} {W W' : World} {rs : List Rn} {xs : List Value} {row : Option Nat} (h : RwP e lo k W rs xs) (hg : W.grownBy W' row) (ho : OfP xs row) : RwP e lo k W' rs xs := fun i r hi hr => by
  obtain ⟨g, c, a, b, d, f⟩ := h i r hi hr
  exact ⟨g, c, a, b, d.kept hg (.inr (fun e => ho i _ g a rfl e.symm)), f⟩
theorem RwP.below {e lo k : Nat} {W W' : World} {rs : List Rn} {xs : List Value} (h : RwP e lo k W rs xs) (hb : Below W.heap.size W W') : RwP e lo k W' rs xs := fun i r hi hr => by
  obtain ⟨g, c, a, b, d, f⟩ := h i r hi hr
  exact ⟨g, c, a, b, own_below d hb, f⟩
theorem RwP.alloc {e lo k : Nat} {W : World} {rs : List Rn} {xs : List Value} (h : RwP e lo k W rs xs) (o : Obj) : RwP e lo k (W.alloc o) rs xs := h.below ((Below.refl _ _).alloc (Nat.le_refl _) _)
theorem RwP.other {e lo k : Nat} {W W' : World} {rs : List Rn} {xs x2 : List Value} {B2 e2 s2 n2 : Nat} {v2 : Value} (h : RwP e lo k W rs xs) (h2 : W.ownsRow B2 e2 s2 v2 n2 x2) (he : e ≠ e2) (hg : W.grownBy W' v2.ownBlock) : RwP e lo k W' rs xs := fun i r hi hr => by
  obtain ⟨g, c, a, b, d, f⟩ := h i r hi hr
  exact ⟨g, c, a, b, keep_other d h2 he hg, f⟩
/-- The blocks of the runs that stand: from the base on, below the heap's end. -/
theorem RwP.lt {e lo : Nat} {W : World} {rs : List Rn} {xs : List Value} (h : RwP e lo 0 W rs xs) (hx : xs.length = rs.length * 2) : ∀ (j : Nat) (v : Value) (g : Nat), xs[j * 2]? = some v → v.ownBlock = some g → lo ≤ g ∧ g < W.heap.size := fun j v g hj hv => by
  have := (List.getElem?_eq_some_iff.1 hj).1
  obtain ⟨r, hr⟩ : ∃ r, rs[j]? = some r := ⟨_, List.getElem?_eq_getElem (by omega)⟩
  obtain ⟨g', c, a, b, d, f⟩ := h j r (Nat.zero_le _) hr
  rw [hj] at a
  cases a
  exact d.lt g hv
theorem RwP.snoc {e lo : Nat} {W : World} {rs : List Rn} {xs : List Value} {r : Rn} {g c : Nat} (h : RwP e lo 0 W rs xs) (hx : xs.length = rs.length * 2) (hr : W.ownsRow lo e 2 (.slice (some ⟨g, 0, none⟩) r.1.length c) r.1.length (flat r.1)) (ho : OfP xs (some g)) :
    RwP e lo 0 W (rs ++ [r]) (xs ++ [.slice (some ⟨g, 0, none⟩) r.1.length c, .int .i64 r.2]) := fun i q _ hq => by
  by_cases hi : i < rs.length
  · rw [List.getElem?_append_left hi] at hq
    obtain ⟨g', c', a, b, d, f⟩ := h i q (Nat.zero_le _) hq
    refine ⟨g', c', by rw [List.getElem?_append_left (by omega)]; exact a, by rw [List.getElem?_append_left (by omega)]; exact b, d, fun j v hj hv => ?_⟩
    by_cases hjl : j * 2 < xs.length
    · rw [List.getElem?_append_left hjl] at hv
      exact f j v hj hv
    · have := (List.getElem?_eq_some_iff.1 hv).1
      simp at this
      have hjn : j * 2 = xs.length := by omega
      rw [List.getElem?_append_right (by omega), hjn, Nat.sub_self] at hv
      simp at hv
      subst hv
      intro e
      exact ho i _ g' a rfl e
  · have hil : i = rs.length := by
      have := (List.getElem?_eq_some_iff.1 hq).1
      simp at this; omega
    subst hil
    rw [List.getElem?_append_right (Nat.le_refl _), Nat.sub_self] at hq
    simp at hq
    subst hq
    refine ⟨g, c, by rw [List.getElem?_append_right (by omega), hx, Nat.sub_self]; rfl, by rw [List.getElem?_append_right (by omega), hx, show rs.length * 2 + 1 - rs.length * 2 = 1 by omega]; rfl, hr, fun j v hj hv => ?_⟩
    have hjl : j * 2 < xs.length := by
      have := (List.getElem?_eq_some_iff.1 hv).1
      simp at this; omega
    rw [List.getElem?_append_left hjl] at hv
    exact fun e => ho j v g hv e rfl
theorem RwP.last {e lo : Nat} {W W' : World} {rs : List Rn} {xs : List Value} {r r' : Rn} {g0 c0 g c : Nat} (h : RwP e lo 0 W (rs ++ [r]) xs) (hx : xs.length = (rs.length + 1) * 2) (h0 : xs[rs.length * 2]? = some (.slice (some ⟨g0, 0, none⟩) r.1.length c0)) (hg : W.grownBy W' (some g0))
    (hr : W'.ownsRow lo e 2 (.slice (some ⟨g, 0, none⟩) r'.1.length c) r'.1.length (flat r'.1)) (hgg : g = g0 ∨ W.heap.size ≤ g) (h2 : r'.2 = r.2) :
    RwP e lo 0 W' (rs ++ [r']) (xs.set (rs.length * 2) (.slice (some ⟨g, 0, none⟩) r'.1.length c)) := fun i q _ hq => by
  obtain ⟨gl, cl, al, bl, dl, fl⟩ := h rs.length r (Nat.zero_le _) (by simp)
  rw [h0] at al
  cases al
  by_cases hi : i < rs.length
  · rw [List.getElem?_append_left hi] at hq
    obtain ⟨g', c', a, b, d, f⟩ := h i q (Nat.zero_le _) (by rw [List.getElem?_append_left hi]; exact hq)
    have hne : g' ≠ g0 := fun e => fl i _ (by omega) a (by rw [e]; rfl)
    refine ⟨g', c', by rw [List.getElem?_set_ne (by omega)]; exact a, by rw [List.getElem?_set_ne (by omega)]; exact b, d.kept hg (.inr (by simp [Value.ownBlock]; exact hne)), fun j v hj hv => ?_⟩
    by_cases hjl : j = rs.length
    · subst hjl
      rw [List.getElem?_set_self (by omega)] at hv
      cases hv
      have hlt := (d.lt g' rfl).2
      simp only [Value.ownBlock, ne_eq, Option.some.injEq]
      rcases hgg with rfl | hgg
      · exact fun e => hne e.symm
      · omega
    · rw [List.getElem?_set_ne (by omega)] at hv
      exact f j v hj hv
  · have hil : i = rs.length := by
      have := (List.getElem?_eq_some_iff.1 hq).1
      simp at this; omega
    subst hil
    rw [List.getElem?_append_right (Nat.le_refl _), Nat.sub_self] at hq
    simp at hq
    subst hq
    refine ⟨g, c, by rw [List.getElem?_set_self (by omega)], by rw [List.getElem?_set_ne (by omega), bl, h2], hr, fun j v hj hv => ?_⟩
    rw [List.getElem?_set_ne (by omega)] at hv
    rcases hgg with rfl | hgg
    · exact fl j v hj hv
    · intro e
      have hj' := (List.getElem?_eq_some_iff.1 hv).1
      obtain ⟨q', hq'⟩ : ∃ q', (rs ++ [r])[j]? = some q' := ⟨_, List.getElem?_eq_getElem (by simp; omega)⟩
      obtain ⟨g', c', a, _, d, _⟩ := h j q' (Nat.zero_le _) hq'
      rw [hv] at a
      cases a
      have := (d.lt g' rfl).2
      simp [Value.ownBlock] at e
      omega
/-- What runs of the call's own look like. -/
theorem RwP.at {e lo B e1 : Nat} {W : World} {rs : List Rn} {xs : List Value} {v : Value} (h : RwP e lo 0 W rs xs) (ho : W.ownsRow B e1 2 v rs.length xs) : ∃ A cap, v = .slice A rs.length cap ∧ AtR W A rs ∧ (A = none ∨ ∃ g, A = some ⟨g, 0, none⟩) := by
  rcases ho.2 with ⟨rfl, h0⟩ | ⟨g, cap, cur, rfl, _⟩
  · obtain rfl : rs = [] := List.eq_nil_of_length_eq_zero h0
    exact ⟨none, 0, rfl, fun i r hr => by simp at hr, .inl rfl⟩
  · refine ⟨_, cap, rfl, fun i r hr => ?_, .inr ⟨g, rfl⟩⟩
    have hi := (List.getElem?_eq_some_iff.1 hr).1
    obtain ⟨g', c', a, b, d, _⟩ := h i r (Nat.zero_le _) hr
    exact ⟨g, 0, _, c', rfl, by rw [Nat.zero_add, ho.cellAt _ (by omega)]; exact a, by rw [Nat.zero_add, ho.cellAt _ (by omega)]; exact b, at_own d (fun _ _ h => h) (Nat.le_refl _)⟩
end Go.Proofs.YtocdinaomkmcbaaDoor
