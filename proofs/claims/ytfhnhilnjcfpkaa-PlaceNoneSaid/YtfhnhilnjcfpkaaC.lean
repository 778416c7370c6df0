/-
  Carried from another seat.
-/
import Derived.Test.YtfhnhilnjcfpkaaA
import Derived.Deep.RegionHeld3
import Derived.KernelRfl
import Derived.Laws.Pointers
import Derived.StillTactics
import Derived.OwnWalk
/-
  Places in memory; own and ref.
-/
namespace Go.Proofs.Ytfhnhilnjcfpkaa
open Go.ChangeShapes Go.WideShapes Go.ChangeAt Go.RowKit
set_option linter.unusedVariables false
def cel (p : Pl) : List Value := [.string p.1, .int .i64 p.2]
def flat (l : List Pl) : List Value := l.flatMap cel
theorem flat_get : ∀ (l : List Pl) (i : Nat) (p : Pl), l[i]? = some p → (flat l)[i * 2]? = some (.string p.1) ∧ (flat l)[i * 2 + 1]? = some (.int .i64 p.2) := by
  intro l
  induction l with
  | nil => intro i p h; simp at h
  | cons q l ih =>
    intro i p h
    cases i with
    | zero =>
      simp at h
      subst h
      exact ⟨rfl, rfl⟩
    | succ i =>
      have := ih i p (by simpa using h)
      simp only [flat, List.flatMap_cons, cel] at this ⊢
      rw [show (i + 1) * 2 = i * 2 + 1 + 1 by omega]
      simpa using this
theorem take_snoc' (l : List Pl) (k : Nat) (p : Pl) (h : l[k]? = some p) : l.take (k + 1) = l.take k ++ [p] := by
  rw [List.take_add_one, h]; rfl

/-- The cells of places behind an address. -/
def At (w : World) (A : Option Addr) (l : List Pl) : Prop :=
  ∀ i p, l[i]? = some p → ∃ g o, A = some ⟨g, o, none⟩ ∧ w.cell? ⟨g, o + i * 2, none⟩ = some (.string p.1) ∧ w.cell? ⟨g, o + i * 2 + 1, none⟩ = some (.int .i64 p.2)
theorem At.below {w w' : World} {A : Option Addr} {l : List Pl} {B : Nat} (h : At w A l) (hb : Below B w w') (hB : w.heap.size ≤ B) : At w' A l := fun i p hp => by
  obtain ⟨g, o, rfl, c0, c1⟩ := h i p hp
  have lg := World.block_lt_of_cell? w _ c0
  exact ⟨g, o, rfl, (hb.cell (p := ⟨g, _, none⟩) (by simp at lg ⊢; omega)).trans c0, (hb.cell (p := ⟨g, _, none⟩) (by simp at lg ⊢; omega)).trans c1⟩
theorem At.alloc {w : World} {A : Option Addr} {l : List Pl} (h : At w A l) (o : Obj) : At (w.alloc o) A l := h.below ((Below.refl _ w).alloc (Nat.le_refl _) o) (Nat.le_refl _)
theorem At.drew {w : World} {A : Option Addr} {l : List Pl} (h : At w A l) : At w.drew A l := h
theorem At.take {w : World} {A : Option Addr} {l : List Pl} (h : At w A l) (n : Nat) : At w A (l.take n) := fun i p hp => h i p (by
  rw [List.getElem?_take] at hp
  split at hp
  · exact hp
  · cases hp)
theorem at_own {w : World} {base g cap n : Nat} {e : TypeId} {l : List Pl} {xs : List Value} (h : w.ownsRow base e 2 (.slice (some ⟨g, 0, none⟩) n cap) n xs) (hx : ∀ (j : Nat) (u : Value), (flat l)[j]? = some u → xs[j]? = some u) (hn : l.length ≤ n) : At w (some ⟨g, 0, none⟩) l := fun i p hp => by
  have hi : i < l.length := (List.getElem?_eq_some_iff.1 hp).1
  obtain ⟨f0, f1⟩ := flat_get l i p hp
  exact ⟨g, 0, rfl, by rw [show 0 + i * 2 = i * 2 by omega, h.cellAt _ (by omega)]; exact hx _ _ f0, by rw [show 0 + i * 2 + 1 = i * 2 + 1 by omega, h.cellAt _ (by omega)]; exact hx _ _ f1⟩
theorem own_below {w w' : World} {B e size n : Nat} {v : Value} {xs : List Value} (h : w.ownsRow B e size v n xs) (hb : Below w.heap.size w w') : w'.ownsRow B e size v n xs := by
  refine h.kept (row := none) ⟨hb.os, hb.tape, hb.output, hb.size, fun j hj _ => hb.block j hj⟩ ?_
  cases v.ownBlock <;> simp
/-- The form of a row of the call's own. -/
theorem own_form {w : World} {base : Nat} {e : TypeId} {v : Value} {l : List Pl} (h : w.ownsRow base e 2 v l.length (flat l)) : ∃ A cap, v = .slice A l.length cap ∧ At w A l ∧ (∀ a, A = some a → base ≤ a.block ∧ a.block < w.heap.size) := by
  rcases Nat.eq_zero_or_pos l.length with h0 | h0
  · obtain rfl : l = [] := List.eq_nil_of_length_eq_zero h0
    rcases h.2 with ⟨rfl, _⟩ | ⟨g, cap, cur, rfl, hb, hg, _⟩
    · exact ⟨none, 0, rfl, fun i p hp => by simp at hp, fun a ha => by cases ha⟩
    · exact ⟨_, cap, rfl, fun i p hp => by simp at hp, fun a ha => by cases ha; exact ⟨hb, (Array.getElem?_eq_some_iff.1 hg).1⟩⟩
  · obtain ⟨g, cap, rfl, hb, hlt⟩ := h.form h0
    exact ⟨_, cap, rfl, at_own h (fun _ _ h => h) (Nat.le_refl _), fun a ha => by cases ha; exact ⟨hb, hlt⟩⟩

end Go.Proofs.Ytfhnhilnjcfpkaa
