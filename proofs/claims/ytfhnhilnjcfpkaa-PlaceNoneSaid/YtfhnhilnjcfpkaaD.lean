/-
  Carried from another seat.
-/
import Derived.Test.YtfhnhilnjcfpkaaC
/-
  same says yes of two slices that read as one list; lent, kept, spoil.
-/
namespace Go.Proofs.Ytfhnhilnjcfpkaa
open Go.ChangeShapes Go.WideShapes Go.ChangeAt Go.RowKit
set_option linter.unusedVariables false
theorem At.drewN {w : World} {A : Option Addr} {l : List Pl} (h : At w A l) (n : Nat) : At (w.drewN n) A l := h

theorem own_cap {w : World} {base size g n cap : Nat} {e : TypeId} {xs : List Value} (h : w.ownsRow base e size (.slice (some ⟨g, 0, none⟩) n cap) n xs) : n ≤ cap ∧ cap ≤ maxLen := by
  rcases h.2 with ⟨h', _⟩ | ⟨g', cap', cur, h', _, _, h1, h2, _⟩
  · simp at h'
  · simp only [Value.slice.injEq, Option.some.injEq, Addr.mk.injEq, and_true, true_and] at h'
    obtain ⟨rfl, rfl⟩ := h'
    exact ⟨h1, h2⟩
end Go.Proofs.Ytfhnhilnjcfpkaa
