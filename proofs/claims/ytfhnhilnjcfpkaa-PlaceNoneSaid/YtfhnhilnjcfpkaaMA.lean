/-
  Carried from another seat.
-/
import Derived.Test.YtfhnhilnjcfpkaaRows
import Derived.Test.YtfhnhilnjcfpkaaShelf
import Derived.Lib.AtoiAll
import Derived.Lib.ItoaMem
import Derived.Lib.IndexMore
import Derived.Lib.IndexLaws
import Derived.Lib.ItoaLen
/-
  The mathematics of places and their texts: what a place's text is, that it is read back, that texts part at the three bytes between.
-/
namespace Go.Proofs.Ytfhnhilnjcfpkaa
set_option linter.unusedVariables false
abbrev Pl := ByteArray × Int
def okB (c : UInt8) : Bool := decide (33 ≤ c.toNat ∧ c.toNat ≤ 126 ∧ c.toNat ≠ 58)
def may (p : Pl) : Bool := decide (1 ≤ p.1.size ∧ p.1.size ≤ 120 ∧ 0 ≤ p.2 ∧ p.2 ≤ 1048576) && p.1.data.toList.all okB
def chk (l : List Pl) : Int := if l.all may then (if l.length ≤ 64 then 0 else 31) else 30
def txP (p : Pl) : List UInt8 := p.1.data.toList ++ 58 :: Lib.itoa p.2
theorem may_iff {p : Pl} : may p = true ↔ 1 ≤ p.1.size ∧ p.1.size ≤ 120 ∧ 0 ≤ p.2 ∧ p.2 ≤ 1048576 ∧ ∀ c ∈ p.1.data.toList, 33 ≤ c.toNat ∧ c.toNat ≤ 126 ∧ c.toNat ≠ 58 := by
  unfold may okB
  simp only [Bool.and_eq_true, decide_eq_true_eq, List.all_eq_true]
  constructor
  · rintro ⟨⟨a, b, c, d⟩, e⟩; exact ⟨a, b, c, d, e⟩
  · rintro ⟨a, b, c, d, e⟩; exact ⟨⟨a, b, c, d⟩, e⟩

/-- What a part of a text is read as. -/
def rd (s : List UInt8) : Option Pl :=
  match Lib.atoiAll (Lib.cut s [58]).2.1 with
  | .ok v => if may (⟨(Lib.cut s [58]).1.toArray⟩, v) && (txP (⟨(Lib.cut s [58]).1.toArray⟩, v) == s) then some (⟨(Lib.cut s [58]).1.toArray⟩, v) else none
  | _ => none
theorem chk_ok {l : List Pl} : chk l = 0 ↔ (∀ p ∈ l, may p = true) ∧ l.length ≤ 64 := by
  unfold chk
  by_cases h : l.all may = true
  · rw [if_pos h]
    by_cases h2 : l.length ≤ 64
    · rw [if_pos h2]; exact ⟨fun _ => ⟨List.all_eq_true.1 h, h2⟩, fun _ => rfl⟩
    · rw [if_neg h2]; exact ⟨fun h => by omega, fun h => absurd h.2 h2⟩
  · rw [if_neg h]; exact ⟨fun h => by omega, fun h' => absurd (List.all_eq_true.2 h'.1) h⟩
end Go.Proofs.Ytfhnhilnjcfpkaa
