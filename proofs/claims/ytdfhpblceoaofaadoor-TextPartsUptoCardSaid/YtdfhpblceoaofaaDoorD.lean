/-
  What is taken of a text, as a list; the contract of Pieces.
-/
import Derived.Test.YtdfhpblceoaofaaDoorC
import Derived.Deep.LoopGhost
import Derived.Lib.OthersKept
import Derived.Lib.QuoteLoop
namespace Go.Proofs.YtdfhpblceoaofaaDoor
open Go.ChangeShapes Go.WideShapes Go.ChangeAt Go.RowKit
set_option linter.unusedVariables false

theorem width_le4 (n b0 b1 b2 b3 : Nat) : 1 ≤ (Lib.decodeN n b0 b1 b2 b3).2 ∧ (Lib.decodeN n b0 b1 b2 b3).2 ≤ 4 := by
  unfold Lib.decodeN
  repeat' split
  all_goals simp
theorem dec_bd (s : ByteArray) (i : Nat) (h : i < s.size) : 1 ≤ (Utf8.decode s i).2 ∧ (Utf8.decode s i).2 ≤ 4 ∧ i + (Utf8.decode s i).2 ≤ s.size ∧ (Utf8.decode s i).1 ≤ 1114111 := by
  rw [Lib.decode_at]
  have a := width_le4 (s.size - i) (s.get! i).toNat (s.get! (i + 1)).toNat (s.get! (i + 2)).toNat (s.get! (i + 3)).toNat
  have b := Lib.decodeN_width_le (s.size - i) (s.get! i).toNat (s.get! (i + 1)).toNat (s.get! (i + 2)).toNat (s.get! (i + 3)).toNat (by omega)
  have c := Lib.decodeN_valid (s.size - i) (s.get! i).toNat (s.get! (i + 1)).toNat (s.get! (i + 2)).toNat (s.get! (i + 3)).toNat (UInt8.toNat_lt _)
  refine ⟨a.1, a.2, by omega, by omega⟩

/-- One thing that is taken: where, how many bytes, the rune (-1: a break). -/
structure Pc where
  at_ : Nat
  n : Nat
  r : Int

def pc (s : ByteArray) (i : Nat) : Pc := if Utf8.decode s i = (65533, 1) then ⟨i, 1, -1⟩ else ⟨i, (Utf8.decode s i).2, (Utf8.decode s i).1⟩
theorem pc_at (s : ByteArray) (i : Nat) : (pc s i).at_ = i := by unfold pc; split <;> rfl
theorem pc_n (s : ByteArray) (i : Nat) : (pc s i).n = (Utf8.decode s i).2 := by
  unfold pc; split
  · rename_i h; rw [h]
  · rfl
theorem pc_break {s : ByteArray} {i : Nat} (h : Utf8.decode s i = (65533, 1)) : pc s i = ⟨i, 1, -1⟩ := by unfold pc; rw [if_pos h]
theorem pc_rune {s : ByteArray} {i : Nat} (h : ¬ Utf8.decode s i = (65533, 1)) : pc s i = ⟨i, (Utf8.decode s i).2, (Utf8.decode s i).1⟩ := by unfold pc; rw [if_neg h]

def pcs (s : ByteArray) : Nat → Nat → List Pc
  | 0, _ => []
  | f + 1, i => if i < s.size then pc s i :: pcs s f (i + (pc s i).n) else []
theorem pcs_fuel (s : ByteArray) : ∀ (f i : Nat), s.size - i ≤ f → pcs s f i = pcs s (s.size - i) i := by
  intro f
  induction f with
  | zero => intro i h; rw [show s.size - i = 0 by omega]
  | succ f ih =>
    intro i h
    by_cases hi : i < s.size
    · have hb := dec_bd s i hi
      obtain ⟨g, hg⟩ : ∃ g, s.size - i = g + 1 := ⟨s.size - i - 1, by omega⟩
      rw [hg]
      simp only [pcs, if_pos hi, pc_n]
      rw [ih _ (by omega)]
      congr 1
      have e : s.size - (i + (Utf8.decode s i).2) ≤ g := by omega
      clear hb
      -- the two remainders agree at any fuel that is enough
      rw [← ih (i + (Utf8.decode s i).2) (by omega)]
      have : ∀ (a b j : Nat), s.size - j ≤ a → a ≤ b → pcs s a j = pcs s b j := by
        intro a
        induction a with
        | zero =>
          intro b j h1 h2
          cases b with
          | zero => rfl
          | succ b => simp only [pcs]; rw [if_neg (by omega)]
        | succ a iha =>
          intro b j h1 h2
          cases b with
          | zero => omega
          | succ b =>
            simp only [pcs]
            split
            · rename_i hj
              have hbj := dec_bd s j hj
              rw [iha b _ (by rw [pc_n]; omega) (by omega)]
            · rfl
      exact (this g f _ e (by omega)).symm
    · rw [show s.size - i = 0 by omega]
      simp only [pcs]; rw [if_neg hi]

/-- All that is taken of a text from a place on. -/
def G (s : ByteArray) (i : Nat) : List Pc := pcs s (s.size - i) i
theorem G_end {s : ByteArray} {i : Nat} (h : s.size ≤ i) : G s i = [] := by unfold G; rw [show s.size - i = 0 by omega]; rfl
theorem G_cons {s : ByteArray} {i : Nat} (h : i < s.size) : G s i = pc s i :: G s (i + (Utf8.decode s i).2) := by
  have hb := dec_bd s i h
  unfold G
  obtain ⟨g, hg⟩ : ∃ g, s.size - i = g + 1 := ⟨s.size - i - 1, by omega⟩
  rw [hg]
  simp only [pcs, if_pos h, pc_n]
  rw [pcs_fuel s g _ (by omega)]

/-- The cells of a piece of the document's own. -/
def cellsP (s : ByteArray) (p : Pc) : List Value := [.int .i64 (p.at_ : Int), .string (s.extract p.at_ (p.at_ + p.n)), .int .i32 p.r]
def flatP (s : ByteArray) (l : List Pc) : List Value := l.flatMap (cellsP s)
theorem flatP_snoc (s : ByteArray) (l : List Pc) (p : Pc) : flatP s (l ++ [p]) = flatP s l ++ cellsP s p := by simp [flatP]
theorem flatP_length (s : ByteArray) : ∀ l : List Pc, (flatP s l).length = l.length * 3
  | [] => rfl
  | p :: l => by
    have := flatP_length s l
    simp only [flatP, List.flatMap_cons, List.length_append, List.length_cons] at this ⊢
    rw [this]; simp [cellsP]; omega

theorem begins_break (s : ByteArray) (i e : Nat) (w : World) (hi : i < s.size) (he : e = min s.size (i + 4)) (hd : Utf8.decode s i = (65533, 1)) :
    Calls Tryd.prog 32 #[.string (s.extract i e)] w fun r w' => r = .returned (.tuple #[.int .i32 0, .int .i64 0]) ∧ Below w.heap.size w w' := by
  subst he
  have h1 : (s.extract i (min s.size (i + 4))).size = min s.size (i + 4) - i := by simp
  have := begins_any (s.extract i (min s.size (i + 4))) w (by omega) (by omega)
  rw [bg_decode s i hi, hd] at this
  exact this
theorem begins_rune (s : ByteArray) (i e : Nat) (w : World) (hi : i < s.size) (he : e = min s.size (i + 4)) (hd : ¬ Utf8.decode s i = (65533, 1)) :
    Calls Tryd.prog 32 #[.string (s.extract i e)] w fun r w' => r = .returned (.tuple #[.int .i32 ((Utf8.decode s i).1 : Int), .int .i64 ((Utf8.decode s i).2 : Int)]) ∧ Below w.heap.size w w' := by
  subst he
  have h1 : (s.extract i (min s.size (i + 4))).size = min s.size (i + 4) - i := by simp
  have := begins_any (s.extract i (min s.size (i + 4))) w (by omega) (by omega)
  rw [bg_decode s i hi] at this
  unfold bgd at this
  rw [if_neg hd] at this
  exact this

theorem own_below {w w' : World} {B e size n : Nat} {v : Value} {xs : List Value} (h : w.ownsRow B e size v n xs) (hb : Below w.heap.size w w') : w'.ownsRow B e size v n xs := by
  obtain ⟨h1, h2⟩ := h
  refine ⟨h1, ?_⟩
  rcases h2 with h2 | ⟨g, cap, cur, a, b, c, d⟩
  · exact .inl h2
  · exact .inr ⟨g, cap, cur, a, b, by rw [hb.block g (Array.getElem?_eq_some_iff.1 c).1]; exact c, d⟩
theorem info28 : (Tryd.prog.info? 28).map (fun i => (i.zero, i.size, i.bytes)) = some (some (.agg #[.int .i64 0, .string ByteArray.empty, .int .i32 0]), 3, 32) := by kernel_rfl
end Go.Proofs.YtdfhpblceoaofaaDoor
