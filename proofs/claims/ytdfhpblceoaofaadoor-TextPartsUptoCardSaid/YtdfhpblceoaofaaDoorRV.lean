/-
  What is left of quotes at a place: the lemmas for the document's own Unquote.
-/
import Derived.Test.YtdfhpblceoaofaaDoorRU
import Derived.StillTailTactics
namespace Go.Proofs.YtdfhpblceoaofaaDoor
open Go.ChangeShapes Go.WideShapes Go.ChangeAt Go.RowKit Go.Shelf
set_option linter.unusedVariables false

/-- What is left of quotes at a place. -/
def LeftU (s : ByteArray) (i : Nat) (pre : List UInt8) : Prop :=
  ∀ u : ByteArray, qtA u = s.data.toList → ∃ q t, s.data.toList.drop i = q ++ [34] ∧ QB q t ∧ pre ++ t = u.data.toList
theorem leftU_start (s : ByteArray) : LeftU s 1 [] := by
  intro u hu
  refine ⟨qtL u (LS u 0), u.data.toList, ?_, qtA_QB u, rfl⟩
  rw [← hu]; unfold qtA; simp
theorem leftU_end {s : ByteArray} {i : Nat} {pre : List UInt8} (h : LeftU s i pre) (hi : s.size ≤ i + 1) (u : ByteArray) (hu : qtA u = s.data.toList) : u = ⟨pre.toArray⟩ := by
  obtain ⟨q, t, e, hQ, hp⟩ := h u hu
  have hl := congrArg List.length e
  rw [List.length_drop, lenL, List.length_append] at hl
  have hq : q = [] := List.eq_nil_of_length_eq_zero (by simp at hl; omega)
  subst hq
  cases hQ
  simp at hp
  apply ByteArray.ext; simp [hp]
theorem leftU_step {s : ByteArray} {i : Nat} {pre : List UInt8} {c : UInt8} {k : Nat} (h : LeftU s i pre) (hi : i + 1 < s.size) (hT : Told (s.data.toList.drop i) c k true) : LeftU s (i + k) (pre ++ [c]) := by
  intro u hu
  obtain ⟨q, t, e, hQ, hp⟩ := h u hu
  have hl := congrArg List.length e
  rw [List.length_drop, lenL, List.length_append] at hl
  have hq : q ≠ [] := by intro hq; subst hq; simp at hl; omega
  obtain ⟨_, q', t', ht, hq', hQ'⟩ := hT.2 q t [] e hQ hq
  have hk := hT.1 rfl
  have hlen : q.length = k + q'.length := by
    have := congrArg List.length hq'
    rw [List.length_append, List.length_take] at this
    omega
  refine ⟨q', t', ?_, hQ', by rw [← hp, ht]; simp⟩
  rw [← List.drop_drop, e]
  have e2 : q ++ [34] = (s.data.toList.drop i).take k ++ (q' ++ [34]) := by rw [← List.append_assoc, ← hq']
  rw [e2]
  exact List.drop_left' (by rw [List.length_take]; omega)
theorem told_two {L : List UInt8} {c : UInt8} (h0 : L[0]? = some 92) (hl : L.length ≤ 2) (h1 : 1 ≤ L.length) : Told L c 1 true := by
  refine ⟨fun _ => ⟨Nat.le_refl _, h1⟩, fun q t rest hL hQ hq => ?_⟩
  exfalso
  have hlen := congrArg List.length hL
  rw [List.length_append, List.length_cons] at hlen
  rcases qb_inv hL hQ hq with ⟨c, q', t', e, _, h9, _⟩ | ⟨d', q', t', _, e, hd, ht, hq', h'⟩ | ⟨c', q', t', _, _, _, _, e4, _⟩
  · rw [h0] at e; cases e; exact absurd rfl h9
  · have := congrArg List.length hq'
    obtain ⟨h2, _⟩ := List.getElem?_eq_some_iff.1 e
    rw [List.length_append, List.length_take] at this
    omega
  · omega
theorem told_other {L : List UInt8} {d : UInt8} (h0 : L[0]? = some 92) (h1 : L[1]? = some d) (h : ∀ c' : UInt8, L[1]? = some 120 → L[2]? = some (hexd (c'.toNat / 16)) → L[3]? = some (hexd (c'.toNat % 16)) → 5 ≤ L.length → False) : Told L d 2 true := by
  by_cases hd : d = 92 ∨ d = 34
  · exact told_esc h0 h1 hd
  · have hl : 2 ≤ L.length := by obtain ⟨h, _⟩ := List.getElem?_eq_some_iff.1 h1; omega
    refine ⟨fun _ => ⟨by omega, hl⟩, fun q t rest hL hQ hq => ?_⟩
    have := (told_no h0 (fun d' e => by rw [← Option.some.inj (h1.symm.trans e)]; exact ⟨fun e => hd (.inl e), fun e => hd (.inr e)⟩) h).2 q t rest hL hQ hq
    exact absurd this.1 (by decide)
theorem dropK (s : ByteArray) (i k : Nat) (h : i + k < s.size) : (s.data.toList.drop i)[k]? = some (s[i + k]'h) := by
  rw [List.getElem?_drop]; exact getL s (i + k) h

theorem own_one {w3 : World} {B : Nat} {v' : Value} {pre : List UInt8} {c : UInt8} {x : Int} (hx : x = (c.toNat : Int)) (hown : w3.ownsRow B 5 1 v' (pre.length + 1) (Lib.byteCells pre ++ [.int .u8 x])) :
    w3.ownsRow B 5 1 v' (pre ++ [c]).length (Lib.byteCells (pre ++ [c])) := by
  subst hx
  rw [List.length_append, Lib.byteCells_append]; exact hown

theorem digit_is (x : UInt8) (a : Int) (h : dg x = a) (w : World) :
    Calls Tryd.prog 41 #[.int .u8 (x.toNat : Int)] w fun e W' => e = .returned (.int .i64 a) ∧ W' = w := by subst h; exact digit_any x w
theorem digit_eq (x : UInt8) (a : Int) (h : dg x = a) (w : World) :
    Calls Tryd.prog 41 #[.int .u8 (x.toNat : Int)] w fun e W' => e = .returned (.int .i64 a) ∧ w = W' := (digit_is x a h w).mono fun _ _ h => ⟨h.1, h.2.symm⟩
theorem hex_val {a b : Int} (ha0 : 0 ≤ a) (ha1 : a ≤ 15) (hb0 : 0 ≤ b) (hb1 : b ≤ 15) : 16 * a + b = ((UInt8.ofNat (a.toNat * 16 + b.toNat)).toNat : Int) := by
  rw [UInt8.toNat_ofNat']; omega
end Go.Proofs.YtdfhpblceoaofaaDoor
