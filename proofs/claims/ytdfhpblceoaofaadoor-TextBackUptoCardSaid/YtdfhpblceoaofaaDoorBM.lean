/-
  What is shown can be read back, and holds nothing that is shown by digits.
-/
import Derived.Test.YtdfhpblceoaofaaDoorMA
import Derived.Test.YtdfhpblceoaofaaDoorWM
import Derived.Test.YtdfhpblceoaofaaDoorRV
import Derived.Lib.TrimUEq
namespace Go.Proofs.YtdfhpblceoaofaaDoor
open Go.ChangeShapes Go.WideShapes Go.ChangeAt Go.RowKit Go.Shelf
set_option linter.unusedVariables false

theorem decodeN_low (n b0 b1 b2 b3 : Nat) (h : (Lib.decodeN n b0 b1 b2 b3).2 = 1) (hv : ¬ Lib.decodeN n b0 b1 b2 b3 = (65533, 1)) : b0 < 128 := by
  rcases Nat.lt_or_ge b0 128 with h' | h'
  · exact h'
  · exfalso
    apply hv
    unfold Lib.decodeN at h ⊢
    rw [if_neg (by omega)] at h ⊢
    split
    · rename_i c; rw [if_pos c] at h
      split
      · rename_i d; rw [if_pos d] at h; simp at h
      · rfl
    · rename_i c; rw [if_neg c] at h
      split
      · rename_i c2; rw [if_pos c2] at h
        split
        · rename_i d; rw [if_pos d] at h; simp at h
        · rfl
      · rename_i c2; rw [if_neg c2] at h
        split
        · rename_i c3; rw [if_pos c3] at h
          split
          · rename_i d; rw [if_pos d] at h; simp at h
          · rfl
        · rfl
theorem dec_again (L rest : List UInt8) (hne : L ≠ []) (hv : ¬ Lib.decodeL L = (65533, 1)) : Lib.decodeL (L.take (Lib.decodeL L).2 ++ rest) = Lib.decodeL L := by
  have hlen : 1 ≤ L.length := by cases L with | nil => exact absurd rfl hne | cons a l => simp
  have hN := Lib.decodeL_N L
  have h1 := Lib.decodeN_width_le L.length (L.getD 0 0).toNat (L.getD 1 0).toNat (L.getD 2 0).toNat (L.getD 3 0).toNat hlen
  have h2 := width_le4 L.length (L.getD 0 0).toNat (L.getD 1 0).toNat (L.getD 2 0).toNat (L.getD 3 0).toNat
  rw [← hN] at h1 h2
  have hg : ∀ j, j < (Lib.decodeL L).2 → (L.take (Lib.decodeL L).2 ++ rest).getD j 0 = L.getD j 0 := by
    intro j hj
    rw [List.getD_eq_getElem?_getD, List.getD_eq_getElem?_getD, List.getElem?_append_left (by rw [List.length_take]; omega), List.getElem?_take, if_pos hj]
  have hll : (L.take (Lib.decodeL L).2 ++ rest).length = (Lib.decodeL L).2 + rest.length := by rw [List.length_append, List.length_take]; omega
  rw [Lib.decodeL_N (L.take (Lib.decodeL L).2 ++ rest), hll, hg 0 (by omega)]
  by_cases hk : (Lib.decodeL L).2 = 1
  · have hlow := decodeN_low _ _ _ _ _ (by rw [← hN]; exact hk) (by rw [← hN]; exact hv)
    rw [Lib.decodeN_ascii _ _ _ _ _ hlow, hN, Lib.decodeN_ascii _ _ _ _ _ hlow]
  · have hc := decodeN_cut L.length (Lib.decodeL L).2 (L.getD 0 0).toNat (L.getD 1 0).toNat (L.getD 2 0).toNat (L.getD 3 0).toNat (L.getD 1 0).toNat (L.getD 2 0).toNat (L.getD 3 0).toNat (by rw [← hN]; omega) (by omega) h1 (fun _ => rfl) (fun _ => rfl) (fun _ => rfl)
    rw [Lib.decodeN_more (Lib.decodeL L).2 ((Lib.decodeL L).2 + rest.length) (L.getD 0 0).toNat (L.getD 1 0).toNat (L.getD 2 0).toNat (L.getD 3 0).toNat _ _ _ (by omega) (by omega) (by rw [hc, ← hN]) (fun h => by rw [hg 1 h]) (fun h => by rw [hg 2 h]) (fun h => by rw [hg 3 h]), hc, ← hN]

/-- A text of things none of which is shown by digits. -/
inductive Gd : List UInt8 → Prop
  | nil : Gd []
  | ascii {c : UInt8} {rest : List UInt8} : 32 ≤ c.toNat → c.toNat < 127 → Gd rest → Gd (c :: rest)
  | rune {L rest : List UInt8} : L ≠ [] → ¬ Lib.decodeL L = (65533, 1) → inDig ((Lib.decodeL L).1 : Int) = false → Gd rest → Gd (L.take (Lib.decodeL L).2 ++ rest)
theorem inDig_low {n : Nat} (h : 32 ≤ n) (h2 : n < 127) : inDig (n : Int) = false := by
  unfold inDig; simp; omega
theorem drop_size {s : ByteArray} {i : Nat} : (s.data.toList.drop i).length = s.size - i := by rw [List.length_drop]; simp
theorem Gd.things {l : List UInt8} (h : Gd l) : ∀ (s : ByteArray) (i : Nat), s.data.toList.drop i = l → ∀ p ∈ G s i, inDig p.r = false := by
  induction h with
  | nil =>
    intro s i hd p hp
    have := congrArg List.length hd
    rw [drop_size] at this
    rw [G_end (by simp at this; omega)] at hp
    simp at hp
  | @ascii c rest h1 h2 _ ih =>
    intro s i hd p hp
    have hl := congrArg List.length hd
    rw [drop_size] at hl
    have hi : i < s.size := by simp at hl; omega
    have hdec : Utf8.decode s i = (c.toNat, 1) := by
      rw [← Lib.decodeL_drop, hd, Lib.decodeL_N]
      exact Lib.decodeN_ascii _ _ _ _ _ (by show c.toNat < 128; omega)
    rw [G_cons hi, List.mem_cons] at hp
    rcases hp with rfl | hp
    · rw [pc_rune (by rw [hdec]; simp; omega), hdec]
      exact inDig_low h1 h2
    · rw [hdec] at hp
      exact ih s (i + 1) (by rw [← List.drop_drop, hd]; rfl) p hp
  | @rune L rest hne hv hr _ ih =>
    intro s i hd p hp
    have hk : 1 ≤ (Lib.decodeL L).2 ∧ (Lib.decodeL L).2 ≤ L.length := by
      rw [Lib.decodeL_N]
      exact ⟨(width_le4 _ _ _ _ _).1, Lib.decodeN_width_le _ _ _ _ _ (by cases L with | nil => exact absurd rfl hne | cons a l => simp)⟩
    have hl := congrArg List.length hd
    rw [drop_size, List.length_append, List.length_take] at hl
    have hi : i < s.size := by omega
    have hdec : Utf8.decode s i = Lib.decodeL L := by
      rw [← Lib.decodeL_drop, hd]; exact dec_again L rest hne hv
    rw [G_cons hi, List.mem_cons] at hp
    rcases hp with rfl | hp
    · rw [pc_rune (by rw [hdec]; exact hv), hdec]; exact hr
    · rw [hdec] at hp
      refine ih s _ ?_ p hp
      rw [← List.drop_drop, hd]
      exact List.drop_left' (by rw [List.length_take]; omega)

theorem hexd_low : ∀ n < 16, 32 ≤ (hexd n).toNat ∧ (hexd n).toNat < 127 := by decide
theorem Gd.piece {q : Bool} {s : ByteArray} {i : Nat} (hi : i < s.size) {rest : List UInt8} (h : Gd rest) : Gd (rsL q (pc s i).r (pcS s (pc s i)) ++ rest) := by
  unfold rsL
  cases hr : inDig (pc s i).r
  · have hd : ¬ Utf8.decode s i = (65533, 1) := fun e => by rw [pc_neg hi e] at hr; cases hr
    have hL : s.data.toList.drop i ≠ [] := fun e => by have := congrArg List.length e; rw [drop_size] at this; simp at this; omega
    have hrune : Gd (pb s i ++ rest) := by
      unfold pb
      have := Gd.rune (L := s.data.toList.drop i) (rest := rest) hL (by rw [Lib.decodeL_drop]; exact hd) (by
        rw [pc_rune hd] at hr
        rw [Lib.decodeL_drop]; exact hr) h
      rw [Lib.decodeL_drop] at this; exact this
    simp only [Bool.false_eq_true, if_false]
    split
    · rw [pcS_pb]; exact .ascii (by decide) (by decide) hrune
    · rw [pcS_pb]; exact hrune
  · simp only [if_true]
    have hc := UInt8.toNat_lt ((pcS s (pc s i)).get! 0)
    have k1 := hexd_low (((pcS s (pc s i)).get! 0).toNat / 16) (by omega)
    have k2 := hexd_low (((pcS s (pc s i)).get! 0).toNat % 16) (by omega)
    exact .ascii (by decide) (by decide) (.ascii (by decide) (by decide) (.ascii k1.1 k1.2 (.ascii k2.1 k2.2 h)))
theorem Gd.all (q : Bool) (s : ByteArray) : ∀ (f i : Nat) (rest : List UInt8), s.size - i ≤ f → Gd rest → Gd (raL q s (G s i) ++ rest)
  | 0, i, rest, h, hr => by rw [G_end (by omega)]; exact hr
  | f + 1, i, rest, h, hr => by
    by_cases hi : i < s.size
    · have hb := dec_bd s i hi
      rw [G_cons hi]
      have := Gd.piece (q := q) hi (Gd.all q s f (i + (Utf8.decode s i).2) rest (by omega) hr)
      simpa [raL] using this
    · rw [G_end (by omega)]; exact hr
/-- What is shown of a text. -/
theorem show_good (s x : ByteArray) (hx : x.data.toList = shL s (LS s 0)) : ∀ p ∈ G x 0, inDig p.r = false := by
  refine Gd.things (l := shL s (LS s 0)) ?_ x 0 (by rw [List.drop_zero]; exact hx)
  rw [shL_raL]
  have := Gd.all false s _ 0 [] (Nat.le_refl _) .nil
  simpa using this
theorem quote_good (s x : ByteArray) (hx : x.data.toList = qtA s) : ∀ p ∈ G x 0, inDig p.r = false := by
  refine Gd.things (l := qtA s) ?_ x 0 (by rw [List.drop_zero]; exact hx)
  unfold qtA
  rw [qtL_raL]
  exact .ascii (by decide) (by decide) (Gd.all true s _ 0 [34] (Nat.le_refl _) (.ascii (by decide) (by decide) .nil))
theorem bks_none {l : List Pc} (h : ∀ p ∈ l, inDig p.r = false) : bks l = [] := by
  unfold bks
  rw [List.map_eq_nil_iff, List.filter_eq_nil_iff]
  intro p hp hr
  have e : p.r = -1 := by simpa using hr
  have := h p hp
  rw [e] at this; cases this

/-! ### Reading back -/
inductive SB : List UInt8 → List UInt8 → Prop
  | nil : SB [] []
  | plain {c : UInt8} {q t : List UInt8} : c ≠ 92 → SB q t → SB (c :: q) (c :: t)
  | esc {q t : List UInt8} : SB q t → SB (92 :: 92 :: q) (92 :: t)
  | hex {c : UInt8} {q t : List UInt8} : SB q t → SB (92 :: 120 :: hexd (c.toNat / 16) :: hexd (c.toNat % 16) :: q) (c :: t)
theorem SB.plains {q t : List UInt8} (h : SB q t) : ∀ l : List UInt8, (∀ c ∈ l, c ≠ 92) → SB (l ++ q) (l ++ t)
  | [], _ => h
  | c :: l, hl => .plain (hl c (by simp)) (SB.plains h l (fun x hx => hl x (by simp [hx])))
theorem hexd_inj {a b : Nat} (ha : a < 16) (hb : b < 16) (h : hexd a = hexd b) : a = b := by
  have h1 := dg_hex a ha
  have h2 := dg_hex b hb
  rw [h, h2] at h1
  omega
theorem SB.det {q t : List UInt8} (h : SB q t) : ∀ {t' : List UInt8}, SB q t' → t = t' := by
  induction h with
  | nil => intro t' h'; cases h'; rfl
  | plain hc _ ih =>
    intro t' h'
    cases h' with
    | plain _ hq => rw [ih hq]
    | esc _ => exact absurd rfl hc
    | hex _ => exact absurd rfl hc
  | esc _ ih =>
    intro t' h'
    cases h' with
    | plain hc _ => exact absurd rfl hc
    | esc hq => rw [ih hq]
  | @hex c q t _ ih =>
    intro t' h'
    have hc := UInt8.toNat_lt c
    generalize h1 : hexd (c.toNat / 16) = x1 at h'
    generalize h2 : hexd (c.toNat % 16) = x2 at h'
    cases h' with
    | plain hc _ => exact absurd rfl hc
    | @hex c' _ t2 hq =>
      have hc' := UInt8.toNat_lt c'
      have e1 := hexd_inj (by omega) (by omega) h1
      have e2 := hexd_inj (by omega) (by omega) h2
      have : c = c' := UInt8.toNat_inj.1 (by omega)
      rw [this, ih hq]
theorem SB.thing {s : ByteArray} {i : Nat} (h : i < s.size) {q t : List UInt8} (hq : SB q t) : SB (shB (pc s i).r (s[i]'h) ++ q) (pb s i ++ t) := by
  obtain ⟨l, hl⟩ := pb_head s i h
  unfold shB
  cases hr : inDig (pc s i).r
  · have hd : ¬ Utf8.decode s i = (65533, 1) := fun e => by rw [pc_neg h e] at hr; cases hr
    have hp := pb_rune s i h hd
    have h0 : 0 ≤ (pc s i).r := by have := of_decide_eq_false hr; omega
    simp only [Bool.false_eq_true, if_false]
    by_cases h9 : (pc s i).r = 92
    · rw [if_pos h9, ← hp, h9]; exact .esc hq
    · rw [if_neg h9, hp]
      refine SB.plains hq _ ?_
      by_cases h3 : (pc s i).r = 34
      · rw [← hp, h3]; decide
      · rw [← hp]; exact fun c hc => (enc_plain h0 h3 h9 c hc).2
  · simp only [if_true]
    have one : pb s i = [s[i]'h] := by
      by_cases hd : Utf8.decode s i = (65533, 1)
      · unfold pb at hl ⊢
        rw [hd] at hl ⊢
        have hlen := congrArg List.length hl
        simp at hlen
        rw [hl]
        cases l with
        | nil => rfl
        | cons a l => simp at hlen; omega
      · have hp := pb_rune s i h hd
        have h0 : 0 ≤ (pc s i).r := by rw [pc_rune hd]; simp
        have h1 : (pc s i).r ≤ 127 := by have := of_decide_eq_true hr; omega
        rw [enc_one h0 h1] at hp
        rw [hl] at hp ⊢
        cases l with
        | nil => rfl
        | cons a l => simp at hp
    rw [one]; exact .hex hq
theorem SB.things (s : ByteArray) : ∀ f i, s.size - i ≤ f → SB (shL s (LS s i)) (s.data.toList.drop i)
  | 0, i, h => by
    rw [LS_end i (by omega), List.drop_eq_nil_of_le (by have : s.data.size = s.size := rfl
                                                        simp; omega)]; exact .nil
  | f + 1, i, h => by
    by_cases hi : i < s.size
    · have hb := dec_bd s i hi
      have ih := SB.things s f (i + (Utf8.decode s i).2) (by omega)
      rw [LS_cons i hi]
      have e : s.data.toList.drop i = pb s i ++ s.data.toList.drop (i + (Utf8.decode s i).2) := by
        unfold pb; rw [← List.drop_drop]; exact (List.take_append_drop _ _).symm
      rw [e]
      exact SB.thing hi ih
    · rw [LS_end i (by omega), List.drop_eq_nil_of_le (by have : s.data.size = s.size := rfl
                                                          simp; omega)]; exact .nil
/-- Unlike texts are shown unlike. -/
theorem show_inj {s t : ByteArray} (h : shL s (LS s 0) = shL t (LS t 0)) : s = t := by
  have h1 := SB.things s (s.size - 0) 0 (Nat.le_refl _)
  have h2 := SB.things t (t.size - 0) 0 (Nat.le_refl _)
  rw [h] at h1
  have := h1.det h2
  simp only [List.drop_zero] at this
  apply ByteArray.ext; exact Array.toList_inj.1 this
end Go.Proofs.YtdfhpblceoaofaaDoor
