/-
  What the program shows is what the document shows; how quotes are read back.
-/
import Derived.Test.YtdfhpblceoaofaaDoorRA
import Derived.Lib.MapLaws
namespace Go.Proofs.YtdfhpblceoaofaaDoor
open Go.ChangeShapes Go.WideShapes Go.ChangeAt Go.RowKit Go.Shelf
set_option linter.unusedVariables false

/-- A thing's bytes. -/
def pb (s : ByteArray) (i : Nat) : List UInt8 := (s.data.toList.drop i).take (Utf8.decode s i).2
theorem pcS_pb (s : ByteArray) (i : Nat) : (pcS s (pc s i)).data.toList = pb s i := by
  unfold pcS pb
  rw [pc_at, pc_n, ByteArray.data_extract, Array.toList_extract]
  simp [List.extract]
theorem pb_rune (s : ByteArray) (i : Nat) (h : i < s.size) (hd : ¬ Utf8.decode s i = (65533, 1)) : Lib.encodeRune (pc s i).r = pb s i := by
  have hne : s.data.toList.drop i ≠ [] := by
    intro e; have := congrArg List.length e; simp at this; have : s.data.size = s.size := rfl; omega
  have := Lib.encode_decode (s.data.toList.drop i) hne (by rw [Lib.decodeL_drop]; exact fun e => hd (Prod.ext e.1 e.2))
  rw [Lib.decodeL_drop] at this
  rw [pc_rune hd]; exact this
theorem pb_head (s : ByteArray) (i : Nat) (h : i < s.size) : ∃ t, pb s i = (s[i]'h) :: t := by
  have hb := dec_bd s i h
  obtain ⟨k, hk⟩ : ∃ k, (Utf8.decode s i).2 = k + 1 := ⟨(Utf8.decode s i).2 - 1, by omega⟩
  have e : s.data.toList.drop i = (s[i]'h) :: s.data.toList.drop (i + 1) := List.drop_eq_getElem_cons (by simpa using h)
  unfold pb
  rw [hk, e]; exact ⟨_, rfl⟩
theorem pcS_head (s : ByteArray) (i : Nat) (h : i < s.size) : (pcS s (pc s i)).get! 0 = s[i]'h := by
  rw [get_at, pcS_pb]
  obtain ⟨t, ht⟩ := pb_head s i h
  rw [ht]; rfl
theorem pc_neg {s : ByteArray} {i : Nat} (h : i < s.size) (hd : Utf8.decode s i = (65533, 1)) : inDig (pc s i).r = true := by rw [pc_break hd]; rfl
theorem sh_eq (s : ByteArray) (i : Nat) (h : i < s.size) : shB (pc s i).r (s[i]'h) = rsL false (pc s i).r (pcS s (pc s i)) := by
  unfold shB rsL
  rw [pcS_head s i h, pcS_pb]
  cases hr : inDig (pc s i).r
  · have hd : ¬ Utf8.decode s i = (65533, 1) := fun e => by rw [pc_neg h e] at hr; cases hr
    have hp := pb_rune s i h hd
    simp only [Bool.false_eq_true, if_false, false_and, or_false]
    split
    · rename_i h9
      rw [← hp, h9]; rfl
    · exact hp
  · simp only [if_true]
theorem qt_eq (s : ByteArray) (i : Nat) (h : i < s.size) : qtB (pc s i).r (s[i]'h) = rsL true (pc s i).r (pcS s (pc s i)) := by
  unfold qtB
  rw [sh_eq s i h]
  unfold rsL
  rw [pcS_head s i h, pcS_pb]
  by_cases h3 : (pc s i).r = 34
  · rw [h3]; rfl
  · simp [h3]
theorem sh_map (s : ByteArray) : ∀ l : List (Sub s), shL s l = raL false s (l.map fun x => pc s x.1)
  | [] => rfl
  | x :: l => by
    have ih := sh_map s l
    unfold shL raL at ih ⊢
    rw [List.flatMap_cons, List.map_cons, List.flatMap_cons, ih, sh_eq s x.1 x.2]
theorem qt_map (s : ByteArray) : ∀ l : List (Sub s), qtL s l = raL true s (l.map fun x => pc s x.1)
  | [] => rfl
  | x :: l => by
    have ih := qt_map s l
    unfold qtL raL at ih ⊢
    rw [List.flatMap_cons, List.map_cons, List.flatMap_cons, ih, qt_eq s x.1 x.2]
theorem ws_map (s : ByteArray) : ∀ l : List (Sub s), wsum l = rwsum (l.map fun x => pc s x.1)
  | [] => rfl
  | x :: l => by
    have ih := ws_map s l
    have e : wd (pc s x.1).r = rsW false (pc s x.1).r := by unfold wd rsW; simp
    unfold wsum rwsum at ih ⊢
    rw [List.map_cons, List.map_cons, List.map_cons, List.sum_cons, List.sum_cons, ih, e]
theorem shL_raL (s : ByteArray) : shL s (LS s 0) = raL false s (G s 0) := (sh_map s _).trans (congrArg _ (LS_G s))
theorem qtL_raL (s : ByteArray) : qtL s (LS s 0) = raL true s (G s 0) := (qt_map s _).trans (congrArg _ (LS_G s))
theorem wsum_rwsum (s : ByteArray) : wsum (LS s 0) = rwsum (G s 0) := (ws_map s _).trans (congrArg _ (LS_G s))

/-- What stands in quotes, and what it says. -/
inductive QB : List UInt8 → List UInt8 → Prop
  | nil : QB [] []
  | plain {c : UInt8} {q t : List UInt8} : c ≠ 34 → c ≠ 92 → QB q t → QB (c :: q) (c :: t)
  | esc {d : UInt8} {q t : List UInt8} : (d = 92 ∨ d = 34) → QB q t → QB (92 :: d :: q) (d :: t)
  | hex {c : UInt8} {q t : List UInt8} : QB q t → QB (92 :: 120 :: hexd (c.toNat / 16) :: hexd (c.toNat % 16) :: q) (c :: t)
theorem QB.plains {q t : List UInt8} (h : QB q t) : ∀ l : List UInt8, (∀ c ∈ l, c ≠ 34 ∧ c ≠ 92) → QB (l ++ q) (l ++ t)
  | [], _ => h
  | c :: l, hl => .plain (hl c (by simp)).1 (hl c (by simp)).2 (QB.plains h l (fun x hx => hl x (by simp [hx])))

theorem enc_one {r : Int} (h0 : 0 ≤ r) (h1 : r ≤ 127) : Lib.encodeRune r = [r.toNat.toUInt8] := by
  unfold Lib.encodeRune; rw [Lib.encodeRuneZ_one h0 h1]; rfl
theorem enc_plain {r : Int} (h0 : 0 ≤ r) (h3 : r ≠ 34) (h9 : r ≠ 92) : ∀ c ∈ Lib.encodeRune r, c ≠ 34 ∧ c ≠ 92 := by
  intro c hc
  have key : ∀ z : Int, 0 ≤ z → z ≤ 255 → z ≠ 34 → z ≠ 92 → z.toNat.toUInt8 ≠ 34 ∧ z.toNat.toUInt8 ≠ 92 := by
    intro z a b c d
    have e : (z.toNat.toUInt8).toNat = z.toNat := by simp; omega
    refine ⟨fun h => ?_, fun h => ?_⟩ <;> (rw [h] at e; simp at e; omega)
  unfold Lib.encodeRune at hc
  obtain ⟨z, hz, rfl⟩ := List.mem_map.1 hc
  unfold Lib.encodeRuneZ at hz
  split at hz
  · simp at hz; subst hz; exact key _ (by omega) (by omega) h3 h9
  · split at hz
    · simp at hz; rcases hz with rfl | rfl <;> exact key _ (by omega) (by omega) (by omega) (by omega)
    · split at hz
      · simp at hz; rcases hz with rfl | rfl | rfl <;> exact key _ (by omega) (by omega) (by omega) (by omega)
      · split at hz
        · simp at hz; rcases hz with rfl | rfl | rfl | rfl <;> exact key _ (by omega) (by omega) (by omega) (by omega)
        · simp at hz; rcases hz with rfl | rfl | rfl <;> exact key _ (by omega) (by omega) (by omega) (by omega)

/-- One thing's quotes are read as its bytes. -/
theorem QB.thing {s : ByteArray} {i : Nat} (h : i < s.size) {q t : List UInt8} (hq : QB q t) : QB (qtB (pc s i).r (s[i]'h) ++ q) (pb s i ++ t) := by
  obtain ⟨l, hl⟩ := pb_head s i h
  unfold qtB shB
  cases hr : inDig (pc s i).r
  · have hd : ¬ Utf8.decode s i = (65533, 1) := fun e => by rw [pc_neg h e] at hr; cases hr
    have hp := pb_rune s i h hd
    have h0 : 0 ≤ (pc s i).r := by have := of_decide_eq_false hr; omega
    simp only [Bool.false_eq_true, if_false]
    by_cases h3 : (pc s i).r = 34
    · rw [if_pos h3, ← hp, h3]; exact .esc (.inr rfl) hq
    · rw [if_neg h3]
      by_cases h9 : (pc s i).r = 92
      · rw [if_pos h9, ← hp, h9]; exact .esc (.inl rfl) hq
      · rw [if_neg h9, hp]
        refine QB.plains hq _ ?_
        rw [← hp]; exact enc_plain h0 h3 h9
  · have hne : ¬ (pc s i).r = 34 := fun e => by rw [e] at hr; cases hr
    rw [if_neg hne]
    simp only [if_true]
    have one : pb s i = [s[i]'h] := by
      by_cases hd : Utf8.decode s i = (65533, 1)
      · have e := hl
        unfold pb at hl ⊢
        rw [hd] at hl ⊢
        have hlen := congrArg List.length hl
        simp at hlen
        rw [hl]
        cases l with
        | nil => rfl
        | cons a l => simp at hlen; omega
      · have hp := pb_rune s i h hd
        have h0 : 0 ≤ (pc s i).r := by rw [pc_rune hd]; simp
        have h1 : (pc s i).r ≤ 127 := by have := of_decide_eq_true hr; omega
        rw [enc_one h0 h1] at hp
        rw [hl] at hp ⊢
        cases l with
        | nil => rfl
        | cons a l => simp at hp
    rw [one]; exact .hex hq
theorem QB.things (s : ByteArray) : ∀ f i, s.size - i ≤ f → QB (qtL s (LS s i)) (s.data.toList.drop i)
  | 0, i, h => by
    rw [LS_end i (by omega), List.drop_eq_nil_of_le (by have : s.data.size = s.size := rfl
                                                        simp; omega)]; exact .nil
  | f + 1, i, h => by
    by_cases hi : i < s.size
    · have hb := dec_bd s i hi
      have ih := QB.things s f (i + (Utf8.decode s i).2) (by omega)
      rw [LS_cons i hi]
      have e : s.data.toList.drop i = pb s i ++ s.data.toList.drop (i + (Utf8.decode s i).2) := by
        unfold pb; rw [← List.drop_drop]; exact (List.take_append_drop _ _).symm
      rw [e]
      exact QB.thing hi ih
    · rw [LS_end i (by omega), List.drop_eq_nil_of_le (by have : s.data.size = s.size := rfl
                                                          simp; omega)]; exact .nil
/-- The quotes of a text say the text. -/
theorem qtA_QB (s : ByteArray) : QB (qtL s (LS s 0)) s.data.toList := by
  have := QB.things s (s.size - 0) 0 (Nat.le_refl _)
  simpa using this
end Go.Proofs.YtdfhpblceoaofaaDoor
