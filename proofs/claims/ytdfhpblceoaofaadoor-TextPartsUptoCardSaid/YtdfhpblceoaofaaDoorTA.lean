/-
  What is taken of a text, one after another; cuts at two widths.
-/
import Derived.Test.YtdfhpblceoaofaaDoorLQ
namespace Go.Proofs.YtdfhpblceoaofaaDoor
open Go.ChangeShapes Go.WideShapes Go.ChangeAt Go.RowKit Go.Shelf
set_option linter.unusedVariables false

/-- The bytes that say a rune. -/
theorem enc_eq (r : Int) (h0 : 0 ≤ r) (h1 : r ≤ 1114111) : (Utf8.encode r).data.toList = Lib.encodeRune r := by
  obtain ⟨n, rfl⟩ := Int.eq_ofNat_of_zero_le h0
  have u (x : Nat) : UInt8.ofNat x = (x : Int).toNat.toUInt8 := rfl
  unfold Utf8.encode Lib.encodeRune
  by_cases c1 : n < 128
  · rw [Lib.encodeRuneZ_one h0 (by omega)]
    have v : Utf8.valid (n : Int) = true := by unfold Utf8.valid; simp; omega
    simp [v, c1]
  by_cases c2 : n < 2048
  · rw [Lib.encodeRuneZ_two (by omega) (by omega)]
    have v : Utf8.valid (n : Int) = true := by unfold Utf8.valid; simp; omega
    simp only [v, if_true, Int.toNat_natCast, c1, c2, if_false]
    simp only [List.map_cons, List.map_nil]
    rw [show (192 + (n : Int) / 64).toNat = 192 + n / 64 by omega, show (128 + (n : Int) % 64).toNat = 128 + n % 64 by omega]
  by_cases c3 : n < 65536
  · by_cases cs : 55296 ≤ n ∧ n ≤ 57343
    · have v : Utf8.valid (n : Int) = false := by unfold Utf8.valid; simp; omega
      rw [Lib.encodeRuneZ_bad (Or.inr (Or.inl ⟨by omega, by omega⟩))]
      simp only [v, Bool.false_eq_true, if_false]
      decide
    · have v : Utf8.valid (n : Int) = true := by unfold Utf8.valid; simp; omega
      rw [Lib.encodeRuneZ_three (by omega)]
      simp only [v, if_true, Int.toNat_natCast, c1, c2, c3, if_false]
      simp only [List.map_cons, List.map_nil]
      rw [show (224 + (n : Int) / 4096).toNat = 224 + n / 4096 by omega, show (128 + (n : Int) / 64 % 64).toNat = 128 + n / 64 % 64 by omega, show (128 + (n : Int) % 64).toNat = 128 + n % 64 by omega]
  · have v : Utf8.valid (n : Int) = true := by unfold Utf8.valid; simp; omega
    rw [Lib.encodeRuneZ_four (by omega) (by omega)]
    simp only [v, if_true, Int.toNat_natCast, c1, c2, c3, if_false]
    simp only [List.map_cons, List.map_nil]
    rw [show (240 + (n : Int) / 262144).toNat = 240 + n / 262144 by omega, show (128 + (n : Int) / 4096 % 64).toNat = 128 + n / 4096 % 64 by omega, show (128 + (n : Int) / 64 % 64).toNat = 128 + n / 64 % 64 by omega, show (128 + (n : Int) % 64).toNat = 128 + n % 64 by omega]
/-- One thing's own bytes. -/
def part (s : ByteArray) (i : Nat) : ByteArray := s.extract i (i + (Utf8.decode s i).2)
theorem part_pb (s : ByteArray) (i : Nat) : bt (part s i) = pb s i := by
  have := pcS_pb s i
  unfold pcS at this
  rw [pc_at, pc_n] at this; exact this
theorem part_size {s : ByteArray} {i : Nat} (h : i < s.size) : (part s i).size = (Utf8.decode s i).2 := by
  have := dec_bd s i h
  unfold part; simp; omega
theorem part_neg {s : ByteArray} {i : Nat} (h : i < s.size) (hr : (pc s i).r < 0) : (part s i).size = 1 := by
  rw [part_size h]
  by_cases hd : Utf8.decode s i = (65533, 1)
  · rw [hd]
  · rw [pc_rune hd] at hr; simp at hr; omega
theorem part_rune {s : ByteArray} {i : Nat} (h : i < s.size) (hr : 0 ≤ (pc s i).r) : part s i = Utf8.encode (pc s i).r := by
  have hd : ¬ Utf8.decode s i = (65533, 1) := fun e => by rw [pc_break e] at hr; simp at hr
  apply bt_inj
  have h1 : bt (Utf8.encode (pc s i).r) = Lib.encodeRune (pc s i).r := enc_eq _ hr (by rw [pc_rune hd]; have := (dec_bd s i h).2.2.2; simp; omega)
  rw [part_pb, h1, pb_rune s i h hd]
theorem part_wide {s : ByteArray} {i : Nat} (h : i < s.size) : rwsum (G (part s i) 0) = wd (pc s i).r := by
  have hb := dec_bd s i h
  have hz := part_size h
  have hd : Utf8.decode (part s i) 0 = Utf8.decode s i := by
    have := dec_part s i (i + (Utf8.decode s i).2) 0 hb.2.2.1 (by omega) (by rw [Nat.add_zero]; exact Nat.le_refl _)
    rw [Nat.add_zero] at this; exact this
  rw [G_cons (by omega), rwsum_cons, hd, G_end (by omega), pc_r_eq hd]
  rfl
/-- Where a beginning ends. -/
theorem ls_next {s : ByteArray} : ∀ (pre : List (Sub s)) (i : Nat), i ≤ s.size → pre <+: LS s i → ∃ e, e ≤ s.size ∧ LS s i = pre ++ LS s e ∧ (pre = [] → e = i) ∧ ∀ q y, pre = q ++ [y] → e = y.1 + (Utf8.decode s y.1).2
  | [], i, hi, _ => ⟨i, hi, rfl, fun _ => rfl, fun q y h => by simp at h⟩
  | z :: pre, i, hi, hp => by
    by_cases hlt : i < s.size
    · have hb := dec_bd s i hlt
      rw [LS_cons i hlt, List.cons_prefix_cons] at hp
      obtain ⟨rfl, hp⟩ := hp
      obtain ⟨e, h1, h2, h3, h4⟩ := ls_next pre _ hb.2.2.1 hp
      refine ⟨e, h1, by rw [LS_cons i hlt, h2]; rfl, fun h => by simp at h, fun q y h => ?_⟩
      cases q with
      | nil =>
        simp only [List.nil_append, List.cons.injEq] at h
        obtain ⟨rfl, rfl⟩ := h
        exact h3 rfl
      | cons a q =>
        simp only [List.cons_append, List.cons.injEq] at h
        exact h4 q y h.2
    · rw [LS_end i (by omega)] at hp
      exact absurd hp (by simp)
theorem ls_step {s : ByteArray} {pre : List (Sub s)} {x : Sub s} (h : pre ++ [x] <+: LS s 0) : (pre = [] → x.1 = 0) ∧ ∀ q y, pre = q ++ [y] → x.1 = y.1 + (Utf8.decode s y.1).2 := by
  obtain ⟨e, h1, h2, h3, h4⟩ := ls_next pre 0 (Nat.zero_le _) ((List.prefix_append _ _).trans h)
  rw [h2, List.prefix_append_right_inj] at h
  have he : e < s.size := by
    rcases Nat.lt_or_ge e s.size with hlt | hge
    · exact hlt
    · rw [LS_end e hge] at h; exact absurd h (by simp)
  rw [LS_cons e he, List.cons_prefix_cons] at h
  have hx : x.1 = e := by rw [h.1]
  exact ⟨fun hp => hx.trans (h3 hp), fun q y hq => hx.trans (h4 q y hq)⟩
theorem ls_last {s : ByteArray} {q : List (Sub s)} {y : Sub s} (h : LS s 0 = q ++ [y]) : y.1 + (Utf8.decode s y.1).2 = s.size := by
  obtain ⟨e, h1, h2, h3, h4⟩ := ls_next (q ++ [y]) 0 (Nat.zero_le _) (by rw [h]; exact List.prefix_rfl)
  have he := h4 q y rfl
  rw [h] at h2
  have hn : LS s e = [] := by
    have := congrArg List.length h2
    simp at this; exact this
  rcases Nat.lt_or_ge e s.size with hlt | hge
  · rw [LS_cons e hlt] at hn; cases hn
  · omega
theorem ls_none {s : ByteArray} (h : LS s 0 = []) : s.size = 0 := by
  rcases Nat.eq_zero_or_pos s.size with h0 | h0
  · exact h0
  · rw [LS_cons 0 h0] at h; cases h

/-- A wider cut begins with a narrower one. -/
theorem fit_mono {s : ByteArray} {a b : Int} (hab : a ≤ b) : ∀ f i acc, s.size - i ≤ f → i ≤ s.size → (fitGo a s.size (G s i) acc).1 ≤ (fitGo b s.size (G s i) acc).1
  | 0, i, acc, h, hi => by
    rw [G_end (by omega)]; exact Nat.le_refl _
  | f + 1, i, acc, h, hi => by
    by_cases hlt : i < s.size
    · have hd := dec_bd s i hlt
      by_cases h1 : a < (acc : Int) + (wd (pc s i).r : Int)
      · rw [fitGo_over hlt h1]
        exact (fit_spec s b _ i acc (Nat.le_refl _) hi).1.le
      · rw [fitGo_on hlt h1, fitGo_on hlt (show ¬ b < _ by omega)]
        exact fit_mono hab f _ _ (by omega) (by omega)
    · rw [G_end (by omega)]; exact Nat.le_refl _
theorem fit_neg {s : ByteArray} {b : Int} (h : b < 0) : (fitP s b).2 = 0 := by
  unfold fitP
  by_cases h0 : 0 < s.size
  · rw [G_cons h0]; unfold fitGo
    rw [if_pos (by omega)]
  · rw [G_end (by omega)]; rfl
/-- What the two cuts tell. -/
structure TwoCuts (s : ByteArray) (a b : Int) (N W : ByteArray) : Prop where
  nw : N.size ≤ W.size
  ws : W.size ≤ s.size
  w : s.extract 0 W.size = W
  n : W.extract 0 N.size = N
  top : (rwsum (G W 0) : Int) ≤ max b 0
  next : W.size < s.size → b - (rwsum (G W 0) : Int) < (wd (pc s W.size).r : Int)
  whole : s.size ≤ W.size → W = s
theorem two_cuts (s : ByteArray) (a b : Int) (hab : a ≤ b) : TwoCuts s a b (s.extract 0 (fitP s a).1) (s.extract 0 (fitP s b).1) := by
  have l1 := fit_le s a
  have l2 := fit_le s b
  have hm : (fitP s a).1 ≤ (fitP s b).1 := fit_mono hab _ 0 0 (Nat.le_refl _) (Nat.zero_le _)
  have z1 : (s.extract 0 (fitP s a).1).size = (fitP s a).1 := by simp; omega
  have z2 : (s.extract 0 (fitP s b).1).size = (fitP s b).1 := by simp; omega
  have hw := fit_wide s b
  refine ⟨by omega, by omega, by rw [z2], ?_, ?_, ?_, ?_⟩
  · rw [z1]
    apply bt_inj
    unfold bt
    rw [Lib.extract_data, Lib.extract_data, Lib.extract_data]
    simp only [List.drop_zero, Nat.sub_zero]
    rw [List.take_take, Nat.min_eq_left hm]
  · rw [← hw]
    by_cases h : b < 0
    · rw [fit_neg h]; omega
    · have := fit_in s b (by omega); omega
  · intro h
    rw [z2] at h ⊢
    have := fit_out s b h
    rw [← hw]; omega
  · intro h
    rw [z2] at h
    rw [show (fitP s b).1 = s.size by omega, extract_whole]
theorem cut_all (s : ByteArray) : s.extract 0 (fitP s (rwsum (G s 0) : Int)).1 = s := by
  rw [fit_all (Int.le_refl _)]; exact extract_whole s
end Go.Proofs.YtdfhpblceoaofaaDoor
