/-
  A beginning of a text is decoded as the text; how much of a text has room.
-/
import Derived.Test.YtdfhpblceoaofaaDoorMA
namespace Go.Proofs.YtdfhpblceoaofaaDoor
open Go.ChangeShapes Go.WideShapes Go.ChangeAt Go.RowKit Go.Shelf
set_option linter.unusedVariables false

theorem decodeN_cut (n m b0 b1 b2 b3 c1 c2 c3 : Nat) (h : (Lib.decodeN n b0 b1 b2 b3).2 ≤ m) (hm : 1 ≤ m) (hn : m ≤ n) (e1 : 1 < m → c1 = b1) (e2 : 2 < m → c2 = b2) (e3 : 3 < m → c3 = b3) :
    Lib.decodeN m b0 c1 c2 c3 = Lib.decodeN n b0 b1 b2 b3 := by
  by_cases a1 : b0 < 128
  · simp only [Lib.decodeN, if_pos a1]
  by_cases a2 : b0 / 32 = 6
  · have x3 : ¬ b0 / 16 = 14 := by omega
    have x4 : ¬ b0 / 8 = 30 := by omega
    by_cases g : 1 < m
    · have g' : 1 < n := by omega
      rw [e1 g]
      simp only [Lib.decodeN, a1, a2, g, g', x3, x4, if_false, true_and, false_and]
    · simp only [Lib.decodeN, a1, a2, g, x3, x4, if_false, true_and, false_and, and_false] at h ⊢
      split at h
      · split at h
        · simp at h; omega
        · rename_i p q; rw [if_pos p, if_neg q]
      · rename_i p; rw [if_neg p]
  by_cases a3 : b0 / 16 = 14
  · have x4 : ¬ b0 / 8 = 30 := by omega
    by_cases g : 2 < m
    · have g1 : 1 < m := by omega
      have g1' : 1 < n := by omega
      have g2' : 2 < n := by omega
      rw [e1 g1, e2 g]
      simp only [Lib.decodeN, a1, a2, a3, g, g1, g1', g2', x4, if_false, true_and, false_and]
    · simp only [Lib.decodeN, a1, a2, a3, g, x4, if_false, true_and, false_and, and_false] at h ⊢
      split at h
      · split at h
        · simp at h; omega
        · rename_i p q; rw [if_pos p, if_neg q]
      · rename_i p; rw [if_neg p]
  by_cases a4 : b0 / 8 = 30
  · by_cases g : 3 < m
    · have g1 : 1 < m := by omega
      have g2 : 2 < m := by omega
      have g1' : 1 < n := by omega
      have g2' : 2 < n := by omega
      have g3' : 3 < n := by omega
      rw [e1 g1, e2 g2, e3 g]
      simp only [Lib.decodeN, a1, a2, a3, a4, g, g1, g2, g1', g2', g3', if_false, true_and, false_and]
    · simp only [Lib.decodeN, a1, a2, a3, a4, g, if_false, true_and, false_and, and_false] at h ⊢
      split at h
      · split at h
        · simp at h; omega
        · rename_i p q; rw [if_pos p, if_neg q]
      · rename_i p; rw [if_neg p]
  · simp only [Lib.decodeN, a1, a2, a3, a4, if_false, false_and]

theorem get_part (s : ByteArray) (a e j : Nat) (h : a + j < e) (he : e ≤ s.size) : (s.extract a e).get! j = s.get! (a + j) := by
  rw [get_at, get_at, Lib.extract_data]
  rw [List.getD_eq_getElem?_getD, List.getD_eq_getElem?_getD, List.getElem?_take, List.getElem?_drop]
  rw [if_pos (by omega)]
theorem dec_part (s : ByteArray) (a e i : Nat) (he : e ≤ s.size) (hi : a + i < e) (hw : a + i + (Utf8.decode s (a + i)).2 ≤ e) : Utf8.decode (s.extract a e) i = Utf8.decode s (a + i) := by
  have hz : (s.extract a e).size = e - a := by simp; omega
  rw [Lib.decode_at] at hw ⊢
  rw [Lib.decode_at, hz, get_part s a e i hi he]
  refine decodeN_cut _ _ _ _ _ _ _ _ _ (by omega) (by omega) (by omega) (fun h => ?_) (fun h => ?_) (fun h => ?_)
  · rw [get_part s a e (i + 1) (by omega) he]; rfl
  · rw [get_part s a e (i + 2) (by omega) he]; rfl
  · rw [get_part s a e (i + 3) (by omega) he]; rfl

/-- From one place to another by the things that are taken. -/
inductive Reach (s : ByteArray) : Nat → Nat → Prop
  | refl (i : Nat) : Reach s i i
  | step {i e : Nat} : i < s.size → Reach s (i + (Utf8.decode s i).2) e → Reach s i e
theorem Reach.le {s : ByteArray} {i e : Nat} (h : Reach s i e) : i ≤ e := by
  induction h with
  | refl => exact Nat.le_refl _
  | step _ _ ih => omega
theorem Reach.top {s : ByteArray} {i e : Nat} (h : Reach s i e) (hi : i ≤ s.size) : e ≤ s.size := by
  induction h with
  | refl => exact hi
  | @step i e h1 _ ih => exact ih (by have := dec_bd s i h1; omega)
theorem pc_cut (s : ByteArray) (e i : Nat) (he : e ≤ s.size) (hi : i < e) (hw : i + (Utf8.decode s i).2 ≤ e) : pc (s.extract 0 e) i = pc s i := by
  have := dec_part s 0 e i he (by omega) (by simpa using hw)
  rw [Nat.zero_add] at this
  unfold pc; rw [this]
/-- What is taken of a beginning that ends where a thing begins. -/
theorem G_cut {s : ByteArray} {i e : Nat} (h : Reach s i e) (he : e ≤ s.size) : G s i = G (s.extract 0 e) i ++ G s e := by
  have hz : (s.extract 0 e).size = e := by simp; omega
  induction h with
  | refl i => rw [G_end (s := s.extract 0 i) (by omega)]; rfl
  | @step i e h1 h2 ih =>
    have hb := dec_bd s i h1
    have hl := h2.le
    have hd : Utf8.decode (s.extract 0 e) i = Utf8.decode s i := by
      have := dec_part s 0 e i he (by omega) (by simpa using hl)
      simpa using this
    rw [G_cons h1, G_cons (s := s.extract 0 e) (by omega), pc_cut s e i he (by omega) hl, hd, ih he hz]
    rfl

/-- How far a width reaches, and how wide that is. -/
def fitGo (width : Int) (size : Nat) : List Pc → Nat → Nat × Nat
  | [], acc => (size, acc)
  | p :: l, acc => if width < ((acc + wd p.r : Nat) : Int) then (p.at_, acc) else fitGo width size l (acc + wd p.r)
def fitP (s : ByteArray) (width : Int) : Nat × Nat := fitGo width s.size (G s 0) 0

theorem wd_rsW (r : Int) : rsW false r = wd r := by unfold wd rsW; simp
theorem rwsum_cons (p : Pc) (l : List Pc) : rwsum (p :: l) = wd p.r + rwsum l := by simp [rwsum, wd_rsW]
theorem rwsum_append (l k : List Pc) : rwsum (l ++ k) = rwsum l + rwsum k := by simp [rwsum]

theorem fit_spec (s : ByteArray) (width : Int) : ∀ f i acc, s.size - i ≤ f → i ≤ s.size → 
    Reach s i (fitGo width s.size (G s i) acc).1 ∧ (fitGo width s.size (G s i) acc).1 ≤ s.size ∧
    (fitGo width s.size (G s i) acc).2 = acc + rwsum (G (s.extract 0 (fitGo width s.size (G s i) acc).1) i) ∧
    ((acc : Int) ≤ width → ((fitGo width s.size (G s i) acc).2 : Int) ≤ width) ∧
    ((fitGo width s.size (G s i) acc).1 < s.size → width < (((fitGo width s.size (G s i) acc).2 + wd (pc s (fitGo width s.size (G s i) acc).1).r : Nat) : Int))
  | 0, i, acc, h, hi => by
    have e : i = s.size := by omega
    subst e
    rw [G_end (Nat.le_refl _)]
    refine ⟨.refl _, Nat.le_refl _, ?_, fun h => h, fun h => absurd h (Nat.lt_irrefl _)⟩
    show acc = acc + rwsum (G (s.extract 0 s.size) s.size)
    rw [G_end (by simp)]; rfl
  | f + 1, i, acc, h, hi => by
    by_cases hlt : i < s.size
    · have hb := dec_bd s i hlt
      rw [G_cons hlt]
      unfold fitGo
      by_cases hw : width < ((acc + wd (pc s i).r : Nat) : Int)
      · rw [if_pos hw, pc_at]
        refine ⟨.refl _, hi, ?_, fun h => h, fun _ => hw⟩
        show acc = acc + rwsum (G (s.extract 0 i) i)
        rw [G_end (by simp; omega)]; rfl
      · rw [if_neg hw]
        obtain ⟨h1, h2, h3, h4, h5⟩ := fit_spec s width f (i + (Utf8.decode s i).2) (acc + wd (pc s i).r) (by omega) (by omega)
        refine ⟨.step hlt h1, h2, ?_, fun _ => h4 (by omega), h5⟩
        have hl := h1.le
        rw [h3]
        have hz : (s.extract 0 (fitGo width s.size (G s (i + (Utf8.decode s i).2)) (acc + wd (pc s i).r)).1).size = (fitGo width s.size (G s (i + (Utf8.decode s i).2)) (acc + wd (pc s i).r)).1 := by simp; omega
        have hd : Utf8.decode (s.extract 0 (fitGo width s.size (G s (i + (Utf8.decode s i).2)) (acc + wd (pc s i).r)).1) i = Utf8.decode s i := by
          have := dec_part s 0 _ i h2 (by omega) (by simpa using hl)
          simpa using this
        conv => rhs; rw [G_cons (s := s.extract 0 (fitGo width s.size (G s (i + (Utf8.decode s i).2)) (acc + wd (pc s i).r)).1) (by omega), rwsum_cons, hd, pc_cut s _ i h2 (by omega) hl]
        omega
    · have e : i = s.size := by omega
      subst e
      rw [G_end (Nat.le_refl _)]
      refine ⟨.refl _, Nat.le_refl _, ?_, fun h => h, fun h => absurd h (Nat.lt_irrefl _)⟩
      show acc = acc + rwsum (G (s.extract 0 s.size) s.size)
      rw [G_end (by simp)]; rfl

theorem fit_reach (s : ByteArray) (width : Int) : Reach s 0 (fitP s width).1 := (fit_spec s width _ 0 0 (Nat.le_refl _) (Nat.zero_le _)).1
theorem fit_le (s : ByteArray) (width : Int) : (fitP s width).1 ≤ s.size := (fit_spec s width _ 0 0 (Nat.le_refl _) (Nat.zero_le _)).2.1
theorem fit_wide (s : ByteArray) (width : Int) : (fitP s width).2 = rwsum (G (s.extract 0 (fitP s width).1) 0) := by
  have := (fit_spec s width _ 0 0 (Nat.le_refl _) (Nat.zero_le _)).2.2.1
  rw [Nat.zero_add] at this; exact this
theorem fit_in (s : ByteArray) (width : Int) (h : 0 ≤ width) : ((fitP s width).2 : Int) ≤ width := (fit_spec s width _ 0 0 (Nat.le_refl _) (Nat.zero_le _)).2.2.2.1 (by simpa using h)
theorem fit_out (s : ByteArray) (width : Int) (h : (fitP s width).1 < s.size) : width < (((fitP s width).2 + wd (pc s (fitP s width).1).r : Nat) : Int) := (fit_spec s width _ 0 0 (Nat.le_refl _) (Nat.zero_le _)).2.2.2.2 h
theorem fit_pos (s : ByteArray) (width : Int) (h : 4 ≤ width) (hs : 0 < s.size) : 0 < (fitP s width).1 := by
  rcases Nat.eq_zero_or_pos (fitP s width).1 with h0 | h0
  · exfalso
    have h1 := fit_out s width (by omega)
    have h2 := fit_wide s width
    rw [h0, G_end (by simp)] at h2
    have h3 := wd_le (pc s (fitP s width).1).r
    have h4 : rwsum [] = 0 := rfl
    omega
  · exact h0
end Go.Proofs.YtdfhpblceoaofaaDoor
