/-
  The document's SamePlaces and times.
-/
import Derived.Test.YtocdinaomkmcbaaDoorFB
namespace Go.Proofs.YtocdinaomkmcbaaDoor
open Go.ChangeShapes Go.WideShapes Go.ChangeAt Go.RowKit
set_option linter.unusedVariables false

theorem cm_le : ∀ (l m : List Pl), cm l m ≤ l.length := by
  intro l
  induction l with
  | nil => intro m; simp [cm]
  | cons p l ih =>
    intro m
    cases m with
    | nil => simp [cm]
    | cons q m =>
      simp only [cm]
      split
      · have := ih m; simp; omega
      · simp
theorem cm_all : ∀ (l m : List Pl), l.length = m.length → (cm l m = l.length ↔ l = m) := by
  intro l
  induction l with
  | nil => intro m h; cases m with
    | nil => simp [cm]
    | cons q m => simp at h
  | cons p l ih =>
    intro m h
    cases m with
    | nil => simp at h
    | cons q m =>
      simp only [List.length_cons, Nat.add_right_cancel_iff] at h
      simp only [cm, List.length_cons]
      split
      · rename_i hpq
        subst hpq
        have := ih m h
        simp [this]
      · rename_i hpq
        simp [hpq]

set_option maxRecDepth 100000 in
set_option maxHeartbeats 800000 in
theorem samePl_any (A B : Option Addr) (ca cb : Nat) (l m : List Pl) (w : World) (hA : At w A l) (hB : At w B m) (hn : l.length ≤ 5864062014634) (hm : m.length ≤ 5864062014634) :
    Calls Tryd.prog 86 #[.slice A l.length ca, .slice B m.length cb] w fun e w' => e = .returned (.bool (decide (l = m))) ∧ ∃ k, w' = w.drewN k := by
  have H := Lib.hid (rcommon_any A B ca cb l m w hA hB hn hm)
  have HC : Hid (l.length = m.length → (cm l m = l.length ↔ l = m)) := Lib.hid (cm_all l m)
  have HD : Hid (l.length ≠ m.length → decide (l = m) = false) := Lib.hid (fun h => decide_eq_false (fun e => h (by rw [e])))
  have hle := cm_le l m
  have HY : Hid (l = m → decide (l = m) = true) := Lib.hid (fun h => decide_eq_true h)
  have HN : Hid (l ≠ m → decide (l = m) = false) := Lib.hid (fun h => decide_eq_false h)
  clear hA hB
  generalize cm l m = c at *
  generalize hd : decide (l = m) = d at *
  clear hd
  generalize l.length = a at *
  generalize m.length = b at *
  by_cases hl : a = b
  · subst hl
    by_cases hc : c = a
    · have HT := Lib.hid (HY.out ((HC.out rfl).1 hc))
      subst hc
      rw [HT.out]
      clear HC HD HY HN HT hle
      go_enter Tryd.func86, Tryd.ntmps86
      go_wp2_with fail
      refine H.out.mono ?_
      rintro e W ⟨rfl, k, rfl⟩
      go_wp2_with fail
      go_ret
      exact ⟨rfl, k, rfl⟩
    · have HT := Lib.hid (HN.out (fun h => hc ((HC.out rfl).2 h)))
      have hc' : ¬ (c : Int) = (a : Int) := by omega
      rw [HT.out]
      clear HC HD HY HN HT hle
      have hc2 : decide (c = a) = false := decide_eq_false hc
      go_enter Tryd.func86, Tryd.ntmps86
      go_wp2_with fail
      refine H.out.mono ?_
      rintro e W ⟨rfl, k, rfl⟩
      go_wp2_with fail
      go_ret
      exact ⟨by simp; omega, k, rfl⟩
  · have hi : ¬ (a : Int) = (b : Int) := by omega
    have hi2 : decide (a = b) = false := decide_eq_false hl
    rw [HD.out hl]
    clear HC HD HY HN hle
    go_enter Tryd.func86, Tryd.ntmps86
    go_wp2_with fail
    go_ret
    exact ⟨by simp, 0, rfl⟩
theorem drop_at {w : World} {g o : Nat} {l : List Pl} (h : At w (some ⟨g, o, none⟩) l) (n : Nat) : At w (some ⟨g, o + n * 2, none⟩) (l.drop n) := fun i p hp => by
  rw [List.getElem?_drop] at hp
  obtain ⟨g', o', e, c0, c1⟩ := h _ p hp
  injection e with e
  injection e with e1 e2
  subst e1; subst e2
  exact ⟨g, o + n * 2, rfl, by rw [show o + n * 2 + i * 2 = o + (n + i) * 2 by omega]; exact c0, by rw [show o + n * 2 + i * 2 = o + (n + i) * 2 by omega]; exact c1⟩
theorem blk_iff {l : List Pl} {p k : Nat} (hf : (k + 1) * p ≤ l.length) : Blk l p k ↔ (l.drop (k * p)).take p = l.take p := by
  unfold Blk
  rw [and_iff_right hf]
  constructor
  · intro h
    apply List.ext_getElem?
    intro i
    rw [List.getElem?_take, List.getElem?_take]
    split
    · rename_i hi
      rw [List.getElem?_drop]
      exact h i hi
    · rfl
  · intro h i hi
    have := congrArg (fun x => x[i]?) h
    simp only [List.getElem?_take, if_pos hi, List.getElem?_drop] at this
    exact this
end Go.Proofs.YtocdinaomkmcbaaDoor
