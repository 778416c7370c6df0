/-
  Carried from another seat.
-/
import Derived.Test.YtfhnhilnjcfpkaaF
/-
  The document's own Check; mayBe and Check of the program.
-/
namespace Go.Proofs.Ytfhnhilnjcfpkaa
open Go.ChangeShapes Go.WideShapes Go.ChangeAt Go.RowKit Go.Shelf
set_option linter.unusedVariables false
theorem chk_bad {l : List Pl} {k : Nat} {p : Pl} (h : l[k]? = some p) (hm : may p = false) : chk l = 30 := by
  unfold chk
  rw [if_neg]
  intro ha
  have := List.all_eq_true.1 ha p (List.mem_of_getElem? h)
  rw [hm] at this; cases this
theorem chk_many {l : List Pl} (h : l.all may = true) (hl : 64 < l.length) : chk l = 31 := by
  unfold chk; rw [if_pos h, if_neg (by omega)]
theorem chk_few {l : List Pl} (h : l.all may = true) (hl : l.length ≤ 64) : chk l = 0 := by
  unfold chk; rw [if_pos h, if_pos hl]
theorem all_more {l : List Pl} {k : Nat} {p : Pl} (h : l[k]? = some p) (hm : may p = true) (ha : (l.take k).all may = true) : (l.take (k + 1)).all may = true := by
  rw [take_snoc' l k p h, List.all_append, ha]; simp [hm]

/-! The runes of a name. -/
theorem dec_lo (s : ByteArray) (i : Nat) (h : (s.get! i).toNat < 128) : Utf8.decode s i = ((s.get! i).toNat, 1) := by
  unfold Utf8.decode
  simp only [Nat.add_zero]
  rw [if_pos h]
theorem dec_hi (s : ByteArray) (i : Nat) (h : 128 ≤ (s.get! i).toNat) : 127 < (Utf8.decode s i).1 := by
  unfold Utf8.decode
  simp only [Nat.add_zero]
  rw [if_neg (by omega)]
  repeat' split
  all_goals (first | (simp only [Utf8.runeError]; done) | (simp only [Utf8.runeError]; omega) | (simp_all; omega))
theorem get_elem (s : ByteArray) (k : Nat) (h : k < s.size) : s.get! k = s[k] := by
  unfold ByteArray.get!
  exact getElem!_pos s.data k h
theorem bad_ok {c : UInt8} (h : okB c = true) : bad c.toNat = false := by
  unfold okB at h
  have := of_decide_eq_true h
  unfold bad; exact decide_eq_false (by omega)
theorem bad_no {c : UInt8} (h : okB c = false) (hc : c.toNat < 128) : bad c.toNat = true := by
  unfold okB at h
  have := of_decide_eq_false h
  unfold bad; exact decide_eq_true (by omega)
theorem drop_get (s : ByteArray) (k : Nat) (h : k < s.size) : s.data.toList.drop k = s[k] :: s.data.toList.drop (k + 1) := by
  rw [List.drop_eq_getElem_cons (by simpa using h)]; rfl
theorem idx_bad (s : ByteArray) : ∀ (f pos : Nat), s.size - pos ≤ f → decide (0 ≤ Lib.idxFuncFrom bad true s f pos) = !((s.data.toList.drop pos).all okB) := by
  intro f
  induction f with
  | zero =>
    intro pos h
    rw [List.drop_eq_nil_of_le (by simp; omega)]
    rfl
  | succ f ih =>
    intro pos h
    by_cases hlt : pos < s.size
    · unfold Lib.idxFuncFrom
      rw [if_pos hlt, drop_get s pos hlt]
      have hg := get_elem s pos hlt
      cases hok : okB s[pos]
      · have hb : bad (Utf8.decode s pos).1 = true := by
          by_cases hc : (s[pos]).toNat < 128
          · rw [dec_lo s pos (by rw [hg]; exact hc), hg]; exact bad_no hok hc
          · have := dec_hi s pos (by rw [hg]; omega)
            unfold bad; exact decide_eq_true (by omega)
        rw [if_pos hb]
        simp only [List.all_cons, hok, Bool.false_and, Bool.not_false]
        exact decide_eq_true (by omega)
      · have hc : (s[pos]).toNat < 128 := by
          unfold okB at hok
          have := of_decide_eq_true hok
          omega
        rw [dec_lo s pos (by rw [hg]; exact hc), hg]
        rw [if_neg (by rw [bad_ok hok]; simp), ih (pos + 1) (by omega)]
        simp [hok]
    · rw [Lib.idxFuncFrom_end bad true s _ pos hlt, List.drop_eq_nil_of_le (by simp; omega)]
      rfl
theorem contains_any (s : ByteArray) (w : World) :
    Calls Try.prog 22 #[.string s, .func (.func 23) #[] #[]] w fun e w' => e = .returned (.bool (!(s.data.toList.all okB))) ∧ Below w.heap.size w w' := by
  have h := Try.strings_ContainsFunc_runes 23 #[] (enters_of Try.func23 (by kernel_rfl) rfl) bad s w (fun W x hx hb => (none_any x W).mono fun e W' ⟨he, hw⟩ => ⟨he, 0, hw.symm⟩)
  unfold Lib.idxFunc at h
  rw [idx_bad s s.size 0 (by omega)] at h
  exact h
end Go.Proofs.Ytfhnhilnjcfpkaa
