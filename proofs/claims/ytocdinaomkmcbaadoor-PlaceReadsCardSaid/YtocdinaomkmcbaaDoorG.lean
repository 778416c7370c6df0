/-
  The document's own Check; mayBe and Check of the program.
-/
import Derived.Test.YtocdinaomkmcbaaDoorF
import Derived.Test.YtocdinaomkmcbaaDoorLay
namespace Go.Proofs.YtocdinaomkmcbaaDoor
open Go.ChangeShapes Go.WideShapes Go.ChangeAt Go.RowKit Go.Shelf
set_option linter.unusedVariables false

theorem chk_bad {l : List Pl} {k : Nat} {p : Pl} (h : l[k]? = some p) (hm : may p = false) : chk l = 30 := by
  unfold chk
  rw [if_neg]
  intro ha
  have := List.all_eq_true.1 ha p (List.mem_of_getElem? h)
  rw [hm] at this; cases this
theorem chk_many {l : List Pl} (h : l.all may = true) (hl : 64 < l.length) : chk l = 31 := by
  unfold chk; rw [if_pos h, if_neg (by omega)]
theorem chk_few {l : List Pl} (h : l.all may = true) (hl : l.length ≤ 64) : chk l = 0 := by
  unfold chk; rw [if_pos h, if_pos hl]
theorem all_more {l : List Pl} {k : Nat} {p : Pl} (h : l[k]? = some p) (hm : may p = true) (ha : (l.take k).all may = true) : (l.take (k + 1)).all may = true := by
  rw [take_snoc' l k p h, List.all_append, ha]; simp [hm]

set_option maxRecDepth 100000 in
set_option maxHeartbeats 1000000 in
theorem rcheck_any (A : Option Addr) (cap : Nat) (l : List Pl) (w : World) (hA : At w A l) (hn : l.length ≤ 5864062014634) :
    Calls Tryd.prog 15 #[.slice A l.length cap] w fun e w' => e = .returned (.int .i64 (chk l)) ∧ Below w.heap.size w w' := by
  have HL := Lib.hid (rfl : l.length = l.length)
  have H0 := Lib.hid (fun (ha : l.all may = true) (h : 64 < l.length) => chk_many ha h)
  have H1 := Lib.hid (fun (ha : l.all may = true) (h : l.length ≤ 64) => chk_few ha h)
  generalize hlen : l.length = n at *
  have HN := Lib.hid hlen
  clear hlen HL
  go_enter Tryd.func15, Tryd.ntmps15
  go_wp2
  go_loopw [3] (fun t wr => ∃ k : Nat, t = .int .i64 k ∧ k ≤ n ∧ Below w.heap.size w wr ∧ Hid ((l.take k).all may = true)) (fun t _ => n - (intOf t).toNat)
  case atStart => exact ⟨0, rfl, by omega, Below.refl _ _, Lib.hid rfl⟩
  case round =>
    obtain ⟨k, rfl, hk, hB, HK⟩ := hrel
    by_cases hlt : k < n
    · have hp : ∃ p, l[k]? = some p := ⟨_, List.getElem?_eq_getElem (by rw [HN.out]; exact hlt)⟩
      obtain ⟨p, hp⟩ := hp
      have hA' := hA.below hB (Nat.le_refl _)
      obtain ⟨g, o, rfl, c0, c1⟩ := hA' k p hp
      have hk0 : (0 : Int) ≤ (k : Int) := Int.natCast_nonneg _
      have hk1 : (k : Int) < (n : Int) := by omega
      cases hm : may p
      · have HC := Lib.hid (chk_bad hp hm)
        have hc := rmay_any p wr
        rw [hm] at hc
        have H := Lib.hid hc
        clear hm hc hp hA hA'
        go_wp2_with fail
        refine H.out.mono ?_
        rintro e w1 ⟨rfl, hb⟩
        go_wp2
        go_ret
        exact ⟨by rw [HC.out]; rfl, hB.trans (hb.mono hB.size)⟩
      · have HC := Lib.hid (all_more hp hm HK.out)
        have hc := rmay_any p wr
        rw [hm] at hc
        have H := Lib.hid hc
        clear hm hc hp hA hA'
        go_wp2_with fail
        refine H.out.mono ?_
        rintro e w1 ⟨rfl, hb⟩
        go_wp2
        go_roundw
        case rel => exact ⟨k + 1, by go_num, by omega, hB.trans (hb.mono hB.size), HC⟩
        case measure => simp [intOf]; omega
    · have hall := HK.out
      rw [List.take_of_length_le (by rw [HN.out]; omega)] at hall
      by_cases h64 : 64 < n
      · have HC := Lib.hid (H0.out hall h64)
        clear hall
        go_wp2
        go_ret
        exact ⟨by rw [HC.out]; rfl, hB⟩
      · have HC := Lib.hid (H1.out hall (by omega))
        have h65 : (n : Int) ≤ 64 := by omega
        clear hall
        go_wp2
        go_ret
        exact ⟨by rw [HC.out]; rfl, hB⟩

/-! The runes of a name. -/
theorem dec_lo (s : ByteArray) (i : Nat) (h : (s.get! i).toNat < 128) : Utf8.decode s i = ((s.get! i).toNat, 1) := by
  unfold Utf8.decode
  simp only [Nat.add_zero]
  rw [if_pos h]
theorem dec_hi (s : ByteArray) (i : Nat) (h : 128 ≤ (s.get! i).toNat) : 127 < (Utf8.decode s i).1 := by
  unfold Utf8.decode
  simp only [Nat.add_zero]
  rw [if_neg (by omega)]
  repeat' split
  all_goals (first | (simp only [Utf8.runeError]; done) | (simp only [Utf8.runeError]; omega) | (simp_all; omega))
theorem get_elem (s : ByteArray) (k : Nat) (h : k < s.size) : s.get! k = s[k] := by
  unfold ByteArray.get!
  exact getElem!_pos s.data k h
theorem bad_ok {c : UInt8} (h : okB c = true) : bad c.toNat = false := by
  unfold okB at h
  have := of_decide_eq_true h
  unfold bad; exact decide_eq_false (by omega)
theorem bad_no {c : UInt8} (h : okB c = false) (hc : c.toNat < 128) : bad c.toNat = true := by
  unfold okB at h
  have := of_decide_eq_false h
  unfold bad; exact decide_eq_true (by omega)
theorem drop_get (s : ByteArray) (k : Nat) (h : k < s.size) : s.data.toList.drop k = s[k] :: s.data.toList.drop (k + 1) := by
  rw [List.drop_eq_getElem_cons (by simpa using h)]; rfl
theorem idx_bad (s : ByteArray) : ∀ (f pos : Nat), s.size - pos ≤ f → decide (0 ≤ Lib.idxFuncFrom bad true s f pos) = !((s.data.toList.drop pos).all okB) := by
  intro f
  induction f with
  | zero =>
    intro pos h
    rw [List.drop_eq_nil_of_le (by simp; omega)]
    rfl
  | succ f ih =>
    intro pos h
    by_cases hlt : pos < s.size
    · unfold Lib.idxFuncFrom
      rw [if_pos hlt, drop_get s pos hlt]
      have hg := get_elem s pos hlt
      cases hok : okB s[pos]
      · have hb : bad (Utf8.decode s pos).1 = true := by
          by_cases hc : (s[pos]).toNat < 128
          · rw [dec_lo s pos (by rw [hg]; exact hc), hg]; exact bad_no hok hc
          · have := dec_hi s pos (by rw [hg]; omega)
            unfold bad; exact decide_eq_true (by omega)
        rw [if_pos hb]
        simp only [List.all_cons, hok, Bool.false_and, Bool.not_false]
        exact decide_eq_true (by omega)
      · have hc : (s[pos]).toNat < 128 := by
          unfold okB at hok
          have := of_decide_eq_true hok
          omega
        rw [dec_lo s pos (by rw [hg]; exact hc), hg]
        rw [if_neg (by rw [bad_ok hok]; simp), ih (pos + 1) (by omega)]
        simp [hok]
    · rw [Lib.idxFuncFrom_end bad true s _ pos hlt, List.drop_eq_nil_of_le (by simp; omega)]
      rfl
theorem contains_any (s : ByteArray) (w : World) :
    Calls Tryd.prog 78 #[.string s, .func (.func 79) #[] #[]] w fun e w' => e = .returned (.bool (!(s.data.toList.all okB))) ∧ Below w.heap.size w w' := by
  have h := Tryd.strings_ContainsFunc_runes 79 #[] (enters_of Tryd.func79 (by kernel_rfl) rfl) bad s w (fun W x hx hb => (none_any x W).mono fun e W' ⟨he, hw⟩ => ⟨he, 0, hw.symm⟩)
  unfold Lib.idxFunc at h
  rw [idx_bad s s.size 0 (by omega)] at h
  exact h
end Go.Proofs.YtocdinaomkmcbaaDoor
