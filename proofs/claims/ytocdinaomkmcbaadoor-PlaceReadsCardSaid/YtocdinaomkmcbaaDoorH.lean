/-
  mayBe and Check of the program.
-/
import Derived.Test.YtocdinaomkmcbaaDoorG
import Derived.Lib.TrimUEq
namespace Go.Proofs.YtocdinaomkmcbaaDoor
open Go.ChangeShapes Go.WideShapes Go.ChangeAt Go.RowKit Go.Shelf
set_option linter.unusedVariables false

theorem size_zero {y : ByteArray} (h : y.size = 0) : y.toList = [] := by
  have e : y.data.toList.length = y.size := by simp
  rw [Lib.toList_data]; exact List.eq_nil_of_length_eq_zero (by omega)
theorem size_pos {y : ByteArray} (h : 0 < y.size) : y.toList.isEmpty = false := by
  rw [Lib.toList_data]
  cases hl : y.data.toList with
  | nil =>
    have e : y.data.toList.length = y.size := by simp
    rw [hl] at e; simp at e; omega
  | cons a l => rfl

set_option maxRecDepth 100000 in
set_option maxHeartbeats 1000000 in
theorem mayBe_any (p : Pl) (w : World) : Calls Tryd.prog 50 #[.agg #[.string p.1, .int .i64 p.2]] w fun e w' => e = .returned (.bool (may p)) ∧ Below w.heap.size w w' := by
  by_cases h : 1 ≤ p.1.size ∧ p.1.size ≤ 120
  · obtain ⟨h1, h2⟩ := h
    have HM : Hid (may p = (p.1.data.toList.all okB && decide (0 ≤ p.2 ∧ p.2 ≤ 1048576))) := Lib.hid (by
      by_cases h3 : 0 ≤ p.2 ∧ p.2 ≤ 1048576
      · rw [may_in ⟨h1, h2, h3⟩, decide_eq_true h3, Bool.and_true]
      · rw [may_out (fun h => h3 h.2.2), decide_eq_false h3, Bool.and_false])
    have hc := contains_any p.1
    obtain ⟨s, n⟩ := p
    dsimp only at h1 h2 hc HM ⊢
    have e2 : (s.size : Int) ≤ 120 := by omega
    have e3 := size_pos h1
    have e4 : (!s.toList.isEmpty) = true := by rw [e3]; rfl
    cases ha : s.data.toList.all okB
    · have HA := Lib.hid (HM.out.trans (by rw [ha, Bool.false_and]))
      rw [ha] at hc
      have HC := Lib.hid hc
      clear ha hc HM
      go_enter Tryd.func50, Tryd.ntmps50
      go_wp2_with fail
      refine (HC.out _).mono ?_
      rintro e W ⟨rfl, hb⟩
      go_wp2
      go_ret
      exact ⟨by rw [HA.out]; rfl, ((Below.refl _ _).alloc (Nat.le_refl _) _).trans (hb.mono (by simp))⟩
    · rw [ha] at hc HM
      have HC := Lib.hid hc
      clear ha hc
      by_cases h3 : n < 0
      · have HA := Lib.hid (HM.out.trans (by rw [decide_eq_false (by omega), Bool.and_false]))
        clear HM
        go_enter Tryd.func50, Tryd.ntmps50
        go_wp2_with fail
        refine (HC.out _).mono ?_
        rintro e W ⟨rfl, hb⟩
        have c0 := (hb.cell (p := ⟨w.heap.size, 1, none⟩) (by simp)).trans (World.cell?_alloc_new w #[.string s, .int .i64 n] 48 1)
        simp at c0
        go_wp2
        go_ret
        exact ⟨by rw [HA.out]; rfl, ((Below.refl _ _).alloc (Nat.le_refl _) _).trans (hb.mono (by simp))⟩
      · have h4 : 0 ≤ n := by omega
        by_cases h5 : n ≤ 1048576
        · have HA := Lib.hid (HM.out.trans (by rw [decide_eq_true ⟨h4, h5⟩, Bool.and_true]))
          clear HM h3
          go_enter Tryd.func50, Tryd.ntmps50
          go_wp2_with fail
          refine (HC.out _).mono ?_
          rintro e W ⟨rfl, hb⟩
          have c0 := (hb.cell (p := ⟨w.heap.size, 1, none⟩) (by simp)).trans (World.cell?_alloc_new w #[.string s, .int .i64 n] 48 1)
          simp at c0
          go_wp2
          go_ret
          exact ⟨by rw [HA.out]; rfl, ((Below.refl _ _).alloc (Nat.le_refl _) _).trans (hb.mono (by simp))⟩
        · have HA := Lib.hid (HM.out.trans (by rw [decide_eq_false (by omega), Bool.and_false]))
          have h6 : 1048576 < n := by omega
          clear HM h3 h5
          go_enter Tryd.func50, Tryd.ntmps50
          go_wp2_with fail
          refine (HC.out _).mono ?_
          rintro e W ⟨rfl, hb⟩
          have c0 := (hb.cell (p := ⟨w.heap.size, 1, none⟩) (by simp)).trans (World.cell?_alloc_new w #[.string s, .int .i64 n] 48 1)
          simp at c0
          go_wp2
          go_ret
          exact ⟨by rw [HA.out]; simp; omega, ((Below.refl _ _).alloc (Nat.le_refl _) _).trans (hb.mono (by simp))⟩
  · have HA := Lib.hid (may_out (p := p) (fun hh => h ⟨hh.1, hh.2.1⟩))
    obtain ⟨s, n⟩ := p
    dsimp only at h HA ⊢
    by_cases h1 : s.size = 0
    · have e3 := size_zero h1
      have e4 : (!s.toList.isEmpty) = false := by rw [e3]; rfl
      clear h h1
      go_enter Tryd.func50, Tryd.ntmps50
      go_wp2
      go_ret
      exact ⟨by rw [HA.out]; rfl, (Below.refl _ _).alloc (Nat.le_refl _) _⟩
    · have e3 := size_pos (y := s) (by omega)
      have e4 : (!s.toList.isEmpty) = true := by rw [e3]; rfl
      have h2 : (120 : Int) < (s.size : Int) := by omega
      clear h h1
      go_enter Tryd.func50, Tryd.ntmps50
      go_wp2
      go_ret
      exact ⟨by rw [HA.out]; rfl, (Below.refl _ _).alloc (Nat.le_refl _) _⟩

set_option maxRecDepth 100000 in
set_option maxHeartbeats 1000000 in
theorem check_any (A : Option Addr) (cap : Nat) (l : List Pl) (w : World) (hA : At w A l) (hn : l.length ≤ 5864062014634) :
    Calls Tryd.prog 14 #[.slice A l.length cap] w fun e w' => e = .returned (.int .i64 (chk l)) ∧ Below w.heap.size w w' := by
  have HL := Lib.hid (rfl : l.length = l.length)
  have H0 := Lib.hid (fun (ha : l.all may = true) (h : 64 < l.length) => chk_many ha h)
  have H1 := Lib.hid (fun (ha : l.all may = true) (h : l.length ≤ 64) => chk_few ha h)
  generalize hlen : l.length = n at *
  have HN := Lib.hid hlen
  clear hlen HL
  go_enter Tryd.func14, Tryd.ntmps14
  go_wp2
  go_loopw [7] (fun t wr => ∃ k : Nat, t = .int .i64 k ∧ k ≤ n ∧ Below w.heap.size w wr ∧ Hid ((l.take k).all may = true)) (fun t _ => n - (intOf t).toNat)
  case atStart => exact ⟨0, rfl, by omega, Below.refl _ _, Lib.hid rfl⟩
  case round =>
    obtain ⟨k, rfl, hk, hB, HK⟩ := hrel
    have hz := hB.size
    by_cases hlt : k < n
    · have hp : ∃ p, l[k]? = some p := ⟨_, List.getElem?_eq_getElem (by rw [HN.out]; exact hlt)⟩
      obtain ⟨p, hp⟩ := hp
      have hA' := hA.below hB (Nat.le_refl _)
      obtain ⟨g, o, rfl, c0, c1⟩ := hA' k p hp
      have hk0 : (0 : Int) ≤ (k : Int) := Int.natCast_nonneg _
      have hk1 : (k : Int) < (n : Int) := by omega
      have hB2 : Below w.heap.size w (wr.alloc (.cells #[.string p.1, .int .i64 p.2] 48)) := hB.alloc hz _
      cases hm : may p
      · have HC := Lib.hid (chk_bad hp hm)
        have hc := mayBe_any p
        rw [hm] at hc
        have H := Lib.hid hc
        clear hm hc hp hA hA'
        go_wp2_with fail
        refine (H.out _).mono ?_
        rintro e w1 ⟨rfl, hb⟩
        go_wp2
        go_ret
        exact ⟨by rw [HC.out]; rfl, hB2.trans (hb.mono (by simp; omega))⟩
      · have HC := Lib.hid (all_more hp hm HK.out)
        have hc := mayBe_any p
        rw [hm] at hc
        have H := Lib.hid hc
        clear hm hc hp hA hA'
        go_wp2_with fail
        refine (H.out _).mono ?_
        rintro e w1 ⟨rfl, hb⟩
        go_wp2
        go_roundw
        case rel => exact ⟨k + 1, by go_num, by omega, hB2.trans (hb.mono (by simp; omega)), HC⟩
        case measure => simp [intOf]; omega
    · have hall := HK.out
      rw [List.take_of_length_le (by rw [HN.out]; omega)] at hall
      by_cases h64 : 64 < n
      · have HC := Lib.hid (H0.out hall h64)
        clear hall
        go_wp2
        go_ret
        exact ⟨by rw [HC.out]; rfl, hB⟩
      · have HC := Lib.hid (H1.out hall (by omega))
        have h65 : (n : Int) ≤ 64 := by omega
        clear hall
        go_wp2
        go_ret
        exact ⟨by rw [HC.out]; rfl, hB⟩
end Go.Proofs.YtocdinaomkmcbaaDoor
