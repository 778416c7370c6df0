/-
  The contract of the document's own Cut.
-/
import Derived.Test.YtdfhpblceoaofaaDoorWM
namespace Go.Proofs.YtdfhpblceoaofaaDoor
open Go.ChangeShapes Go.WideShapes Go.ChangeAt Go.RowKit Go.Shelf
set_option linter.unusedVariables false

theorem extract_whole (s : ByteArray) : s.extract 0 s.size = s := by
  apply ByteArray.ext; rw [ByteArray.data_extract]; exact Array.extract_eq_self_of_le (Nat.le_refl _)
theorem fitGo_over {s : ByteArray} {width : Int} {i acc : Nat} (hi : i < s.size) (h : width < (acc : Int) + (wd (pc s i).r : Int)) : (fitGo width s.size (G s i) acc).1 = i := by
  rw [G_cons hi]; unfold fitGo; rw [if_pos (by omega), pc_at]
theorem fitGo_on {s : ByteArray} {width : Int} {i acc : Nat} (hi : i < s.size) (h : ¬ width < (acc : Int) + (wd (pc s i).r : Int)) : fitGo width s.size (G s i) acc = fitGo width s.size (G s (i + (Utf8.decode s i).2)) (acc + wd (pc s i).r) := by
  rw [G_cons hi]; conv => lhs; unfold fitGo
  rw [if_neg (by omega)]

set_option maxRecDepth 100000 in
set_option maxHeartbeats 4000000 in
theorem rcut_any (s : ByteArray) (width : Int) (w : World) (hsz : s.size ≤ 1099511627776) (hlo : -9223372036854775808 ≤ width) (hhi : width ≤ 9223372036854775807) :
    Calls Tryd.prog 25 #[.string s, .int .i64 width] w fun e W' => e = .returned (.string (s.extract 0 (fitP s width).1)) ∧ Below w.heap.size w W' := by
  go_enter Tryd.func25, Tryd.ntmps25
  go_wp2
  go_loopw [5, 6] (fun v t wr => ∃ (i acc : Nat), t = .int .i64 i ∧ v = .int .i64 acc ∧ i ≤ s.size ∧ acc ≤ 4 * i ∧ Below w.heap.size w wr ∧ Hid (fitGo width s.size (G s i) acc = fitP s width)) (fun _ t _ => s.size - (intOf t).toNat)
  case atStart => exact ⟨0, 0, rfl, rfl, by omega, by omega, Below.refl _ _, Lib.hid rfl⟩
  case round =>
    obtain ⟨i, acc, rfl, rfl, hi2, hacc, hB, HG⟩ := hrel
    by_cases hlt : i < s.size
    · obtain ⟨d1, d2, d3, d4⟩ := dec_bd s i hlt
      have hw := wd_le (pc s i).r
      have hzz := hB.size
      have HO : Hid (width < (acc : Int) + (wd (pc s i).r : Int) → s.extract 0 (fitP s width).1 = s.extract 0 i) := Lib.hid (fun h => by rw [← HG.out, fitGo_over hlt h])
      have HN : Hid (¬ width < (acc : Int) + (wd (pc s i).r : Int) → fitGo width s.size (G s (i + (Utf8.decode s i).2)) (acc + wd (pc s i).r) = fitP s width) := Lib.hid (fun h => by rw [← HG.out, fitGo_on hlt h])
      clear HG
      by_cases hbrk : Utf8.decode s i = (65533, 1)
      · have HB := Lib.hid hbrk
        have hpr : (pc s i).r = -1 := by rw [pc_break hbrk]
        have e1 : (Utf8.decode s i).2 = 1 := by rw [hbrk]
        have hW : wd (-1) = 4 := by decide
        rw [hpr, hW] at HO HN
        rw [e1] at HN d3
        clear hbrk e1 d1 d2 d4 hw hpr hW
        have hpz : (s.extract i (i + 1)).size = 1 := by simp; omega
        have hp0 : 0 < (s.extract i (i + 1)).size := by omega
        have hp4 : (s.extract i (i + 1)).size ≤ 4 := by omega
        clear hpz
        have hrw : rsW false (-1) = 4 := by decide
        have HS : Hid (∀ W : World, Calls Tryd.prog 39 #[.agg #[.int .i64 (i : Int), .string (s.extract i (i + 1)), .int .i32 (-1)], .bool false] W fun e W' => e = .returned (.tuple #[.string ⟨(rsL false (-1) (s.extract i (i + 1))).toArray⟩, .int .i64 4]) ∧ Below W.heap.size W W') := Lib.hid (fun W => by
          have := rshown_any false (i : Int) (s.extract i (i + 1)) (-1) W hp0 hp4
          rw [hrw] at this; exact this)
        clear hp0 hp4 hrw
        by_cases hov : width < (acc : Int) + 4
        · have X := Lib.hid (HO.out (by simpa using hov))
          clear HO HN
          go_wp2_with fail
          all_goals refine (begins_break s i _ _ hlt (by omega) HB.out).mono ?_
          all_goals rintro e w1 ⟨rfl, hb1⟩
          all_goals go_wp2_with fail
          all_goals refine (HS.out _).mono ?_
          all_goals rintro e w2 ⟨rfl, hb2⟩
          all_goals go_wp2
          all_goals go_ret
          all_goals exact ⟨by rw [X.out]; rfl, (hB.trans (hb1.mono hzz)).trans (hb2.mono (Nat.le_trans hzz hb1.size))⟩
        · have X := Lib.hid (HN.out (by simpa using hov))
          clear HO HN
          go_wp2_with fail
          all_goals refine (begins_break s i _ _ hlt (by omega) HB.out).mono ?_
          all_goals rintro e w1 ⟨rfl, hb1⟩
          all_goals go_wp2_with fail
          all_goals refine (HS.out _).mono ?_
          all_goals rintro e w2 ⟨rfl, hb2⟩
          all_goals go_wp2
          all_goals exact ⟨⟨i + 1, acc + 4, by go_num, by go_num, d3, by omega, (hB.trans (hb1.mono hzz)).trans (hb2.mono (Nat.le_trans hzz hb1.size)), X⟩, by simp [intOf]; omega⟩
      · have HB := Lib.hid hbrk
        have hpr : (pc s i).r = ((Utf8.decode s i).1 : Int) := by rw [pc_rune hbrk]
        rw [hpr] at HO HN hw
        clear hbrk hpr
        generalize hr : (Utf8.decode s i).1 = r at *
        generalize hn : (Utf8.decode s i).2 = n at *
        have Hr := Lib.hid hr
        have Hn := Lib.hid hn
        clear hr hn
        have hn0 : ((n : Int) == 0) = false := by simp; omega
        have hpz : (s.extract i (i + n)).size = n := by simp; omega
        have hp0 : 0 < (s.extract i (i + n)).size := by omega
        have hp4 : (s.extract i (i + n)).size ≤ 4 := by omega
        clear hpz
        have HS : Hid (∀ W : World, Calls Tryd.prog 39 #[.agg #[.int .i64 (i : Int), .string (s.extract i (i + n)), .int .i32 (r : Int)], .bool false] W fun e W' => e = .returned (.tuple #[.string ⟨(rsL false (r : Int) (s.extract i (i + n))).toArray⟩, .int .i64 (wd (r : Int) : Int)]) ∧ Below W.heap.size W W') := Lib.hid (fun W => by
          have := rshown_any false (i : Int) (s.extract i (i + n)) (r : Int) W hp0 hp4
          rw [wd_rsW] at this; exact this)
        clear hp0 hp4
        by_cases hov : width < (acc : Int) + (wd (r : Int) : Int)
        · have X := Lib.hid (HO.out hov)
          clear HO HN
          go_wp2_with fail
          all_goals refine (begins_rune s i _ _ hlt (by omega) HB.out).mono ?_
          all_goals rw [Hr.out, Hn.out]
          all_goals rintro e w1 ⟨rfl, hb1⟩
          all_goals go_wp2_with fail
          all_goals refine (HS.out _).mono ?_
          all_goals rintro e w2 ⟨rfl, hb2⟩
          all_goals go_wp2
          all_goals go_ret
          all_goals exact ⟨by rw [X.out]; rfl, (hB.trans (hb1.mono hzz)).trans (hb2.mono (Nat.le_trans hzz hb1.size))⟩
        · have X := Lib.hid (HN.out hov)
          clear HO HN
          go_wp2_with fail
          all_goals refine (begins_rune s i _ _ hlt (by omega) HB.out).mono ?_
          all_goals rw [Hr.out, Hn.out]
          all_goals rintro e w1 ⟨rfl, hb1⟩
          all_goals go_wp2_with fail
          all_goals refine (HS.out _).mono ?_
          all_goals rintro e w2 ⟨rfl, hb2⟩
          all_goals go_wp2
          all_goals exact ⟨⟨i + n, acc + wd (r : Int), by go_num, by go_num, d3, by omega, (hB.trans (hb1.mono hzz)).trans (hb2.mono (Nat.le_trans hzz hb1.size)), X⟩, by simp [intOf]; omega⟩
    · have HE : Hid (s.extract 0 (fitP s width).1 = s) := Lib.hid (by rw [← HG.out, G_end (by omega)]; exact extract_whole s)
      clear HG
      go_wp2
      go_ret
      exact ⟨by rw [HE.out]; rfl, hB⟩
end Go.Proofs.YtdfhpblceoaofaaDoor
