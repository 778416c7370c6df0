/-
  The contract of Pieces.
-/
import Derived.Test.YtdfhpblceoaofaaDoorD
namespace Go.Proofs.YtdfhpblceoaofaaDoor
open Go.ChangeShapes Go.WideShapes Go.ChangeAt Go.RowKit
set_option linter.unusedVariables false

theorem cell_three_new (w : World) (a b c : Value) (t : TypeId) : ∀ j u, [a, b, c][j]? = some u → (w.alloc (.cells #[a, b, c] t)).cell? ((⟨w.heap.size, 0, none⟩ : Addr).add j) = some u := by
  intro j u hj
  match j, hj with
  | 0, hj => simp at hj; subst hj; simp [Addr.add]
  | 1, hj => simp at hj; subst hj; simp [Addr.add]
  | 2, hj => simp at hj; subst hj; simp [Addr.add]
  | j + 3, hj => simp at hj

theorem own_step {s : ByteArray} {i B : Nat} {v' : Value} {w3 : World} {pre : List Pc} {cs : List Value} (hp : cellsP s (pc s i) = cs) (h : w3.ownsRow B 28 3 v' (pre.length + 1) (flatP s pre ++ cs)) :
    w3.ownsRow B 28 3 v' (pre ++ [pc s i]).length (flatP s (pre ++ [pc s i])) := by
  rw [flatP_snoc, hp, List.length_append]; exact h

set_option maxRecDepth 100000 in
set_option maxHeartbeats 2000000 in
theorem pieces_any (s : ByteArray) (w : World) (hsz : s.size ≤ 1099511627776) :
    Calls Tryd.prog 9 #[.string s] w fun e w' => (∃ v, e = .returned v ∧ w'.ownsRow w.heap.size 28 3 v (G s 0).length (flatP s (G s 0))) ∧ Below w.heap.size w w' := by
  obtain ⟨i0, hi, hz0, hz1, hz2⟩ := info_parts info28
  go_enter Tryd.func9, Tryd.ntmps9
  go_wp2
  go_loopw [3, 4] (fun v t wr => ∃ (i : Nat) (pre : List Pc), t = .int .i64 i ∧ i ≤ s.size ∧ wr.ownsRow w.heap.size 28 3 v pre.length (flatP s pre) ∧ Below w.heap.size w wr ∧ Hid (pre ++ G s i = G s 0) ∧ pre.length ≤ i) (fun _ t _ => s.size - (intOf t).toNat)
  case atStart => exact ⟨0, [], rfl, by omega, World.ownsRow_nil _ _ _ _, Below.refl _ _, Lib.hid rfl, by simp⟩
  case round =>
    obtain ⟨i, pre, rfl, hi2, hown, hB, HG, hlen⟩ := hrel
    by_cases hlt : i < s.size
    · obtain ⟨d1, d2, d3, d4⟩ := dec_bd s i hlt
      have HC := Lib.hid (G_cons hlt)
      by_cases hbrk : Utf8.decode s i = (65533, 1)
      · have HB := Lib.hid hbrk
        have HP := Lib.hid (show cellsP s (pc s i) = [.int .i64 (i : Int), .string (s.extract i (i + 1)), .int .i32 (-1)] by rw [pc_break hbrk]; rfl)
        have e1 : (Utf8.decode s i).2 = 1 := by rw [hbrk]
        rw [e1] at d3 HC
        clear hbrk e1 d1 d2 d4
        go_wp2_with fail
        all_goals refine (begins_break s i _ _ hlt (by omega) HB.out).mono ?_
        all_goals rintro e w1 ⟨rfl, hb1⟩
        all_goals have hown1 := own_below hown hb1
        all_goals have hB1 := hB.trans (hb1.mono hB.size)
        all_goals have hsz1 := hB1.size
        all_goals clear hb1 hown
        all_goals go_wp2_with (at_builtin; refine wpList_append_own _ rfl _ _ 22 rfl w.heap.size 28 i0 (.agg #[.int .i64 0, .string ByteArray.empty, .int .i32 0]) 3 32 Tryd.underlying22 hi hz0 hz1 hz2 rfl (by decide) _ _ _ rfl (hown1.alloc _) ⟨w1.heap.size, 0, none⟩ 1 1 [.int .i64 (i : Int), .string (s.extract i (i + 1)), .int .i32 (-1)] rfl rfl (cell_three_new _ _ _ _ _) (fun x hx => by simp at hx; rcases hx with rfl | rfl | rfl <;> rfl) (by unfold maxLen; omega) (by omega) (by simp; omega) ?_; intro v' w3 hown3 hgrow3 _)
        all_goals go_roundw
        all_goals (first | (show ∃ _, _; exact ⟨i + 1, pre ++ [pc s i], (by go_num), d3, own_step HP.out hown3, Below.grown (hB1.alloc hsz1 _) hgrow3 (by simp; omega) (fun j hj => by have := (hown1.lt _ hj).1; omega), Lib.hid (by rw [List.append_assoc, ← HG.out, HC.out]; rfl), by simp; omega⟩) | (simp [intOf]; omega))
      · have HB := Lib.hid hbrk
        have HP := Lib.hid (show cellsP s (pc s i) = [.int .i64 (i : Int), .string (s.extract i (i + (Utf8.decode s i).2)), .int .i32 ((Utf8.decode s i).1 : Int)] by rw [pc_rune hbrk]; rfl)
        clear hbrk
        generalize hr : (Utf8.decode s i).1 = r at *
        generalize hn : (Utf8.decode s i).2 = n at *
        have Hr := Lib.hid hr
        have Hn := Lib.hid hn
        clear hr hn
        have hn0 : ((n : Int) == 0) = false := by simp; omega
        go_wp2_with fail
        all_goals refine (begins_rune s i _ _ hlt (by omega) HB.out).mono ?_
        all_goals rw [Hr.out, Hn.out]
        all_goals rintro e w1 ⟨rfl, hb1⟩
        all_goals have hown1 := own_below hown hb1
        all_goals have hB1 := hB.trans (hb1.mono hB.size)
        all_goals have hsz1 := hB1.size
        all_goals clear hb1 hown
        all_goals go_wp2_with (at_builtin; refine wpList_append_own _ rfl _ _ 22 rfl w.heap.size 28 i0 (.agg #[.int .i64 0, .string ByteArray.empty, .int .i32 0]) 3 32 Tryd.underlying22 hi hz0 hz1 hz2 rfl (by decide) _ _ _ rfl (hown1.alloc _) ⟨w1.heap.size, 0, none⟩ 1 1 [.int .i64 (i : Int), .string (s.extract i (i + n)), .int .i32 ((r : Int))] rfl rfl (cell_three_new _ _ _ _ _) (fun x hx => by simp at hx; rcases hx with rfl | rfl | rfl <;> rfl) (by unfold maxLen; omega) (by omega) (by simp; omega) ?_; intro v' w3 hown3 hgrow3 _)
        all_goals go_roundw
        all_goals (first | (show ∃ _, _; exact ⟨i + n, pre ++ [pc s i], (by go_num), d3, own_step HP.out hown3, Below.grown (hB1.alloc hsz1 _) hgrow3 (by simp; omega) (fun j hj => by have := (hown1.lt _ hj).1; omega), Lib.hid (by rw [List.append_assoc, ← HG.out, HC.out]; rfl), by simp; omega⟩) | (simp [intOf]; omega))
    · have HE := Lib.hid (show G s 0 = pre by rw [← HG.out, G_end (by omega), List.append_nil])
      clear HG
      go_wp2
      go_ret
      exact ⟨⟨u3, rfl, by rw [HE.out]; exact hown⟩, hB⟩
end Go.Proofs.YtdfhpblceoaofaaDoor
