/-
  The contracts of the document's own Breaks and of sameInts.
-/
import Derived.Test.YtdfhpblceoaofaaDoorH
namespace Go.Proofs.YtdfhpblceoaofaaDoor
open Go.ChangeShapes Go.WideShapes Go.ChangeAt Go.RowKit
set_option linter.unusedVariables false

theorem flatP_at (s : ByteArray) : ∀ (l : List Pc) (i : Nat) (p : Pc), l[i]? = some p → (flatP s l)[i * 3]? = some (.int .i64 (p.at_ : Int)) ∧ (flatP s l)[i * 3 + 2]? = some (.int .i32 p.r)
  | [], i, p, h => by simp at h
  | q :: l, 0, p, h => by
    simp at h; subst h
    simp [flatP, cellsP]
  | q :: l, i + 1, p, h => by
    have := flatP_at s l i p (by simpa using h)
    have e : flatP s (q :: l) = cellsP s q ++ flatP s l := by simp [flatP]
    have hl : (cellsP s q).length = 3 := rfl
    rw [e, List.getElem?_append_right (by omega), List.getElem?_append_right (by omega), hl]
    rw [show (i + 1) * 3 - 3 = i * 3 by omega, show (i + 1) * 3 + 2 - 3 = i * 3 + 2 by omega]
    exact this

theorem bks_take (l : List Pc) (i : Nat) (p : Pc) (h : l[i]? = some p) : bks (l.take (i + 1)) = if (p.r == -1) = true then bks (l.take i) ++ [(p.at_ : Int)] else bks (l.take i) := by
  have e : l.take (i + 1) = l.take i ++ [p] := by
    rw [List.take_add_one, h]; rfl
  rw [e]
  split
  · rename_i hr; rw [bks_hit hr]
  · rename_i hr; rw [bks_miss (by simpa using hr)]

/-- A rune of a piece is below 0 just of a break. -/
theorem pcs_r (s : ByteArray) : ∀ f i, ∀ p ∈ pcs s f i, (p.r < 0 ↔ p.r = -1) ∧ -1 ≤ p.r ∧ p.r ≤ 1114111
  | 0, i, p, h => by simp [pcs] at h
  | f + 1, i, p, h => by
    simp only [pcs] at h
    split at h
    · rename_i hi
      simp only [List.mem_cons] at h
      rcases h with rfl | h
      · have hb := dec_bd s i hi
        unfold pc
        split
        · simp
        · simp only; omega
      · exact pcs_r s f _ p h
    · simp at h

theorem own_base {w : World} {B B' e size n : Nat} {v : Value} {xs : List Value} (h : w.ownsRow B' e size v n xs) (hb : B ≤ B') : w.ownsRow B e size v n xs := by
  obtain ⟨h1, h2⟩ := h
  refine ⟨h1, ?_⟩
  rcases h2 with h2 | ⟨g, cap, cur, a, b, c, d⟩
  · exact .inl h2
  · exact .inr ⟨g, cap, cur, a, Nat.le_trans hb b, c, d⟩
theorem own_hit {w3 : World} {B i : Nat} {v' : Value} {l : List Pc} {x : Int} (h : bks (l.take (i + 1)) = if true = true then bks (l.take i) ++ [x] else bks (l.take i)) (hown : w3.ownsRow B 3 1 v' ((bks (l.take i)).length + 1) ((bks (l.take i)).map (Value.int .i64) ++ [.int .i64 x])) :
    w3.ownsRow B 3 1 v' (bks (l.take (i + 1))).length ((bks (l.take (i + 1))).map (Value.int .i64)) := by
  rw [h, if_pos rfl, List.length_append, List.map_append]; exact hown
theorem take_all {l : List Pc} {i : Nat} (h : l.length ≤ i) : l.take i = l := List.take_of_length_le h

set_option maxRecDepth 100000 in
set_option maxHeartbeats 4000000 in
theorem rbreaks_any (s : ByteArray) (w : World) (hsz : s.size ≤ 1099511627776) :
    Calls Tryd.prog 11 #[.string s] w fun e W' => (∃ v, e = .returned v ∧ W'.ownsRow w.heap.size 3 1 v (bks (G s 0)).length ((bks (G s 0)).map (Value.int .i64))) ∧ Below w.heap.size w W' := by
  obtain ⟨i0, hi, hz0, hz1, hz2⟩ := info_parts info3
  have hGl := G_le s
  go_enter Tryd.func11, Tryd.ntmps11
  go_wp2_with (go_at_call 9; refine (pieces_any s _ hsz).mono ?_; rintro e W1 ⟨⟨vW, rfl, hrow⟩, hB1⟩)
  have hz := hB1.size
  go_loopw [3, 5] (fun v t wr => ∃ (i : Nat), t = .int .i64 i ∧ i ≤ (G s 0).length ∧ wr.ownsRow W1.heap.size 3 1 v (bks ((G s 0).take i)).length ((bks ((G s 0).take i)).map (Value.int .i64)) ∧ Below W1.heap.size W1 wr) (fun _ t _ => (G s 0).length - (intOf t).toNat)
  case atStart => exact ⟨0, rfl, by omega, World.ownsRow_nil _ _ _ _, Below.refl _ _⟩
  case round =>
    obtain ⟨i, rfl, hil, hown, hB⟩ := hrel
    rcases hrow.2 with ⟨rfl, h0⟩ | ⟨g, cap, cur, rfl, hg1, hg2, hcl, hcm, hcs, htk⟩
    · have HE := Lib.hid (show (G s 0).take i = G s 0 from take_all (by omega))
      go_wp2
      go_ret
      exact ⟨⟨u3, rfl, by rw [HE.out] at hown; exact own_base hown hz⟩, hB1.trans (hB.mono hz)⟩
    · by_cases hlt : i < (G s 0).length
      · obtain ⟨p, hp⟩ : ∃ p, (G s 0)[i]? = some p := ⟨_, List.getElem?_eq_getElem hlt⟩
        have hf := flatP_at s _ i p hp
        have hc0 : wr.cell? ⟨g, i * 3, none⟩ = some (.int .i64 (p.at_ : Int)) := by
          rw [hB.cell (p := ⟨g, i * 3, none⟩) (Array.getElem?_eq_some_iff.1 hg2).1]
          exact (hrow.cellAt (i * 3) (by omega)).trans hf.1
        have hc2 : wr.cell? ⟨g, i * 3 + 2, none⟩ = some (.int .i32 p.r) := by
          rw [hB.cell (p := ⟨g, i * 3 + 2, none⟩) (Array.getElem?_eq_some_iff.1 hg2).1]
          exact (hrow.cellAt (i * 3 + 2) (by omega)).trans hf.2
        have hr := (pcs_r s _ _ p (List.mem_of_getElem? hp)).1
        have HT := Lib.hid (bks_take _ i p hp)
        clear hf hp
        have hlo : (bks ((G s 0).take i)).length ≤ i := Nat.le_trans (bks_le _) (by simp; omega)
        cases hb : (p.r == -1)
        · rw [hb] at HT
          have hn : 0 ≤ p.r := by have : ¬ p.r = -1 := by simpa using hb
                                  omega
          clear hb hr
          go_wp2
          exact ⟨⟨i + 1, (by go_num), hlt, by rw [HT.out]; exact hown, hB⟩, by simp [intOf]; omega⟩
        · rw [hb] at HT
          have hn : p.r < 0 := hr.2 (by simpa using hb)
          clear hb hr
          go_wp2_with (at_builtin; refine wpList_append_own _ rfl _ _ 29 rfl W1.heap.size 3 i0 (.int .i64 0) 1 8 Tryd.underlying29 hi hz0 hz1 hz2 rfl (by decide) _ _ _ rfl (hown.alloc _) ⟨wr.heap.size, 0, none⟩ 1 1 [.int .i64 (p.at_ : Int)] rfl rfl (cell_one_new _ _ _) (by simp [Value.oneCell']) (by unfold maxLen; omega) (by omega) (by have := hB.size; simp; omega) ?_; intro v' w3 hown3 hgrow3 _)
          exact ⟨⟨i + 1, (by go_num), hlt, own_hit HT.out hown3, Below.grown (hB.alloc hB.size _) hgrow3 (by have := hB.size; simp; omega) (fun j hj => by have := (hown.lt _ hj).1; omega)⟩, by simp [intOf]; omega⟩
      · have HE := Lib.hid (show (G s 0).take i = G s 0 from take_all (by omega))
        go_wp2
        go_ret
        exact ⟨⟨u3, rfl, by rw [HE.out] at hown; exact own_base hown hz⟩, hB1.trans (hB.mono hz)⟩
end Go.Proofs.YtdfhpblceoaofaaDoor
