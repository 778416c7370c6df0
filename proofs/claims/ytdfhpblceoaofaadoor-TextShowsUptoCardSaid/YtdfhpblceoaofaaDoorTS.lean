/-
  The walk of TextShows, given the contract of the document's own Unquote.
-/
import Derived.Test.YtdfhpblceoaofaaDoorRF
namespace Go.Proofs.YtdfhpblceoaofaaDoor
open Go.ChangeShapes Go.WideShapes Go.ChangeAt Go.RowKit Go.Shelf
set_option linter.unusedVariables false

/-- What both Unquotes return. -/
theorem uq_both {s : ByteArray} {a b : Ending} (ha : UQs s a) (hb : UQs s b) : ∃ (u : ByteArray) (n : Int), a = .returned (.tuple #[.string u, .int .i64 n]) ∧ b = a := by
  rcases ha with ⟨u, h1, h2, rfl⟩ | ⟨h1, rfl⟩ <;> rcases hb with ⟨v, g1, g2, rfl⟩ | ⟨g1, rfl⟩
  · rw [h2 v g1]; exact ⟨_, _, rfl, rfl⟩
  · exact absurd h1 (g1 u)
  · exact absurd g1 (h1 v)
  · exact ⟨_, _, rfl, rfl⟩
theorem fr_both {s : ByteArray} {a b : Ending} (ha : FRs s a) (hb : FRs s b) : ∃ (u : ByteArray) (k n : Int), a = .returned (.tuple #[.string u, .int .i64 k, .int .i64 n]) ∧ b = a := by
  rcases ha with ⟨u, h1, h2, rfl⟩ | ⟨h1, rfl⟩ <;> rcases hb with ⟨v, g1, g2, rfl⟩ | ⟨g1, rfl⟩
  · rw [h2 v g1]; exact ⟨_, _, _, rfl, rfl⟩
  · exact absurd h1 (g1 u)
  · exact absurd g1 (h1 v)
  · exact ⟨_, _, _, rfl, rfl⟩

set_option maxRecDepth 100000 in
set_option maxHeartbeats 4000000 in
theorem textShows_of (hU : ∀ (s : ByteArray) (w : World), s.size ≤ 1099511627776 → Calls Tryd.prog 20 #[.string s] w fun e W' => UQs s e ∧ Below w.heap.size w W')
    (s t rest : ByteArray) (w : World) (h2 : 2 ≤ w.heap.size) (hT : Lib.Utf8Tabs 0 1 w) (hs : s.size ≤ 1048576) (ht : t.size ≤ 1048576) (hr : rest.size ≤ 1048576) :
    Calls Tryd.prog 4 #[.string s, .string t, .string rest] w fun e W' => e = .returned (.bool true) ∧ Below w.heap.size w W' := by
  have c1 := callsIn_wide.1 (show_in 3 (Nat.le_refl _) s w h2 hT (by omega))
  have c2 := fun W => rshow_any s W (by omega)
  have c3 := fun W (h : Below w.heap.size w W) => callsIn_wide.1 (width_in 3 (Nat.le_refl _) s W (Nat.le_trans h2 h.size) (tabs_below hT h h2) (by omega))
  have c4 := fun W => rwidth_any s W (by omega)
  have c5 := fun W (h : Below w.heap.size w W) => callsIn_wide.1 (quote_in 3 (Nat.le_refl _) s W (Nat.le_trans h2 h.size) (tabs_below hT h h2) (by omega))
  have c6 := fun W => rquote_any s W (by omega)
  rw [shL_raL] at c1
  simp only [wsum_rwsum] at c3
  unfold qtA at c5
  simp only [qtL_raL] at c5
  generalize (⟨(raL false s (G s 0)).toArray⟩ : ByteArray) = A at c1 c2
  generalize (⟨(34 :: (raL true s (G s 0) ++ [34])).toArray⟩ : ByteArray) = B at c5 c6
  generalize (rwsum (G s 0) : Int) = k at c3 c4
  have hadd : (t ++ rest).size ≤ 1099511627776 := by rw [ByteArray.size_append]; omega
  go_enter Tryd.func4, Tryd.ntmps4
  go_wp2_with fail
  refine c1.mono ?_
  rintro e W1 ⟨rfl, b1⟩
  go_wp2_with fail
  refine (c2 W1).mono ?_
  rintro e W2 ⟨rfl, b2⟩
  have B2 := b1.trans (b2.mono b1.size)
  go_wp2_with fail
  refine (c3 W2 B2).mono ?_
  rintro e W3 ⟨rfl, b3⟩
  have B3 := B2.trans (b3.mono B2.size)
  go_wp2_with fail
  refine (c4 W3).mono ?_
  rintro e W4 ⟨rfl, b4⟩
  have B4 := B3.trans (b4.mono B3.size)
  go_wp2_with fail
  refine (c5 W4 B4).mono ?_
  rintro e W5 ⟨rfl, b5⟩
  have B5 := B4.trans (b5.mono B4.size)
  go_wp2_with fail
  refine (c6 W5).mono ?_
  rintro e W6 ⟨rfl, b6⟩
  have B6 := B5.trans (b6.mono B5.size)
  clear b1 b2 b3 b4 b5 b6 B2 B3 B4 B5 c1 c2 c3 c4 c5 c6
  go_wp2_with fail
  refine (hU t W6 (by omega)).mono ?_
  rintro e W7 ⟨u7, b7⟩
  have B7 := B6.trans (b7.mono B6.size)
  obtain ⟨x, n, e7, _⟩ := uq_both u7 u7
  subst e7
  go_wp2_with fail
  refine (unquote_any t W7 (Nat.le_trans h2 B7.size) (tabs_below hT B7 h2) (by omega)).mono ?_
  rintro e W8 ⟨u8, b8⟩
  have B8 := B7.trans (b8.mono B7.size)
  obtain ⟨x', n', e8, e8'⟩ := uq_both u7 u8
  cases e8
  subst e8'
  clear u7 u8
  go_wp2_with fail
  refine (rfront_of hU (t ++ rest) W8 hadd).mono ?_
  rintro e W9 ⟨u9, b9⟩
  have B9 := B8.trans (b9.mono B8.size)
  obtain ⟨y, k9, n9, e9, _⟩ := fr_both u9 u9
  subst e9
  go_wp2_with fail
  refine (front_any (t ++ rest) W9 (Nat.le_trans h2 B9.size) (tabs_below hT B9 h2) hadd).mono ?_
  rintro e W10 ⟨u10, b10⟩
  have B10 := B9.trans (b10.mono B9.size)
  obtain ⟨y', k9', n9', e10, e10'⟩ := fr_both u9 u10
  cases e10
  subst e10'
  clear u9 u10
  go_wp2
  go_ret
  exact ⟨by simp, B10⟩
end Go.Proofs.YtdfhpblceoaofaaDoor
