/-
  The contract of text.Breaks.
-/
import Derived.Test.YtdfhpblceoaofaaDoorF
import Derived.Maps.AppendAt
namespace Go.Proofs.YtdfhpblceoaofaaDoor
open Go.ChangeShapes Go.WideShapes Go.ChangeAt Go.RowKit Go.Shelf
set_option linter.unusedVariables false
attribute [local go_sem] Oper.semAt_some

/-- The places of the breaks. -/
def bks (l : List Pc) : List Int := (l.filter (fun p => p.r == -1)).map fun p => (p.at_ : Int)
theorem bks_hit {l : List Pc} {p : Pc} (h : (p.r == -1) = true) : bks (l ++ [p]) = bks l ++ [(p.at_ : Int)] := by simp [bks, List.filter_append, h]
theorem bks_miss {l : List Pc} {p : Pc} (h : (p.r == -1) = false) : bks (l ++ [p]) = bks l := by simp [bks, List.filter_append, h]
theorem bks_le (l : List Pc) : (bks l).length ≤ l.length := by simp [bks]; exact List.length_filter_le _ _
theorem pcs_le (s : ByteArray) : ∀ f i, (pcs s f i).length ≤ f
  | 0, i => by simp [pcs]
  | f + 1, i => by
    simp only [pcs]
    split
    · simp; exact pcs_le s f _
    · simp
theorem G_le (s : ByteArray) : (G s 0).length ≤ s.size := pcs_le s _ _
theorem info3 : (Tryd.prog.info? 3).map (fun i => (i.zero, i.size, i.bytes)) = some (some (.int .i64 0), 1, 8) := by kernel_rfl

theorem keepsWalks_of {A B : World} (h : KeepsOthers A B) : KeepsWalks A B := ⟨h.size, fun k o hk hw => h.same k o hk (by cases o <;> first | rfl | cases hw)⟩

set_option maxRecDepth 100000 in
set_option maxHeartbeats 4000000 in
theorem breaks_in (n : Nat) (hn : 3 ≤ n) (s : ByteArray) (w : World) (h2 : 2 ≤ w.heap.size) (hT : Lib.Utf8Tabs 0 1 w) (hsz : s.size ≤ 1099511627776) :
    CallsIn Fence.wide n Tryd.prog 12 #[.string s] w fun e W' => (∃ v, e = .returned v ∧ W'.ownsRow w.heap.size 3 1 v (bks (G s 0)).length ((bks (G s 0)).map (Value.int .i64))) ∧ Below w.heap.size w W' := by
  have h1 : 1 ≤ n := by omega
  obtain ⟨i0, hi, hz0, hz1, hz2⟩ := info_parts info3
  have hGl := G_le s
  refine callsIn_of_wp_marks Tryd.func12 rfl trivial ?_ rfl
  simp only [Tryd.ntmps12, List.size_toArray, List.length_cons, List.length_nil, Nat.reduceAdd, Nat.reduceSub, Array.replicate_succ, Array.replicate_zero, List.push_toArray, List.append_toArray, List.nil_append, List.cons_append]
  gi_wp2_with (refine ⟨trivial, ?_⟩; gi_at_call 10; refine (callsIn_wide.2 (runes_any _ _)).mono ?_; rintro e w' ⟨rfl, rfl⟩)
  have bO := Boxed.new w 29 (.slice none 0 0)
  have bN := Boxed.new (w.alloc (.cells #[.slice none 0 0] 29)) 9 (.string s)
  rw [World.size_alloc] at bN
  have hB0 : Below w.heap.size w ((w.alloc (.cells #[.slice none 0 0] 29)).alloc (.cells #[.string s] 9)) := ((Below.refl _ w).alloc (Nat.le_refl _) _).alloc (by simp) _
  refine wpIn_rangeFunc_ownG rfl h1 (gf := 33) (lb := #[.pointer (some ⟨w.heap.size + 1, 0, none⟩)]) rfl trivial (enters_of Tryd.func33 (by kernel_rfl) rfl)
    (runes_stops (n - 1) (by omega) (w.heap.size + 1) w.heap.size s _ (by simp) (by simp; omega) h2 bN.cell (tabs_below hT hB0 h2) hsz) Kp_t (Kp_b (by simp; omega) (by simp)) (Below.refl _ _) (fun _ => rfl)
    (fun pre W => (∃ v, Boxed W w.heap.size 29 v ∧ W.ownsRow w.heap.size 3 1 v (bks pre).length ((bks pre).map (Value.int .i64)) ∧ True) ∧ (Boxed W (w.heap.size + 1) 9 (.string s) ∧ Below w.heap.size w W))
    (fun _ _ _ => False)
    (OwnFrom.and (Own.from (holdsRow_own w.heap.size w.heap.size 29 3 1 (fun pre => (bks pre).length) (fun pre => (bks pre).map (Value.int .i64)) (fun pre v => True)) _) (OwnFrom.and (Own.from (boxed_own (w.heap.size + 1) 9 (fun _ => Value.string s)) _) (ownFrom_below (Nat.le_refl _) (by simp; omega))))
    (fun _ _ _ _ _ hs _ _ => hs)
    ⟨⟨_, bO.alloc _, World.ownsRow_nil _ _ _ _, trivial⟩, bN, hB0⟩
    (fun x => { tmps := #[.string s, undef, .slice none 0 0, .pointer (some ⟨w.heap.size, 0, none⟩), .int .i64 (x.at_ : Int), .int .i32 x.r, .string s, .func (.func 33) #[] #[.pointer (some ⟨w.heap.size + 1, 0, none⟩)], .int .i64 (x.at_ : Int), .int .i32 x.r, undef, undef, undef, undef, undef, undef, undef], defers := [] }) ?assign ?body ?done ?stop
  case assign =>
    intro l x W K hK
    dsimp only [encR]
    gi_wp2
    exact hK
  case body =>
    rintro l pre x W ⟨⟨v, hv, hrow, _⟩, bS, hB⟩ hlt
    have hc := hv.cell
    have hpl := bks_le pre
    cases hx : (x.r == -1)
    · gi_wp2
      exact ⟨KeepsFrom.refl _ _, ⟨⟨Below.refl _ _, rfl⟩, KeepsWalks.refl _⟩, ⟨v, hv, by rw [bks_miss hx]; exact hrow, trivial⟩, bS, hB⟩
    · gi_wp2_with (gi_at_builtin; refine wpListIn_append_own _ rfl _ _ 29 rfl w.heap.size 3 i0 (.int .i64 0) 1 8 Tryd.underlying29 hi hz0 hz1 hz2 rfl (by decide) _ _ _ rfl (hrow.alloc _) ⟨W.heap.size, 0, none⟩ 1 1 [.int .i64 (x.at_ : Int)] rfl rfl (cell_one_new _ _ _) (by simp [Value.oneCell']) (by unfold maxLen; omega) (by omega) (by have := hB.size; simp; omega) ?_; intro v' w1 hown' hgrow _; obtain ⟨g', cap', rfl⟩ := ownsRow_succ hown'; obtain ⟨hv1, hv2, hr2, hk2, hb2⟩ := hv.appended (by decide) hrow hB.size (Nat.le_refl _) hown' hgrow; have hc1 := hv1.cell; have hf1 := hv1.frozen)
      have bS2 : Boxed (w1.setCell ⟨w.heap.size, 0, none⟩ (.slice (some ⟨g', 0, none⟩) ((bks pre).length + 1) cap')) (w.heap.size + 1) 9 (.string s) := ((bS.alloc _).kept hgrow (bS.not_row (by decide) hrow)).other (by omega) _
      exact ⟨hk2.from _, ⟨⟨hb2, Eq.trans bS2 (Eq.symm bS)⟩, keepsWalks_of hk2⟩, ⟨_, hv2, by rw [bks_hit hx]; simpa using hr2, trivial⟩, bS2, hB.trans hb2⟩
  case done =>
    rintro D ys W hD rfl ⟨⟨v, hv, hrow, _⟩, bS, hB⟩ hK
    have hc := hv.cell
    gi_wp2
    refine ⟨by simp, .inl ⟨_, _, rfl, run_takeDeferred hK, ?_⟩⟩
    exact ⟨_, results_tmp rfl _ _ _, ⟨v, rfl, ownsRow_putObj hrow _ hK rfl⟩, hB.trans (belowK_b (w := w) (Nat.le_refl _) W D _ _ (by simp at hD; omega) hK rfl rfl)⟩
  case stop =>
    rintro D c pre W _ _ h _
    exact h.elim
end Go.Proofs.YtdfhpblceoaofaaDoor
