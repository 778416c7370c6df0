/-
  The contract of text.fits.
-/
import Derived.Test.YtdfhpblceoaofaaDoorWM
namespace Go.Proofs.YtdfhpblceoaofaaDoor
open Go.ChangeShapes Go.WideShapes Go.ChangeAt Go.RowKit Go.Shelf
set_option linter.unusedVariables false
attribute [local go_sem] Oper.semAt_some

theorem wsum_cons {s : ByteArray} (x : Sub s) (l : List (Sub s)) : wsum (x :: l) = wd (pc s x.1).r + wsum l := by simp [wsum]
theorem fitGo_stop (s : ByteArray) (width : Int) (y : Sub s) (r : List (Sub s)) : ∀ (q : List (Sub s)) (acc : Nat), (q = [] ∨ ((acc + wsum q : Nat) : Int) ≤ width) → width < ((acc + wsum q + wd (pc s y.1).r : Nat) : Int) →
    fitGo width s.size ((q ++ y :: r).map fun x => pc s x.1) acc = (y.1, acc + wsum q)
  | [], acc, _, h => by
    have e : wsum ([] : List (Sub s)) = 0 := rfl
    rw [e, Nat.add_zero] at h ⊢
    show fitGo width s.size (pc s y.1 :: _) acc = _
    unfold fitGo
    rw [if_pos h, pc_at]
  | x :: q, acc, hq, h => by
    rw [wsum_cons] at hq h ⊢
    have hq' : ((acc + (wd (pc s x.1).r + wsum q) : Nat) : Int) ≤ width := by
      rcases hq with h | h
      · cases h
      · exact h
    show fitGo width s.size (pc s x.1 :: _) acc = _
    unfold fitGo
    rw [if_neg (by omega)]
    have := fitGo_stop s width y r q (acc + wd (pc s x.1).r) (.inr (by omega)) (by omega)
    refine this.trans ?_
    congr 1; omega
theorem fitGo_done (s : ByteArray) (width : Int) : ∀ (q : List (Sub s)) (acc : Nat), (q = [] ∨ ((acc + wsum q : Nat) : Int) ≤ width) →
    fitGo width s.size (q.map fun x => pc s x.1) acc = (s.size, acc + wsum q)
  | [], acc, _ => rfl
  | x :: q, acc, hq => by
    rw [wsum_cons] at hq ⊢
    have hq' : ((acc + (wd (pc s x.1).r + wsum q) : Nat) : Int) ≤ width := by
      rcases hq with h | h
      · cases h
      · exact h
    show fitGo width s.size (pc s x.1 :: _) acc = _
    unfold fitGo
    rw [if_neg (by omega)]
    refine (fitGo_done s width q (acc + wd (pc s x.1).r) (.inr (by omega))).trans ?_
    congr 1; omega
theorem fitP_stop {s : ByteArray} {width : Int} {q : List (Sub s)} {y : Sub s} (hp : q ++ [y] <+: LS s 0) (hq : q = [] ∨ (wsum q : Int) ≤ width) (h : width < (wsum q : Int) + (wd (pc s y.1).r : Int)) : fitP s width = (y.1, wsum q) := by
  obtain ⟨r, hr⟩ := hp
  have := fitGo_stop s width y r q 0 (by rcases hq with h | h; exact .inl h; exact .inr (by omega)) (by omega)
  rw [Nat.zero_add] at this
  unfold fitP
  rw [← LS_G, ← hr, List.append_assoc]
  exact this
theorem fitP_done {s : ByteArray} {width : Int} (hq : LS s 0 = [] ∨ (wsum (LS s 0) : Int) ≤ width) : fitP s width = (s.size, wsum (LS s 0)) := by
  have := fitGo_done s width (LS s 0) 0 (by rcases hq with h | h; exact .inl h; exact .inr (by omega))
  rw [Nat.zero_add] at this
  unfold fitP
  rw [← LS_G]; exact this

/-- Every beginning so far has room. -/
def Room {s : ByteArray} (width : Int) (q : List (Sub s)) : Prop := q = [] ∨ (wsum q : Int) ≤ width
/-- The last thing has none. -/
def Over {s : ByteArray} (width : Int) (p : List (Sub s)) (a b : Int) : Prop := ∃ q y, p = q ++ [y] ∧ Room width q ∧ width < (wsum q : Int) + (wd (pc s y.1).r : Int) ∧ a = (y.1 : Int) ∧ b = (wsum q : Int)

set_option maxRecDepth 100000 in
set_option maxHeartbeats 4000000 in
theorem fits_in (n : Nat) (hn : 3 ≤ n) (s : ByteArray) (width : Int) (w : World) (h2 : 2 ≤ w.heap.size) (hT : Lib.Utf8Tabs 0 1 w) (hsz : s.size ≤ 1099511627776) (hlo : -9223372036854775808 ≤ width) (hhi : width ≤ 9223372036854775807) :
    CallsIn Fence.wide n Tryd.prog 43 #[.string s, .int .i64 width] w fun e W' => e = .returned (.tuple #[.int .i64 ((fitP s width).1 : Int), .int .i64 ((fitP s width).2 : Int)]) ∧ Below w.heap.size w W' := by
  have h1 : 1 ≤ n := by omega
  have hGl := LS_len s
  refine callsIn_of_wp_marks Tryd.func43 rfl trivial ?_ rfl
  simp only [Tryd.ntmps43, List.size_toArray, List.length_cons, List.length_nil, Nat.reduceAdd, Nat.reduceSub, Array.replicate_succ, Array.replicate_zero, List.push_toArray, List.append_toArray, List.nil_append, List.cons_append]
  gi_wp2_with (refine ⟨trivial, ?_⟩; gi_at_call 10; refine (callsIn_wide.2 (runes_any _ _)).mono ?_; rintro e w' ⟨rfl, rfl⟩)
  have b0 := (((Boxed.new w 3 (.int .i64 width)).alloc (.cells #[.int .i64 0] 3)).alloc (.cells #[.int .i64 0] 3)).alloc (.cells #[.string s] 9)
  have b1 := ((Boxed.new (w.alloc (.cells #[.int .i64 width] 3)) 3 (.int .i64 0)).alloc (.cells #[.int .i64 0] 3)).alloc (.cells #[.string s] 9)
  have b2 := (Boxed.new ((w.alloc (.cells #[.int .i64 width] 3)).alloc (.cells #[.int .i64 0] 3)) 3 (.int .i64 0)).alloc (.cells #[.string s] 9)
  have bN := Boxed.new (((w.alloc (.cells #[.int .i64 width] 3)).alloc (.cells #[.int .i64 0] 3)).alloc (.cells #[.int .i64 0] 3)) 9 (.string s)
  simp only [World.size_alloc] at b1 b2 bN
  have hB0 : Below w.heap.size w ((((w.alloc (.cells #[.int .i64 width] 3)).alloc (.cells #[.int .i64 0] 3)).alloc (.cells #[.int .i64 0] 3)).alloc (.cells #[.string s] 9)) := ((((Below.refl _ w).alloc (Nat.le_refl _) _).alloc (by simp) _).alloc (by simp; omega) _).alloc (by simp; omega) _
  have hz0 : ((((w.alloc (.cells #[.int .i64 width] 3)).alloc (.cells #[.int .i64 0] 3)).alloc (.cells #[.int .i64 0] 3)).alloc (.cells #[.string s] 9)).heap.size = w.heap.size + 4 := by simp
  obtain ⟨W0, hW0⟩ : ∃ W0, (((w.alloc (.cells #[.int .i64 width] 3)).alloc (.cells #[.int .i64 0] 3)).alloc (.cells #[.int .i64 0] 3)).alloc (.cells #[.string s] 9) = W0 := ⟨_, rfl⟩
  rw [hW0] at b0 b1 b2 bN hB0 hz0 ⊢
  clear hW0
  have hza : w.heap.size + 4 ≤ W0.heap.size := by omega
  clear hz0
  apply with_frm (α := Sub s)
  intro fr hfr
  refine wpIn_rangeFunc_ownG rfl h1 (gf := 33) (lb := #[.pointer (some ⟨w.heap.size + 1 + 1 + 1, 0, none⟩)]) rfl trivial (enters_of Tryd.func33 (by kernel_rfl) rfl)
    (runes_sub (n - 1) (by omega) (w.heap.size + 1 + 1 + 1) w.heap.size s _ (by omega) (by omega) (by omega) bN.cell (tabs_below hT hB0 h2) hsz) Kp_t (Kp_b (by omega) (by omega)) (Below.refl _ _) (fun _ => rfl)
    (fun pre W => Room width pre ∧ ((Boxed W w.heap.size 3 (.int .i64 width) ∧ Boxed W (w.heap.size + 1) 3 (.int .i64 0)) ∧ (Boxed W (w.heap.size + 1 + 1) 3 (.int .i64 (wsum pre : Int)) ∧ (Boxed W (w.heap.size + 1 + 1 + 1) 9 (.string s) ∧ Below w.heap.size w W))))
    (fun c pre W => ∃ a b : Int, c = .ret ∧ Over width pre a b ∧ Boxed W (w.heap.size + 1) 3 (.int .i64 a) ∧ Boxed W (w.heap.size + 1 + 1) 3 (.int .i64 b) ∧ Below w.heap.size w W)
    (OwnFrom.and (ownFrom_pure _ (fun pre => Room width pre)) (OwnFrom.and (OwnFrom.and (Own.from (boxed_own w.heap.size 3 (fun pre : List (Sub s) => Value.int .i64 width)) _) (Own.from (boxed_own (w.heap.size + 1) 3 (fun pre : List (Sub s) => Value.int .i64 0)) _)) (OwnFrom.and (Own.from (boxed_own (w.heap.size + 1 + 1) 3 (fun pre : List (Sub s) => Value.int .i64 (wsum pre : Int))) _) (OwnFrom.and (Own.from (boxed_own (w.heap.size + 1 + 1 + 1) 9 (fun _ => Value.string s)) _) (ownFrom_below (Nat.le_refl _) (by omega))))))
    (fun c pre A B row hs hg hr => by
      obtain ⟨a, b, h1, h2, h3, h4, h5⟩ := hs
      exact ⟨a, b, h1, h2, Own.from (boxed_own (w.heap.size + 1) 3 (fun _ : Unit => Value.int .i64 a)) _ () A B row h3 hg hr, Own.from (boxed_own (w.heap.size + 1 + 1) 3 (fun _ : Unit => Value.int .i64 b)) _ () A B row h4 hg hr, ownFrom_below (β := Unit) (Nat.le_refl _) (by omega) () A B row h5 hg hr⟩)
    ⟨.inl rfl, ⟨b0, b1⟩, b2, bN, hB0⟩
    fr ?assign ?body ?done ?stop
  case assign =>
    intro l x W K hK
    rw [hfr] at hK
    dsimp only [encS]
    gi_wp2
    exact hK
  case body =>
    rintro l pre x W ⟨hR, ⟨c0, c1⟩, c2, bS, hB⟩ hlt
    rw [hfr]
    have k0 := c0.cell
    have k1 := c1.cell
    have k2 := c2.cell
    have f1 := c1.frozen
    have f2 := c2.frozen
    have hd : 1 ≤ n - 1 - 1 := by omega
    have hz := hB.size
    have hzS := bS.lt
    have hx := wd_le (pc s x.1).r
    have hwl := wsum_le pre
    have hsub : -9223372036854775808 ≤ width - (wsum pre : Int) := by
      rcases hR with h | h
      · subst h; have e : wsum ([] : List (Sub s)) = 0 := rfl; omega
      · omega
    have hsub2 : width - (wsum pre : Int) ≤ 9223372036854775807 := by omega
    have hwr : IntKind.i64.wrap (width - (wsum pre : Int)) = width - (wsum pre : Int) := IntWalk.i64_in _ (by omega)
    have hwr2 : IntKind.i64.wrap ((wsum pre : Int) + (wd (pc s x.1).r : Int)) = (wsum pre : Int) + (wd (pc s x.1).r : Int) := IntWalk.i64_in _ (by omega)
    have HR := Lib.hid hR
    clear hR
    by_cases hov : width - (wsum pre : Int) < (wd (pc s x.1).r : Int)
    · have HO : Hid (Over width (pre ++ [x]) (x.1 : Int) (wsum pre : Int)) := Lib.hid ⟨pre, x, rfl, HR.out, by omega, rfl, rfl⟩
      have hmx : Tryd.prog.follows .mixedOrders = true := by kernel_rfl
      gi_wp2_with (refine ⟨trivial, ?_⟩; gi_at_call 38; refine (CallsIn.inRound l (callsIn_wide.2 (widthOf_any _ _))).mono ?_; rintro e w' ⟨rfl, rfl⟩)
      gi_region_with_o (fail)
      all_goals (try gi_wp2)
      all_goals exact ⟨(((KeepsOthers.setCell _ _ _).trans (KeepsOthers.setCell _ _ _)).trans (KeepsOthers.drew _)).from _, _, _, rfl, HO.out, (c1.set _).other (by omega) _, ((c2.other (by omega) _).set _), ((hB.setCell (p := ⟨w.heap.size + 1, 0, none⟩) (Nat.le_add_right _ _) _).setCell (p := ⟨w.heap.size + 1 + 1, 0, none⟩) (by show w.heap.size ≤ w.heap.size + 1 + 1; omega) _).drew⟩
    · have HO : Hid (Room width (pre ++ [x])) := Lib.hid (.inr (by rw [wsum_snoc]; omega))
      have HS := Lib.hid (wsum_snoc pre x)
      gi_wp2_with (refine ⟨trivial, ?_⟩; gi_at_call 38; refine (CallsIn.inRound l (callsIn_wide.2 (widthOf_any _ _))).mono ?_; rintro e w' ⟨rfl, rfl⟩)
      have e2 : Boxed (W.setCell ⟨w.heap.size + 1 + 1, 0, none⟩ (.int .i64 ((wsum pre : Int) + (wd (pc s x.1).r : Int)))) (w.heap.size + 1 + 1 + 1) 9 (.string s) := bS.other (by omega) _
      exact ⟨(KeepsOthers.setCell _ _ _).from _, ⟨⟨(Below.refl _ W).setCell (p := ⟨w.heap.size + 1 + 1, 0, none⟩) (by show w.heap.size ≤ w.heap.size + 1 + 1; omega) _, Eq.trans e2 (Eq.symm bS)⟩, (KeepsOthers.setCell _ _ _).walks⟩, HO.out, ⟨c0.other (by omega) _, c1.other (by omega) _⟩, by rw [HS.out, Int.natCast_add]; exact c2.set _, e2, hB.setCell (p := ⟨w.heap.size + 1 + 1, 0, none⟩) (by show w.heap.size ≤ w.heap.size + 1 + 1; omega) _⟩
  case done =>
    rintro D ys W hD rfl ⟨hR, ⟨c0, c1⟩, c2, bS, hB⟩ hK
    have k1 := c1.cell
    have k2 := c2.cell
    have f1 := c1.frozen
    have f2 := c2.frozen
    have hzS := bS.lt
    have HP := Lib.hid (fitP_done hR)
    have hmx : Tryd.prog.follows .mixedOrders = true := by kernel_rfl
    have e1 : Boxed (((W.setCell ⟨w.heap.size + 1, 0, none⟩ (.int .i64 (s.size : Int))).setCell ⟨w.heap.size + 1 + 1, 0, none⟩ (.int .i64 (wsum (LS s 0) : Int))).drew) (w.heap.size + 1) 3 (.int .i64 (s.size : Int)) := (c1.set _).other (by omega) _
    have e2 : Boxed (((W.setCell ⟨w.heap.size + 1, 0, none⟩ (.int .i64 (s.size : Int))).setCell ⟨w.heap.size + 1 + 1, 0, none⟩ (.int .i64 (wsum (LS s 0) : Int))).drew) (w.heap.size + 1 + 1) 3 (.int .i64 (wsum (LS s 0) : Int)) := (c2.other (by omega) _).set _
    have hBl : Below w.heap.size w (((W.setCell ⟨w.heap.size + 1, 0, none⟩ (.int .i64 (s.size : Int))).setCell ⟨w.heap.size + 1 + 1, 0, none⟩ (.int .i64 (wsum (LS s 0) : Int))).drew) := ((hB.setCell (p := ⟨w.heap.size + 1, 0, none⟩) (Nat.le_add_right _ _) _).setCell (p := ⟨w.heap.size + 1 + 1, 0, none⟩) (by show w.heap.size ≤ w.heap.size + 1 + 1; omega) _).drew
    have eK := (((KeepsOthers.setCell W ⟨w.heap.size + 1, 0, none⟩ (.int .i64 (s.size : Int))).trans (KeepsOthers.setCell _ ⟨w.heap.size + 1 + 1, 0, none⟩ (.int .i64 (wsum (LS s 0) : Int)))).trans (KeepsOthers.drew _)).same D _ hK rfl
    have X := Lib.hid (And.intro e1 (And.intro e2 (And.intro hBl eK)))
    clear e1 e2 hBl eK hK hR
    gi_wp2_with fail
    gi_region
    all_goals (try gi_wp2)
    all_goals
      obtain ⟨e1, e2, hBl, eK⟩ := X.out
      refine ⟨by simp, .inl ⟨_, _, rfl, run_takeDeferred eK, ?_⟩⟩
      have g1 := (e1.kept (grownBy_putObj' _ D (.deferred none)) (fun e => by cases e; rw [show _ = _ from e1] at eK; cases eK)).cell
      have g2 := (e2.kept (grownBy_putObj' _ D (.deferred none)) (fun e => by cases e; rw [show _ = _ from e2] at eK; cases eK)).cell
      exact ⟨.tuple #[.int .i64 (s.size : Int), .int .i64 (wsum (LS s 0) : Int)], by simp [results, Tryd.results43, go_sem, g1, g2], by rw [HP.out], hBl.trans (belowK_b (w := w) (Nat.le_refl _) _ D _ _ (by omega) eK rfl rfl)⟩
  case stop =>
    rintro D c pre W hD hp ⟨a, b, rfl, hO, c1, c2, hB⟩ hK
    have hzS := c2.lt
    obtain ⟨q, y, rfl, hq1, hq2, rfl, rfl⟩ := hO
    have HP := Lib.hid (fitP_stop hp hq1 hq2)
    clear hp hq1 hq2
    gi_wp2
    refine ⟨by simp, .inl ⟨_, _, rfl, run_takeDeferred hK, ?_⟩⟩
    have g1 := (c1.kept (grownBy_putObj' _ D (.deferred none)) (fun e => by cases e; rw [show _ = _ from c1] at hK; cases hK)).cell
    have g2 := (c2.kept (grownBy_putObj' _ D (.deferred none)) (fun e => by cases e; rw [show _ = _ from c2] at hK; cases hK)).cell
    exact ⟨.tuple #[.int .i64 (y.1 : Int), .int .i64 (wsum q : Int)], by simp [results, Tryd.results43, go_sem, g1, g2], by rw [HP.out], hB.trans (belowK_b (w := w) (Nat.le_refl _) _ D _ _ (by omega) hK rfl rfl)⟩
end Go.Proofs.YtdfhpblceoaofaaDoor
