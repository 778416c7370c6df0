/-
  Runs of the call's own: the list of runs that a law hands to Unfold.
-/
import Derived.Test.YtocdinaomkmcbaaDoorUB
import Derived.Test.YtocdinaomkmcbaaDoorPA
namespace Go.Proofs.YtocdinaomkmcbaaDoor
open Go.ChangeShapes Go.WideShapes Go.ChangeAt Go.RowKit Go.Shelf
set_option linter.unusedVariables false

theorem info58 : (Tryd.prog.info? 58).map (fun i => (i.zero, i.size, i.bytes)) = some (some (.agg #[.slice none 0 0, .int .i64 0]), 2, 32) := by kernel_rfl
theorem info64 : (Tryd.prog.info? 64).map (fun i => (i.zero, i.size, i.bytes)) = some (some (.agg #[.slice none 0 0, .int .i64 0]), 2, 32) := by kernel_rfl
/-- Rows of unlike element types are apart: what is written to one leaves the other. -/
theorem keep_other {W W' : World} {B1 B2 e1 e2 s1 s2 n1 n2 : Nat} {v1 v2 : Value} {x1 x2 : List Value} (h1 : W.ownsRow B1 e1 s1 v1 n1 x1) (h2 : W.ownsRow B2 e2 s2 v2 n2 x2) (he : e1 ≠ e2) (hg : W.grownBy W' v2.ownBlock) : W'.ownsRow B1 e1 s1 v1 n1 x1 := by
  refine h1.kept hg ?_
  rcases h1.2 with ⟨rfl, _⟩ | ⟨g, cap, cur, rfl, _, hb1, _⟩
  · exact .inl rfl
  · refine .inr fun e => ?_
    rcases h2.2 with ⟨rfl, _⟩ | ⟨g', cap', cur', rfl, _, hb2, _⟩
    · simp [Value.ownBlock] at e
    · have : g = g' := by simpa [Value.ownBlock] using e
      subst this
      rw [hb1] at hb2
      simp at hb2
      exact he hb2.2
def LA (W : World) (l : List Rn) (xs : List Value) : Prop := ∀ i r, l[i]? = some r → ∃ g c B, xs[i * 2]? = some (.slice (some ⟨g, 0, none⟩) r.1.length c) ∧ xs[i * 2 + 1]? = some (.int .i64 r.2) ∧ W.ownsRow B 48 2 (.slice (some ⟨g, 0, none⟩) (r.1.length + 1) c) (r.1.length + 1) (flat (r.1 ++ [markP]))
def LB (W : World) (l : List Rn) (xs : List Value) : Prop := ∀ i r, l[i]? = some r → ∃ v B, xs[i * 2]? = some v ∧ xs[i * 2 + 1]? = some (.int .i64 r.2) ∧ W.ownsRow B 102 2 v r.1.length (flat r.1)
theorem LA.keep {W W' : World} {l : List Rn} {xs x2 : List Value} {B2 e2 s2 n2 : Nat} {v2 : Value} (h : LA W l xs) (h2 : W.ownsRow B2 e2 s2 v2 n2 x2) (he : 48 ≠ e2) (hg : W.grownBy W' v2.ownBlock) : LA W' l xs := fun i r hr => by
  obtain ⟨g, c, B, a, b, d⟩ := h i r hr
  exact ⟨g, c, B, a, b, keep_other d h2 he hg⟩
theorem LB.keep {W W' : World} {l : List Rn} {xs x2 : List Value} {B2 e2 s2 n2 : Nat} {v2 : Value} (h : LB W l xs) (h2 : W.ownsRow B2 e2 s2 v2 n2 x2) (he : 102 ≠ e2) (hg : W.grownBy W' v2.ownBlock) : LB W' l xs := fun i r hr => by
  obtain ⟨v, B, a, b, d⟩ := h i r hr
  exact ⟨v, B, a, b, keep_other d h2 he hg⟩
theorem LA.below {W W' : World} {l : List Rn} {xs : List Value} (h : LA W l xs) (hb : Below W.heap.size W W') : LA W' l xs := fun i r hr => by
  obtain ⟨g, c, B, a, b, d⟩ := h i r hr
  exact ⟨g, c, B, a, b, own_below d hb⟩
theorem LB.below {W W' : World} {l : List Rn} {xs : List Value} (h : LB W l xs) (hb : Below W.heap.size W W') : LB W' l xs := fun i r hr => by
  obtain ⟨v, B, a, b, d⟩ := h i r hr
  exact ⟨v, B, a, b, own_below d hb⟩
theorem LA.snoc {W : World} {l : List Rn} {xs : List Value} {r : Rn} {g c B : Nat} (h : LA W l xs) (hx : xs.length = l.length * 2) (hr : W.ownsRow B 48 2 (.slice (some ⟨g, 0, none⟩) (r.1.length + 1) c) (r.1.length + 1) (flat (r.1 ++ [markP]))) : LA W (l ++ [r]) (xs ++ [.slice (some ⟨g, 0, none⟩) r.1.length c, .int .i64 r.2]) := fun i q hq => by
  by_cases hi : i < l.length
  · rw [List.getElem?_append_left hi] at hq
    obtain ⟨g', c', B', a, b, d⟩ := h i q hq
    exact ⟨g', c', B', by rw [List.getElem?_append_left (by omega)]; exact a, by rw [List.getElem?_append_left (by omega)]; exact b, d⟩
  · have hil : i = l.length := by
      have := (List.getElem?_eq_some_iff.1 hq).1
      simp at this; omega
    subst hil
    rw [List.getElem?_append_right (Nat.le_refl _), Nat.sub_self] at hq
    simp at hq
    subst hq
    exact ⟨g, c, B, by rw [List.getElem?_append_right (by omega), hx, Nat.sub_self]; rfl, by rw [List.getElem?_append_right (by omega), hx, show l.length * 2 + 1 - l.length * 2 = 1 by omega]; rfl, hr⟩
theorem LB.snoc {W : World} {l : List Rn} {xs : List Value} {r : Rn} {v : Value} {B : Nat} (h : LB W l xs) (hx : xs.length = l.length * 2) (hr : W.ownsRow B 102 2 v r.1.length (flat r.1)) : LB W (l ++ [r]) (xs ++ [v, .int .i64 r.2]) := fun i q hq => by
  by_cases hi : i < l.length
  · rw [List.getElem?_append_left hi] at hq
    obtain ⟨v', B', a, b, d⟩ := h i q hq
    exact ⟨v', B', by rw [List.getElem?_append_left (by omega)]; exact a, by rw [List.getElem?_append_left (by omega)]; exact b, d⟩
  · have hil : i = l.length := by
      have := (List.getElem?_eq_some_iff.1 hq).1
      simp at this; omega
    subst hil
    rw [List.getElem?_append_right (Nat.le_refl _), Nat.sub_self] at hq
    simp at hq
    subst hq
    exact ⟨v, B, by rw [List.getElem?_append_right (by omega), hx, Nat.sub_self]; rfl, by rw [List.getElem?_append_right (by omega), hx, show l.length * 2 + 1 - l.length * 2 = 1 by omega]; rfl, hr⟩
/-- What a list of runs of the call's own looks like. -/
theorem LA.form {W : World} {l : List Rn} {xs : List Value} {B : Nat} {v : Value} (h : LA W l xs) (ho : W.ownsRow B 58 2 v l.length xs) : ∃ A cap, v = .slice A l.length cap ∧ AtR W A l := by
  rcases ho.2 with ⟨rfl, h0⟩ | ⟨g, cap, cur, rfl, _⟩
  · obtain rfl : l = [] := List.eq_nil_of_length_eq_zero h0
    exact ⟨none, 0, rfl, fun i r hr => by simp at hr⟩
  · refine ⟨_, cap, rfl, fun i r hr => ?_⟩
    have hi := (List.getElem?_eq_some_iff.1 hr).1
    obtain ⟨g', c', B', a, b, d⟩ := h i r hr
    exact ⟨g, 0, _, c', rfl, by rw [Nat.zero_add, ho.cellAt _ (by omega)]; exact a, by rw [Nat.zero_add, ho.cellAt _ (by omega)]; exact b, (mark_cells d).1⟩
theorem LB.form {W : World} {l : List Rn} {xs : List Value} {B : Nat} {v : Value} (h : LB W l xs) (ho : W.ownsRow B 64 2 v l.length xs) : ∃ A cap, v = .slice A l.length cap ∧ AtR W A l := by
  rcases ho.2 with ⟨rfl, h0⟩ | ⟨g, cap, cur, rfl, _⟩
  · obtain rfl : l = [] := List.eq_nil_of_length_eq_zero h0
    exact ⟨none, 0, rfl, fun i r hr => by simp at hr⟩
  · refine ⟨_, cap, rfl, fun i r hr => ?_⟩
    have hi := (List.getElem?_eq_some_iff.1 hr).1
    obtain ⟨v', B', a, b, d⟩ := h i r hr
    obtain ⟨A', c', rfl, ha, _⟩ := own_form d
    exact ⟨g, 0, A', c', rfl, by rw [Nat.zero_add, ho.cellAt _ (by omega)]; exact a, by rw [Nat.zero_add, ho.cellAt _ (by omega)]; exact b, ha⟩
theorem unf_len (l : List Rn) : (unf l).1.length ≤ 64 := by
  unfold unf
  split
  · split
    · split
      · assumption
      · simp
    · simp
  · simp
/-- What stands when k runs are copied. -/
structure UI (w : World) (l : List Rn) (k : Nat) (va vb : Value) (W : World) : Prop where
  ex : ∃ xa xb : List Value, W.ownsRow w.heap.size 58 2 va k xa ∧ W.ownsRow w.heap.size 64 2 vb k xb ∧ LA W (l.take k) xa ∧ LB W (l.take k) xb
  b : Below w.heap.size w W

set_option maxRecDepth 100000 in
set_option maxHeartbeats 8000000 in
theorem unfolds_any (A : Option Addr) (cap : Nat) (l : List Rn) (w : World) (hA : AtR w A l) (hn : l.length ≤ 4398046510976) (hm : ∀ r ∈ l, r.1.length ≤ 5864062014634) (hE : Env w) (h3 : 3 ≤ w.heap.size) :
    Calls Tryd.prog 6 #[.slice A l.length cap] w fun e w' => e = .returned (.bool true) ∧ Below w.heap.size w w' := by
  obtain ⟨i0, hi0, hz0, hz1, hz2⟩ := info_parts info58
  obtain ⟨j0, hj0, hy0, hy1, hy2⟩ := info_parts info64
  have hUl := unf_len l
  have K29 := Lib.hid (fun (A : Option Addr) (c : Nat) (W : World) (h : AtR W A l) => unfold_any A c l W h (by omega) hm)
  have K30 := Lib.hid (fun (A : Option Addr) (c : Nat) (W : World) (h : AtR W A l) => runfold_any A c l W h (by omega) hm)
  have K21 := Lib.hid (fun (v1 v2 : Value) (e1 e2 B1 B2 : Nat) (W : World) (h1 : W.ownsRow B1 e1 2 v1 (unf l).1.length (flat (unf l).1)) (h2 : W.ownsRow B2 e2 2 v2 (unf l).1.length (flat (unf l).1)) =>
    show Calls Tryd.prog 21 #[v1, v2] W fun e w' => e = .returned (.bool true) ∧ ∃ m, w' = W.drewN m by
      obtain ⟨A1, c1, rfl, a1, _⟩ := own_form h1
      obtain ⟨A2, c2, rfl, a2, _⟩ := own_form h2
      exact same_any A1 A2 c1 c2 _ W a1 a2 (by omega))
  have K22 := Lib.hid (fun (v : Value) (B1 : Nat) (W : World) (h1 : W.ownsRow B1 48 2 v (unf l).1.length (flat (unf l).1)) (h2 : B1 ≤ W.heap.size) => spoil_any v B1 _ _ W h1 h2 (by omega))
  have K23 := Lib.hid (fun (W : World) (h1 : Below w.heap.size w W) => alive_any W (hE.below h1 (Nat.le_refl _)) (Nat.le_trans h3 h1.size))
  clear hE
  generalize hU : unf l = U at *
  clear hU
  go_enter Tryd.func6, Tryd.ntmps6
  go_wp2_with fail
  go_loopw [3, 4, 5] (fun va vb t wr => ∃ k : Nat, t = .int .i64 k ∧ k ≤ l.length ∧ UI w l k va vb wr) (fun _ _ t _ => l.length - (intOf t).toNat)
  case atStart => exact ⟨0, rfl, by omega, ⟨[], [], World.ownsRow_nil _ _ _ _, World.ownsRow_nil _ _ _ _, fun i r hr => by simp at hr, fun i r hr => by simp at hr⟩, Below.refl _ _⟩
  case round =>
    obtain ⟨k, rfl, hk, ⟨xa, xb, oa, ob, la, lb⟩, hb⟩ := hrel
    have hz := hb.size
    have hk0 : (0 : Int) ≤ (k : Int) := Int.natCast_nonneg _
    by_cases hlt : k < l.length
    · obtain ⟨r, hr⟩ : ∃ r, l[k]? = some r := ⟨_, List.getElem?_eq_getElem hlt⟩
      have hk1 : (k : Int) < (l.length : Int) := by omega
      obtain ⟨g, o, Ai, ci, e', c0w, c1w, haw⟩ := hA k r hr
      subst e'
      have hmr := hm r (List.mem_of_getElem? hr)
      have HT := Lib.hid (takeR_snoc hr)
      have c0 := cell_below c0w hb (Nat.le_refl _)
      have c1 := cell_below c1w hb (Nat.le_refl _)
      have lg := World.block_lt_of_cell? w _ c0w
      have ag : some g ≠ u3.ownBlock := fun h => by have := (oa.lt g h.symm).1; simp at lg; omega
      have bg : some g ≠ u4.ownBlock := fun h => by have := (ob.lt g h.symm).1; simp at lg; omega
      have hd0 : Below w.heap.size w wr.drew := hb.drew
      have H10 : Hid (Calls Tryd.prog 10 #[.slice Ai r.1.length ci] wr.drew fun e w' => ∃ g' c', e = .returned (.slice (some ⟨g', 0, none⟩) r.1.length c') ∧ w'.cell? ⟨g, o + k * 2, none⟩ = some (.slice Ai r.1.length ci) ∧ w'.cell? ⟨g, o + k * 2 + 1, none⟩ = some (.int .i64 r.2) ∧ Below w.heap.size w w' ∧ Below wr.heap.size wr w' ∧ w'.ownsRow wr.heap.size 48 2 (.slice (some ⟨g', 0, none⟩) (r.1.length + 1) c') (r.1.length + 1) (flat (r.1 ++ [markP]))) :=
        Lib.hid ((lent_any Ai ci r.1 wr.drew (haw.below hd0 (Nat.le_refl _)) hmr).mono fun e w' ⟨g', c', he, ho, hb'⟩ => ⟨g', c', he, cell_below (w := wr.drew) c0 hb' (Nat.le_refl _), cell_below (w := wr.drew) c1 hb' (Nat.le_refl _), hd0.trans (hb'.mono hd0.size), (Below.refl _ wr).drew.trans hb', ho⟩)
      have HLT : Hid (g < wr.heap.size) := Lib.hid (by simp at lg; omega)
      clear hr lg
      go_wp2_with fail
      go_region_held3 (fun w' => w'.cell? ⟨g, o + k * 2, none⟩ = some (.slice Ai r.1.length ci) ∧ w'.cell? ⟨g, o + k * 2 + 1, none⟩ = some (.int .i64 r.2) ∧ Below w.heap.size w w')
        (first
          | ((refine ⟨?_, ?_, ?_⟩) <;> assumption)
          | ((try go_split_ands); (refine ⟨?_, ?_, ?_⟩) <;> (first | assumption | (refine cell_below ?_ ((Below.refl _ w2).alloc (Nat.le_refl _) _) (Nat.le_refl _); assumption) | (refine Below.alloc ?_ k4 _; assumption) | (refine (hgrow.cell_far _ (by simp; omega) ag).trans ?_; refine cell_below ?_ ((Below.refl _ w2).alloc (Nat.le_refl _) _) (Nat.le_refl _); assumption) | (refine Below.grown (Below.alloc ?_ k4 _) hgrow (by simp; omega) (fun j hj => (oa.lt j hj).1); assumption)))
          | go_keep)
        (first
          | (go_at_call 10; refine H10.out.mono ?_; rintro e w2 ⟨g', c', rfl, k0, k1, k2, k3, olent⟩; have k4 := k2.size; have k5 : g < w2.heap.size := Nat.lt_of_lt_of_le HLT.out k3.size)
          | (refine step_append_lies _ (by rfl) _ _ _ (by rfl) w.heap.size 58 i0 _ 2 32 Tryd.underlying50 hi0 hz0 hz1 hz2 rfl (by omega) u3 k xa (by rfl) ((own_below oa k3).alloc _) ⟨w2.heap.size, 0, none⟩ 1 1 [.slice (some ⟨g', 0, none⟩) r.1.length c', .int .i64 r.2] (by rfl) (by rfl) (World.news_of_block (cs := #[.slice (some ⟨g', 0, none⟩) r.1.length c', .int .i64 r.2]) (t := 58) (fr := (0, 0)) (heap_alloc_new w2 _)) (by simp [Value.oneCell']) (by omega) (by unfold maxLen; omega) (by omega) (by simp; omega) (w2.heap.size + 1) (by simp) ?_; intro gg cap' w1 hown1 hgrow hat hlt1))
      go_wp2_with fail
      have hb1 : Below w.heap.size w w1 := Below.grown (k2.alloc k4 _) hgrow (by simp; omega) (fun j hj => (oa.lt j hj).1)
      have oa2 := (own_below oa k3).alloc (.cells #[.slice (some ⟨g', 0, none⟩) r.1.length c', .int .i64 r.2] 58)
      have ob1 := keep_other ((own_below ob k3).alloc (.cells #[.slice (some ⟨g', 0, none⟩) r.1.length c', .int .i64 r.2] 58)) oa2 (by decide) hgrow
      have kk := k3.alloc k3.size (.cells #[.slice (some ⟨g', 0, none⟩) r.1.length c', .int .i64 r.2] 58)
      have hxa : xa.length = (l.take k).length * 2 := by rw [oa.1, List.length_take, Nat.min_eq_left hk]
      have hxb : xb.length = (l.take k).length * 2 := by rw [ob.1, List.length_take, Nat.min_eq_left hk]
      have la1 := ((la.below kk).keep oa2 (by decide) hgrow).snoc hxa (keep_other (olent.alloc (.cells #[.slice (some ⟨g', 0, none⟩) r.1.length c', .int .i64 r.2] 58)) oa2 (by decide) hgrow)
      have lb1 := (lb.below kk).keep oa2 (by decide) hgrow
      rw [← HT.out] at la1
      have hz1 := hb1.size
      clear oa2 kk hgrow la lb olent k0 k1 k2 k3 k4 k5 c0 c1 oa ob ag bg HLT H10 hd0
      have c0 := cell_below c0w hb1 (Nat.le_refl _)
      have c1 := cell_below c1w hb1 (Nat.le_refl _)
      have lg := World.block_lt_of_cell? w _ c0w
      have bg : some g ≠ u4.ownBlock := fun h => by have := (ob1.lt g h.symm).1; simp at lg; omega
      have hd0 : Below w.heap.size w w1.drew := hb1.drew
      have H13 : Hid (Calls Tryd.prog 13 #[.slice Ai r.1.length ci] w1.drew fun e w' => ∃ v', e = .returned v' ∧ w'.cell? ⟨g, o + k * 2, none⟩ = some (.slice Ai r.1.length ci) ∧ w'.cell? ⟨g, o + k * 2 + 1, none⟩ = some (.int .i64 r.2) ∧ Below w.heap.size w w' ∧ Below w1.heap.size w1 w' ∧ w'.ownsRow w1.heap.size 102 2 v' r.1.length (flat r.1)) :=
        Lib.hid ((ref_any Ai ci r.1 w1.drew (haw.below hd0 (Nat.le_refl _)) hmr).mono fun e w' ⟨v', he, ho, hb'⟩ => ⟨v', he, cell_below (w := w1.drew) c0 hb' (Nat.le_refl _), cell_below (w := w1.drew) c1 hb' (Nat.le_refl _), hd0.trans (hb'.mono hd0.size), (Below.refl _ w1).drew.trans hb', ho⟩)
      have HLT : Hid (g < w1.heap.size) := Lib.hid (by simp at lg; omega)
      clear lg
      go_region_held3 (fun w' => w'.cell? ⟨g, o + k * 2, none⟩ = some (.slice Ai r.1.length ci) ∧ w'.cell? ⟨g, o + k * 2 + 1, none⟩ = some (.int .i64 r.2) ∧ Below w.heap.size w w')
        (first
          | ((refine ⟨?_, ?_, ?_⟩) <;> assumption)
          | ((try go_split_ands); (refine ⟨?_, ?_, ?_⟩) <;> (first | assumption | (refine cell_below ?_ ((Below.refl _ w3).alloc (Nat.le_refl _) _) (Nat.le_refl _); assumption) | (refine Below.alloc ?_ k4 _; assumption) | (refine (hgrow3.cell_far _ (by simp; omega) bg).trans ?_; refine cell_below ?_ ((Below.refl _ w3).alloc (Nat.le_refl _) _) (Nat.le_refl _); assumption) | (refine Below.grown (Below.alloc ?_ k4 _) hgrow3 (by simp; omega) (fun j hj => (ob1.lt j hj).1); assumption)))
          | go_keep)
        (first
          | (go_at_call 13; refine H13.out.mono ?_; rintro e w3 ⟨v', rfl, k0, k1, k2, k3, oref⟩; obtain ⟨A3, c3, e3, _, _⟩ := own_form oref; subst e3; have k4 := k2.size; have k5 : g < w3.heap.size := Nat.lt_of_lt_of_le HLT.out k3.size)
          | (refine step_append_lies _ (by rfl) _ _ _ (by rfl) w.heap.size 64 j0 _ 2 32 Tryd.underlying53 hj0 hy0 hy1 hy2 rfl (by omega) u4 k xb (by rfl) ((own_below ob1 k3).alloc _) ⟨w3.heap.size, 0, none⟩ 1 1 [.slice A3 r.1.length c3, .int .i64 r.2] (by rfl) (by rfl) (World.news_of_block (cs := #[.slice A3 r.1.length c3, .int .i64 r.2]) (t := 64) (fr := (0, 0)) (heap_alloc_new w3 _)) (by simp [Value.oneCell']) (by omega) (by unfold maxLen; omega) (by omega) (by simp; omega) (w3.heap.size + 1) (by simp) ?_; intro gg3 cap3 w4 hown4 hgrow3 hat3 hlt3))
      go_wp2_with fail
      have hb4 : Below w.heap.size w w4 := Below.grown (k2.alloc k4 _) hgrow3 (by simp; omega) (fun j hj => (ob1.lt j hj).1)
      have ob2 := (own_below ob1 k3).alloc (.cells #[.slice A3 r.1.length c3, .int .i64 r.2] 64)
      have oa4 := keep_other ((own_below hown1 k3).alloc (.cells #[.slice A3 r.1.length c3, .int .i64 r.2] 64)) ob2 (by decide) hgrow3
      have kk := k3.alloc k3.size (.cells #[.slice A3 r.1.length c3, .int .i64 r.2] 64)
      have lb4 := ((lb1.below kk).keep ob2 (by decide) hgrow3).snoc hxb (keep_other (oref.alloc (.cells #[.slice A3 r.1.length c3, .int .i64 r.2] 64)) ob2 (by decide) hgrow3)
      have la4 := (la1.below kk).keep ob2 (by decide) hgrow3
      rw [← HT.out] at lb4
      go_roundw
      case rel => exact ⟨k + 1, by go_num, by omega, ⟨_, _, oa4, hown4, la4, lb4⟩, hb4⟩
      case measure => simp [intOf]; omega
    · have hk1 : ¬ (k : Int) < (l.length : Int) := by omega
      rw [List.take_of_length_le (by omega)] at la lb
      obtain rfl : k = l.length := by omega
      obtain ⟨Aa, ca, e', ra⟩ := la.form oa
      subst e'
      obtain ⟨Ab, cb, e', rb⟩ := lb.form ob
      subst e'
      clear lb ob
      go_wp2_with fail
      generalize hW0 : wr = W0 at *
      clear hW0
      refine (K29.out Aa ca W0 ra).mono ?_
      rintro e W1 ⟨x, rfl, ox, b1⟩
      have z1 := b1.size
      go_wp2_with fail
      refine (K30.out Ab cb W1 (rb.below b1 (Nat.le_refl _))).mono ?_
      rintro e W2 ⟨y, rfl, oy, b2⟩
      have z2 := b2.size
      have b12 := b1.trans (b2.mono z1)
      go_wp2_with fail
      refine (K29.out Aa ca W2 (ra.below b12 (Nat.le_refl _))).mono ?_
      rintro e W3 ⟨z, rfl, oz, b3⟩
      have z3 := b3.size
      have b13 := b12.trans (b3.mono b12.size)
      have ox3 := own_below ox (b2.trans (b3.mono z2))
      have oy3 := own_below oy b3
      clear oy ra rb
      go_wp2_with fail
      refine (K21.out x y 48 102 _ _ W3 ox3 oy3).mono ?_
      rintro e W4 ⟨rfl, j4, rfl⟩
      have e4 := below_drewN W3.heap.size W3 j4 (Nat.le_refl _)
      have b14 := b13.trans (e4.mono b13.size)
      have ox4 := own_below ox3 e4
      have oy4 := own_below oy3 e4
      have oz4 := own_below oz e4
      have z4 := e4.size
      clear ox3 oy3 oz
      go_wp2_with fail
      refine (K22.out x _ _ ox4 (by omega)).mono ?_
      rintro e W5 ⟨⟨u, rfl⟩, g5⟩
      have z5 := g5.size
      have xlo : ∀ j, x.ownBlock = some j → W0.heap.size ≤ j ∧ j < W1.heap.size := fun j hj => ⟨(ox.lt j hj).1, (ox.lt j hj).2⟩
      have b15 : Below W0.heap.size W0 W5 := Below.grown b14 g5 (by omega) (fun j hj => (xlo j hj).1)
      have oy5 := own_over oy4 g5 (fun j hj => by have := (xlo j hj).2; omega)
      have oz5 := own_over oz4 g5 (fun j hj => by have := (xlo j hj).2; omega)
      clear oy4 oz4 ox4 g5 xlo ox
      go_wp2_with fail
      go_loopw [12] (fun t wr => ∃ i : Nat, t = .int .i64 i ∧ i ≤ l.length ∧ Below W0.heap.size W0 wr ∧ Below W5.heap.size W5 wr) (fun t _ => l.length - (intOf t).toNat)
      case atStart => exact ⟨0, rfl, by omega, b15, Below.refl _ _⟩
      case round =>
        obtain ⟨i, rfl, hi, bW, b5⟩ := hrel
        have hi0' : (0 : Int) ≤ (i : Int) := Int.natCast_nonneg _
        have hbw : Below w.heap.size w wr := hb.trans (bW.mono hz)
        by_cases hlt2 : i < l.length
        · obtain ⟨r, hr⟩ : ∃ r, l[i]? = some r := ⟨_, List.getElem?_eq_getElem hlt2⟩
          have hi1 : (i : Int) < (l.length : Int) := by omega
          obtain ⟨g, o, Ai, ci, e', c0w, c1w, haw⟩ := hA i r hr
          subst e'
          have hmr := hm r (List.mem_of_getElem? hr)
          obtain ⟨gl, cl, Bl, x0, x1, ol⟩ := la i r hr
          obtain ⟨ga, cap2, e', _, _⟩ := oa.form (by omega)
          injection e' with e1 e2 e3
          subst e1; subst e3
          have q0w := (oa.cellAt (i * 2) (by omega)).trans x0
          have q1w := (oa.cellAt (i * 2 + 1) (by omega)).trans x1
          have c0 := cell_below c0w hbw (Nat.le_refl _)
          have c1 := cell_below c1w hbw (Nat.le_refl _)
          have q0 := cell_below q0w bW (Nat.le_refl _)
          have q1 := cell_below q1w bW (Nat.le_refl _)
          have H18 : Hid (∀ V : World, (V.cell? ⟨g, o + i * 2, none⟩ = some (.slice Ai r.1.length ci) ∧ V.cell? ⟨g, o + i * 2 + 1, none⟩ = some (.int .i64 r.2) ∧ V.cell? ⟨ga, i * 2, none⟩ = some (.slice (some ⟨gl, 0, none⟩) r.1.length cl) ∧ V.cell? ⟨ga, i * 2 + 1, none⟩ = some (.int .i64 r.2) ∧ Below W0.heap.size W0 V ∧ Below W5.heap.size W5 V) →
              Calls Tryd.prog 18 #[.slice (some ⟨gl, 0, none⟩) r.1.length cl, .slice Ai r.1.length ci] V fun e w' => e = .returned (.bool true) ∧ w'.cell? ⟨g, o + i * 2, none⟩ = some (.slice Ai r.1.length ci) ∧ w'.cell? ⟨g, o + i * 2 + 1, none⟩ = some (.int .i64 r.2) ∧ w'.cell? ⟨ga, i * 2, none⟩ = some (.slice (some ⟨gl, 0, none⟩) r.1.length cl) ∧ w'.cell? ⟨ga, i * 2 + 1, none⟩ = some (.int .i64 r.2) ∧ Below W0.heap.size W0 w' ∧ Below W5.heap.size W5 w') :=
            Lib.hid (fun V ⟨k0, k1, k2, k3, k4, k5⟩ => (kept_any Ai Bl gl cl ci r.1 V (haw.below (hb.trans (k4.mono hz)) (Nat.le_refl _)) hmr (own_below ol k4)).mono fun e w' ⟨he, hb'⟩ => ⟨he, cell_below k0 hb' (Nat.le_refl _), cell_below k1 hb' (Nat.le_refl _), cell_below k2 hb' (Nat.le_refl _), cell_below k3 hb' (Nat.le_refl _), k4.trans (hb'.mono k4.size), k5.trans (hb'.mono k5.size)⟩)
          have hd4 := bW.drew
          have hd5 := b5.drew
          clear hr c0w c1w haw x0 x1 ol q0w q1w
          go_wp2_with fail
          go_region_held3 (fun w' => w'.cell? ⟨g, o + i * 2, none⟩ = some (.slice Ai r.1.length ci) ∧ w'.cell? ⟨g, o + i * 2 + 1, none⟩ = some (.int .i64 r.2) ∧ w'.cell? ⟨ga, i * 2, none⟩ = some (.slice (some ⟨gl, 0, none⟩) r.1.length cl) ∧ w'.cell? ⟨ga, i * 2 + 1, none⟩ = some (.int .i64 r.2) ∧ Below W0.heap.size W0 w' ∧ Below W5.heap.size W5 w')
            (first | ((refine ⟨?_, ?_, ?_, ?_, ?_, ?_⟩) <;> assumption) | (go_split_ands; (refine ⟨?_, ?_, ?_, ?_, ?_, ?_⟩) <;> assumption) | go_keep)
            ((go_at_call 18; (with_reducible refine (H18.out _ ?_).mono ?_); (· (first | assumption | (go_split_ands; (refine ⟨?_, ?_, ?_, ?_, ?_, ?_⟩) <;> assumption))); rintro e w6 ⟨rfl, k0, k1, k2, k3, k4, k5⟩))
          go_wp2_with fail
          go_roundw
          case rel => exact ⟨i + 1, by go_num, by omega, k4, k5⟩
          case measure => simp [intOf]; omega
        · have hi1 : ¬ (i : Int) < (l.length : Int) := by omega
          have oy6 := own_below oy5 b5
          have oz6 := own_below oz5 b5
          clear oy5 oz5 oa la
          go_wp2_with fail
          refine (K21.out z y 48 102 _ _ wr oz6 oy6).mono ?_
          rintro e W7 ⟨rfl, j7, rfl⟩
          have t7 := hbw.trans ((below_drewN wr.heap.size wr j7 (Nat.le_refl _)).mono hbw.size)
          clear oy6 oz6
          go_wp2_with fail
          refine (K23.out _ t7).mono ?_
          rintro e W8 ⟨rfl, b8⟩
          go_wp2_with fail
          go_ret
          exact ⟨by simp, t7.trans (b8.mono t7.size)⟩
end Go.Proofs.YtocdinaomkmcbaaDoor
