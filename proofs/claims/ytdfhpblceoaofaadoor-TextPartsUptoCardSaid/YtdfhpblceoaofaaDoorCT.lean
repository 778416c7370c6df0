/-
  The walk of TextCuts.
-/
import Derived.Test.YtdfhpblceoaofaaDoorCL
import Derived.Test.YtdfhpblceoaofaaDoorWP
import Derived.Test.YtdfhpblceoaofaaDoorRP
import Derived.Deep.AppendLies
namespace Go.Proofs.YtdfhpblceoaofaaDoor
open Go.ChangeShapes Go.WideShapes Go.ChangeAt Go.RowKit Go.Shelf
set_option linter.unusedVariables false

/-- A slice of texts, as it is read. -/
def ReadsT (w : World) (v : Value) (xs : List ByteArray) : Prop :=
  (v = .slice none 0 0 ∧ xs = []) ∨ ∃ g cap, v = .slice (some ⟨g, 0, none⟩) xs.length cap ∧ ∀ i, i < xs.length → w.cell? ⟨g, i, none⟩ = some (.string (xs[i]?.getD ⟨#[]⟩))
theorem readsT_of_own {w : World} {B : Nat} {v : Value} {xs : List ByteArray} (h : w.ownsRow B 9 1 v xs.length (xs.map Value.string)) : ReadsT w v xs := by
  rcases h.2 with ⟨h1, h2⟩ | ⟨g, cap, cur, rfl, _⟩
  · exact .inl ⟨h1, List.eq_nil_of_length_eq_zero h2⟩
  · refine .inr ⟨g, cap, rfl, fun i hi => ?_⟩
    rw [h.cellAt i (by omega), List.getElem?_map, List.getElem?_eq_getElem hi]
    simp
theorem ReadsT.below {w w' : World} {v : Value} {xs : List ByteArray} (h : ReadsT w v xs) (hb : Below w.heap.size w w') : ReadsT w' v xs := by
  rcases h with h | ⟨g, cap, rfl, hc⟩
  · exact .inl h
  · refine .inr ⟨g, cap, rfl, fun i hi => ?_⟩
    have := hc i hi
    rw [hb.cell (p := ⟨g, i, none⟩) ?_]
    · exact this
    · have hx : w.cell? ⟨g, i, none⟩ ≠ none := by rw [this]; simp
      show g < w.heap.size
      rcases Nat.lt_or_ge g w.heap.size with h' | h'
      · exact h'
      · exact absurd (by simp [World.cell?, Array.getElem?_eq_none h']) hx
theorem ReadsT.len {w : World} {v : Value} {xs : List ByteArray} (h : ReadsT w v xs) : ∃ a cap, v = .slice a xs.length cap := by
  rcases h with ⟨rfl, rfl⟩ | ⟨g, cap, rfl, _⟩
  · exact ⟨none, 0, rfl⟩
  · exact ⟨_, cap, rfl⟩
theorem ReadsT.drewN {w : World} {v : Value} {xs : List ByteArray} (h : ReadsT w v xs) (m : Nat) : ReadsT (w.drewN m) v xs := h.below ((Below.refl _ w).trans ⟨rfl, rfl, rfl, Nat.le_refl _, fun _ _ => rfl⟩)
theorem ownT_drewN {w : World} {B e size k : Nat} {v : Value} {xs : List Value} (h : w.ownsRow B e size v k xs) (m : Nat) : (w.drewN m).ownsRow B e size v k xs := own_below h ((Below.refl _ w).trans ⟨rfl, rfl, rfl, Nat.le_refl _, fun _ _ => rfl⟩)

set_option maxRecDepth 100000 in
set_option maxHeartbeats 4000000 in
theorem sameT_any (va vb : Value) (xs : List ByteArray) (w : World) (ha : ReadsT w va xs) (hb : ReadsT w vb xs) (hlen : xs.length ≤ 1099511627776000) :
    Calls Tryd.prog 28 #[va, vb] w fun e w' => e = .returned (.bool true) ∧ ∃ m, w' = w.drewN m := by
  by_cases h0 : xs = []
  · subst h0
    obtain ⟨a, ca, rfl⟩ := ha.len
    obtain ⟨b, cb, rfl⟩ := hb.len
    clear ha hb
    simp only [List.length_nil]
    go_enter Tryd.func28, Tryd.ntmps28
    go_wp2
    refine wp_loop_rounds 1 ?_
    simp only [rounds_succ]
    go_wp2
    go_ret
    exact ⟨rfl, 0, rfl⟩
  · rcases ha with ⟨_, h⟩ | ⟨g, ca, rfl, hca⟩
    · exact absurd h h0
    rcases hb with ⟨_, h⟩ | ⟨g', cb, rfl, hcb⟩
    · exact absurd h h0
    clear h0
    generalize hn : xs.length = n at *
    go_enter Tryd.func28, Tryd.ntmps28
    go_wp2
    go_loopw [5] (fun t wr => ∃ (i m : Nat), t = .int .i64 i ∧ i ≤ n ∧ wr = w.drewN m) (fun t _ => n - (intOf t).toNat)
    case atStart => exact ⟨0, 0, rfl, by omega, rfl⟩
    case round =>
      obtain ⟨i, m, rfl, hi, rfl⟩ := hrel
      by_cases hlt : i < n
      · have c1 : w.cell? ⟨g, i, none⟩ = some (.string (xs[i]?.getD ⟨#[]⟩)) := hca i hlt
        have c2 : w.cell? ⟨g', i, none⟩ = some (.string (xs[i]?.getD ⟨#[]⟩)) := hcb i hlt
        have hi' : (i : Int) < (n : Int) := by omega
        have H1 := Lib.hid hca
        have H2 := Lib.hid hcb
        have H3 := Lib.hid hn
        clear hca hcb hn
        go_wp2
        go_quiet (fail)
        go_wp2
        exact ⟨⟨i + 1, m + nq, (by go_num), hlt, rfl⟩, by simp [intOf]; omega⟩
      · go_wp2
        go_ret
        exact ⟨rfl, m, rfl⟩

/-- Two rows that stay. -/
structure Stays (B0 BB : Nat) (v0 vb : Value) (xs : List ByteArray) (w₀ W : World) : Prop where
  h0 : W.ownsRow B0 9 1 v0 xs.length (xs.map Value.string)
  hb : W.ownsRow BB 9 1 vb xs.length (xs.map Value.string)
  bl : Below w₀.heap.size w₀ W
def FreeT (w₀ : World) (v0 vb : Value) (g : Nat) : Prop := v0.ownBlock ≠ some g ∧ vb.ownBlock ≠ some g ∧ w₀.heap.size ≤ g
theorem Stays.step {B0 BB : Nat} {v0 vb : Value} {xs : List ByteArray} {w₀ W W' : World} {row : Option Nat} (h : Stays B0 BB v0 vb xs w₀ W) (hg : W.grownBy W' row) (hr : ∀ g, row = some g → FreeT w₀ v0 vb g) : Stays B0 BB v0 vb xs w₀ W' where
  h0 := h.h0.kept hg (by
    cases row with
    | none => cases hv : v0.ownBlock with
      | none => exact .inl rfl
      | some g => exact .inr (by simp)
    | some g => exact .inr (hr g rfl).1)
  hb := h.hb.kept hg (by
    cases row with
    | none => cases hv : vb.ownBlock with
      | none => exact .inl rfl
      | some g => exact .inr (by simp)
    | some g => exact .inr (hr g rfl).2.1)
  bl := h.bl.grown hg h.bl.size (fun g e => (hr g e).2.2)
theorem Stays.new {B0 BB : Nat} {v0 vb : Value} {xs : List ByteArray} {w₀ W : World} {g : Nat} (h : Stays B0 BB v0 vb xs w₀ W) (hg : W.heap.size ≤ g) : FreeT w₀ v0 vb g :=
  ⟨fun e => by have := (h.h0.lt g e).2; omega, fun e => by have := (h.hb.lt g e).2; omega, by have := h.bl.size; omega⟩
theorem ownT_store {w : World} {B k g cap : Nat} {ys : List ByteArray} (h : w.ownsRow B 9 1 (.slice (some ⟨g, 0, none⟩) k cap) k (ys.map Value.string)) (j : Nat) (x : ByteArray) :
    (w.setCell ⟨g, j, none⟩ (.string x)).ownsRow B 9 1 (.slice (some ⟨g, 0, none⟩) k cap) k ((ys.set j x).map Value.string) ∧ w.grownBy (w.setCell ⟨g, j, none⟩ (.string x)) (some g) := by
  have := h.stored j (.string x)
  rw [← List.map_set] at this
  exact this

/-- What both Wraps return. -/
def WrN (width : Int) : Int := if width < 4 then 1 else 0
def WrL (s : ByteArray) (width : Int) : List ByteArray := if width < 4 then [] else linesOf width (WL width s)
theorem wrap_any (s : ByteArray) (width : Int) (w : World) (h2 : 2 ≤ w.heap.size) (hT : Lib.Utf8Tabs 0 1 w) (hsz : s.size ≤ 1099511627776) (hhi : width ≤ 9223372036854775807) :
    Calls Tryd.prog 27 #[.string s, .int .i64 width] w fun e W' => (∃ v, e = .returned (.tuple #[v, .int .i64 (WrN width)]) ∧ W'.ownsRow w.heap.size 9 1 v (WrL s width).length ((WrL s width).map Value.string)) ∧ Below w.heap.size w W' := by
  unfold WrN WrL
  by_cases h : width < 4
  · rw [if_pos h, if_pos h]
    exact (wrap_low s width w h).mono fun e W' h' => ⟨⟨_, h'.1, World.ownsRow_nil _ _ _ _⟩, h'.2⟩
  · rw [if_neg h, if_neg h]
    exact callsIn_wide.1 (wrap_in 10 (Nat.le_refl _) s width w h2 hT hsz (by omega) hhi)
theorem rwrapW_any (s : ByteArray) (width : Int) (w : World) (hsz : s.size ≤ 1099511627776) (hhi : width ≤ 9223372036854775807) :
    Calls Tryd.prog 26 #[.string s, .int .i64 width] w fun e W' => (∃ v, e = .returned (.tuple #[v, .int .i64 (WrN width)]) ∧ W'.ownsRow w.heap.size 9 1 v (WrL s width).length ((WrL s width).map Value.string)) ∧ Below w.heap.size w W' := by
  unfold WrN WrL
  by_cases h : width < 4
  · rw [if_pos h, if_pos h]
    exact (rwrap_low s width w h).mono fun e W' h' => ⟨⟨_, h'.1, World.ownsRow_nil _ _ _ _⟩, h'.2⟩
  · rw [if_neg h, if_neg h]
    exact rwrap_any s width w hsz (by omega) hhi
theorem lines_len (width : Int) (s : ByteArray) (hw : 4 ≤ width) : (linesOf width (WL width s)).length ≤ 6 * s.size + 1 := by
  have h1 := (foldL_le width (WL width s)).2.2
  have h2 := cost_WL width hw s
  unfold linesOf
  split
  · omega
  · simp; omega

theorem WrL_len (s : ByteArray) (width : Int) : (WrL s width).length ≤ 6 * s.size + 1 := by
  unfold WrL
  split
  · simp
  · exact lines_len width s (by omega)

set_option maxRecDepth 100000 in
set_option maxHeartbeats 4000000 in
theorem textCuts_any (s : ByteArray) (width : Int) (w : World) (h2 : 2 ≤ w.heap.size) (hT : Lib.Utf8Tabs 0 1 w) (hsz : s.size ≤ 1048576) (hlo : -9223372036854775808 ≤ width) (hhi : width ≤ 9223372036854775807) :
    Calls Tryd.prog 5 #[.string s, .int .i64 width] w fun e W' => e = .returned (.bool true) ∧ Below w.heap.size w W' := by
  obtain ⟨i0, hi, hz0, hz1, hz2⟩ := info_parts info9'
  have c1 := cut_any s width w h2 hT (by omega) hlo hhi
  have c2 := fun W => rcut_any s width W (by omega) hlo hhi
  generalize s.extract 0 (fitP s width).1 = C at c1 c2
  go_enter Tryd.func5, Tryd.ntmps5
  go_wp2_with fail
  refine c1.mono ?_
  rintro e W1 ⟨rfl, b1⟩
  go_wp2_with fail
  refine (c2 W1).mono ?_
  rintro e W2 ⟨rfl, b2⟩
  have B2 := b1.trans (b2.mono b1.size)
  clear b1 b2 c1 c2
  go_wp2_with fail
  refine (rwrapW_any s width W2 (by omega) hhi).mono ?_
  rintro e W3 ⟨⟨v0, rfl, hr0⟩, b3⟩
  have B3 := B2.trans (b3.mono B2.size)
  have hxl := WrL_len s width
  have w4 := fun W h2 hT => wrap_any s width W h2 hT (by omega) hhi
  generalize WrL s width = xs at *
  generalize WrN width = nn at *
  have HW4 := Lib.hid w4
  clear w4
  obtain ⟨a0, cap0, rfl⟩ := (readsT_of_own hr0).len
  have hz3 := B3.size
  go_wp2_with fail
  refine (HW4.out W3 (by omega) (tabs_below hT B3 h2)).mono ?_
  rintro e W4 ⟨⟨va, rfl, hra⟩, b4⟩
  have B4 := B3.trans (b4.mono B3.size)
  have hz4 := B4.size
  obtain ⟨a1, cap1, rfl⟩ := (readsT_of_own hra).len
  go_wp2_with fail
  refine (HW4.out W4 (by omega) (tabs_below hT B4 h2)).mono ?_
  rintro e W5 ⟨⟨vb, rfl, hrb⟩, b5⟩
  have B5 := B4.trans (b5.mono B4.size)
  obtain ⟨a2, cap2, rfl⟩ := (readsT_of_own hrb).len
  have r0 := ((readsT_of_own hr0).below b4).below b5
  have r1 := (readsT_of_own hra).below b5
  have r2 := readsT_of_own hrb
  go_wp2_with fail
  refine (sameT_any _ _ xs _ r1 r0 (by omega)).mono ?_
  rintro e X4 ⟨rfl, m1, rfl⟩
  go_wp2_with fail
  refine (sameT_any _ _ xs (W5.drewN m1) (r2.drewN m1) (r0.drewN m1) (by omega)).mono ?_
  rintro e X5 ⟨rfl, m2, rfl⟩
  rw [World.drewN_drewN]
  generalize m1 + m2 = m at *
  have hz34 := b4.size
  have hz45 := b5.size
  have hu0 : ∀ g, Value.ownBlock (.slice a0 xs.length cap0) = some g → g < W3.heap.size := fun g hg => (hr0.lt g hg).2
  have hu1 : ∀ g, Value.ownBlock (.slice a1 xs.length cap1) = some g → W3.heap.size ≤ g ∧ g < W4.heap.size := fun g hg => hra.lt g hg
  have hS : Stays W2.heap.size W4.heap.size (.slice a0 xs.length cap0) (.slice a2 xs.length cap2) xs w (W5.drewN m) :=
    { h0 := ownT_drewN (own_below (own_below hr0 b4) b5) m
      hb := ownT_drewN hrb m
      bl := B5.trans ⟨rfl, rfl, rfl, Nat.le_refl _, fun _ _ => rfl⟩ }
  have hA : (W5.drewN m).ownsRow W3.heap.size 9 1 (.slice a1 xs.length cap1) xs.length (xs.map Value.string) := ownT_drewN (own_below hra b5) m
  have hF : ∀ g, Value.ownBlock (.slice a1 xs.length cap1) = some g → FreeT w (.slice a0 xs.length cap0) (.slice a2 xs.length cap2) g := fun g hg =>
    ⟨fun e => by have := hu0 g e; have := (hu1 g hg).1; omega, fun e => by have := (hrb.lt g e).1; have := (hu1 g hg).2; omega, by have := (hu1 g hg).1; omega⟩
  have hXs : W3.heap.size ≤ (W5.drewN m).heap.size := by show W3.heap.size ≤ W5.heap.size; omega
  obtain ⟨Y, hY⟩ : ∃ Y, W5.drewN m = Y := ⟨_, rfl⟩
  rw [hY] at hS hA hXs ⊢
  clear hY r0 r1 r2 hr0 hra hrb b3 b4 b5 hu0 hu1 HW4 B2 B3 B4 B5
  go_wp2_with fail
  go_loopw [11] (fun t wr => ∃ (i : Nat) (ys : List ByteArray), t = .int .i64 i ∧ i ≤ xs.length ∧ ys.length = xs.length ∧ wr.ownsRow W3.heap.size 9 1 (.slice a1 xs.length cap1) xs.length (ys.map Value.string) ∧ Stays W2.heap.size W4.heap.size (.slice a0 xs.length cap0) (.slice a2 xs.length cap2) xs w wr ∧ W3.heap.size ≤ wr.heap.size) (fun t _ => xs.length - (intOf t).toNat)
  case atStart => exact ⟨0, xs, rfl, by omega, rfl, hA, hS, hXs⟩
  case round =>
    clear hA hS hXs
    obtain ⟨i, ys, rfl, hi1, hy, hA, hS, hXs⟩ := hrel
    by_cases hlt : i < xs.length
    · have hlt' : (i : Int) < (xs.length : Int) := by omega
      rcases hA.2 with ⟨h, h0⟩ | ⟨g, cap', cur, h, _⟩
      · omega
      · cases h
        have hc : wr.cell? ⟨g, i, none⟩ = some (.string (ys[i]?.getD ⟨#[]⟩)) := by
          rw [hA.cellAt i (by omega), List.getElem?_map, List.getElem?_eq_getElem (by omega)]; simp
        have hf := hA.frozenAt i
        have HS := ownT_store hA i ⟨#[126]⟩
        have HT := hS.step HS.2 (fun j hj => by cases hj; exact hF g rfl)
        have hsz2 := HS.2.size
        have HY := Lib.hid (show (ys.set i ⟨#[126]⟩).length = xs.length by simp [hy])
        clear hy
        go_wp2
        exact ⟨⟨i + 1, ys.set i ⟨#[126]⟩, (by go_num), hlt, HY.out, HS.1, HT, Nat.le_trans hXs hsz2⟩, by simp [intOf]; omega⟩
    · go_wp2_with fail
      have hF0 := hF
      have HY := Lib.hid hy
      clear hy hF
      go_loopw [7, 12] (fun v t wr => ∃ (j : Nat) (ys : List ByteArray), t = .int .i64 j ∧ j ≤ 20 ∧ Hid (ys.length = xs.length + j) ∧ wr.ownsRow W3.heap.size 9 1 v ys.length (ys.map Value.string) ∧ Stays W2.heap.size W4.heap.size (.slice a0 xs.length cap0) (.slice a2 xs.length cap2) xs w wr ∧ W3.heap.size ≤ wr.heap.size ∧ (∀ g, v.ownBlock = some g → FreeT w (.slice a0 xs.length cap0) (.slice a2 xs.length cap2) g)) (fun _ t _ => 20 - (intOf t).toNat)
      case atStart => exact ⟨0, ys, rfl, by omega, Lib.hid (by rw [HY.out]; rfl), by rw [HY.out]; exact hA, hS, hXs, hF0⟩
      case round =>
        clear hA hS hXs hF0 HY hlt
        obtain ⟨j, ys, rfl, hj, HL, hA, hS, hXs, hF⟩ := hrel
        by_cases hlt : j < 20
        · have hlen : ys.length ≤ 6291477 := by have := HL.out; omega
          have hSa := hS.step (World.grownBy_alloc wr (.cells #[.string ⟨#[126]⟩] 9) none) (fun g e => by cases e)
          go_wp2_with (at_builtin; refine wpList_append_lies _ rfl _ _ _ rfl W3.heap.size 9 i0 (.string ByteArray.empty) 1 16 Tryd.underlying42 hi hz0 hz1 hz2 rfl (by decide) _ ys.length (ys.map Value.string) rfl (hA.alloc _) ⟨wr.heap.size, 0, none⟩ 1 1 [.string ⟨#[126]⟩] rfl rfl (cell_one_new _ _ _) (by simp [Value.oneCell']) (by decide) (by unfold maxLen; omega) (by omega) (by simp; omega) (wr.heap.size + 1) (by simp) ?_; intro g3 cap3 w3 hown3 hgrow3 hat3 hlt3)
          have hS3 := hSa.step hgrow3 hF
          exact ⟨⟨j + 1, ys ++ [⟨#[126]⟩], (by go_num), by omega, Lib.hid (by rw [List.length_append, HL.out]; rfl), by rw [List.length_append, List.map_append]; exact hown3, hS3, Nat.le_trans hXs (Nat.le_trans (by simp) hgrow3.size), fun g hg => by
            obtain rfl : g3 = g := by simpa [Value.ownBlock] using hg
            rcases hat3 with h | h
            · exact hF _ h
            · exact hSa.new (by simp; omega)⟩, by simp [intOf]; omega⟩
        · obtain rfl : j = 20 := by omega
          obtain ⟨a3, cap3, hv⟩ := (readsT_of_own hA).len
          subst hv
          have t20 : ((ys.length : Int) == (xs.length : Int) + 20) = true := by have := HL.out; simp; omega
          go_wp2_with fail
          refine (sameT_any _ _ xs wr (readsT_of_own hS.hb) (readsT_of_own hS.h0) (by omega)).mono ?_
          rintro e X6 ⟨rfl, m6, rfl⟩
          go_wp2
          go_ret
          exact ⟨by simp, hS.bl.trans ⟨rfl, rfl, rfl, Nat.le_refl _, fun _ _ => rfl⟩⟩
end Go.Proofs.YtdfhpblceoaofaaDoor
