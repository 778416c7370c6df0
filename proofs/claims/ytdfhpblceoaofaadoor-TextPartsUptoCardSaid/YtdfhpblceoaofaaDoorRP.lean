/-
  The contract of the document's own Wrap.
-/
import Derived.Test.YtdfhpblceoaofaaDoorRW
namespace Go.Proofs.YtdfhpblceoaofaaDoor
open Go.ChangeShapes Go.WideShapes Go.ChangeAt Go.RowKit Go.Shelf
set_option linter.unusedVariables false

theorem take_snoc' {α : Type} {l : List α} {i : Nat} {p : α} (h : l[i]? = some p) : l.take (i + 1) = l.take i ++ [p] := by
  rw [List.take_add_one, h]; rfl
theorem step_line {width : Int} {st : Ls} {p : ByteArray × Nat} (h : 0 < p.1.size) : (stepL width st p).line ≠ [] := by
  have hp : p.1.data.toList ≠ [] := fun e => by
    have e2 : p.1.data.toList.length = p.1.size := by simp
    rw [e] at e2; simp at e2; omega
  unfold stepL
  split
  · exact hp
  · split
    · exact hp
    · simp
theorem fold_line {width : Int} (hw : 4 ≤ width) {s : ByteArray} {i : Nat} (h0 : 0 < i) (hi : i ≤ (WL width s).length) : (foldL width ((WL width s).take i)).line ≠ [] := by
  obtain ⟨j, rfl⟩ : ∃ j, i = j + 1 := ⟨i - 1, by omega⟩
  have hj : (WL width s)[j]? = some ((WL width s)[j]'(by omega)) := List.getElem?_eq_getElem _
  rw [take_snoc' hj, foldL_snoc]
  exact step_line (WL_mem hw (List.mem_of_getElem? hj)).1
/-- A row of texts stays where a row of bytes grows. -/
theorem texts_kept {W W' : World} {B B' k m : Nat} {v u : Value} {xs ys : List Value} (h : W.ownsRow B 9 1 v k xs) (hb : W.ownsRow B' 5 1 u m ys) (hg : W.grownBy W' u.ownBlock) : W'.ownsRow B 9 1 v k xs :=
  h.kept hg (by
    cases hv : v.ownBlock with
    | none => exact .inl rfl
    | some g => exact .inr (fun e => by
        obtain ⟨_, c, fz, ho⟩ := row_block h g hv
        obtain ⟨_, c', fz', ho'⟩ := row_block hb g e.symm
        rw [ho] at ho'; cases ho'))
theorem bytes_kept {W W' : World} {B B' k m : Nat} {v u : Value} {xs ys : List Value} (h : W.ownsRow B 5 1 v k xs) (hb : W.ownsRow B' 9 1 u m ys) (hg : W.grownBy W' u.ownBlock) : W'.ownsRow B 5 1 v k xs :=
  h.kept hg (by
    cases hv : v.ownBlock with
    | none => exact .inl rfl
    | some g => exact .inr (fun e => by
        obtain ⟨_, c, fz, ho⟩ := row_block h g hv
        obtain ⟨_, c', fz', ho'⟩ := row_block hb g e.symm
        rw [ho] at ho'; cases ho'))

theorem own_str {w3 : World} {B : Nat} {v' : Value} {line : List UInt8} {y : ByteArray} (hown : w3.ownsRow B 5 1 v' (line.length + y.size) (Lib.byteCells line ++ Lib.strCells y)) : w3.ownsRow B 5 1 v' (line ++ y.data.toList).length (Lib.byteCells (line ++ y.data.toList)) := by
  have e : Lib.strCells y = Lib.byteCells y.data.toList := by simp [Lib.strCells, Lib.byteCells]
  have e2 : y.data.toList.length = y.size := by simp
  rw [e] at hown
  rw [List.length_append, Lib.byteCells_append, e2]; exact hown
theorem own_str0 {w3 : World} {B : Nat} {v' : Value} {y : ByteArray} (hown : w3.ownsRow B 5 1 v' (0 + y.size) ([] ++ Lib.strCells y)) : w3.ownsRow B 5 1 v' y.data.toList.length (Lib.byteCells y.data.toList) := own_str (line := []) hown
theorem cell_grown {W W' : World} {row : Option Nat} {g j : Nat} {u : Value} (hg : W.grownBy W' row) (hr : ∀ r, row = some r → r ≠ g) (hlt : g < W.heap.size) (hc : W.cell? ⟨g, j, none⟩ = some u) : W'.cell? ⟨g, j, none⟩ = some u :=
  (World.cell?_of_block (a := ⟨g, j, none⟩) (hg.block g hlt (fun e => hr g e.symm rfl))).trans hc

set_option maxRecDepth 100000 in
set_option maxHeartbeats 4000000 in
theorem rwrap_any (s : ByteArray) (width : Int) (w : World) (hsz : s.size ≤ 1099511627776) (hw4 : 4 ≤ width) (hhi : width ≤ 9223372036854775807) :
    Calls Tryd.prog 26 #[.string s, .int .i64 width] w fun e W' => (∃ v, e = .returned (.tuple #[v, .int .i64 0]) ∧ W'.ownsRow w.heap.size 9 1 v (linesOf width (WL width s)).length ((linesOf width (WL width s)).map Value.string)) ∧ Below w.heap.size w W' := by
  obtain ⟨i0, hi, hz0, hz1, hz2⟩ := info_parts info9'
  obtain ⟨j0, gj, gz0, gz1, gz2⟩ := info_parts info5
  have hcW := cost_WL width hw4 s
  have hPl : (WL width s).length ≤ cost (WL width s) := by
    generalize WL width s = l
    induction l with
    | nil => simp
    | cons p l ih => rw [cost_cons, List.length_cons]; omega
  have hd4 : decide (width < 4) = false := decide_eq_false (by omega)
  go_enter Tryd.func26, Tryd.ntmps26
  go_wp2_with fail
  refine (rwords_any s width w hsz hw4 hhi).mono ?_
  rintro e W1 ⟨⟨vW, rfl, hrow⟩, hB1⟩
  have hz := hB1.size
  rw [List.length_map] at hrow
  go_wp2
  go_loopw [6, 7, 9, 10] (fun vo vl vn vi wr => ∃ (i : Nat), vi = .int .i64 i ∧ i ≤ (WL width s).length ∧ wr.ownsRow W1.heap.size 9 1 vo (foldL width ((WL width s).take i)).out.length ((foldL width ((WL width s).take i)).out.map Value.string) ∧ wr.ownsRow W1.heap.size 5 1 vl (foldL width ((WL width s).take i)).line.length (Lib.byteCells (foldL width ((WL width s).take i)).line) ∧ vn = .int .i64 ((foldL width ((WL width s).take i)).fil : Int) ∧ Below W1.heap.size W1 wr) (fun _ _ _ vi _ => (WL width s).length - (intOf vi).toNat)
  case atStart => exact ⟨0, rfl, by omega, World.ownsRow_nil _ _ _ _, World.ownsRow_nil _ _ _ _, rfl, Below.refl _ _⟩
  case round =>
    obtain ⟨i, rfl, hil, hout, hlin, rfl, hB⟩ := hrel
    have hzz := hB.size
    rcases hrow.2 with ⟨rfl, h0⟩ | ⟨g, cap, cur, rfl, hg1, hg2, hcl, hcm, hcs, htk⟩
    · have hW : WL width s = [] := List.eq_nil_of_length_eq_zero h0
      obtain rfl : i = 0 := by omega
      have HE : Hid (linesOf width (WL width s) = (foldL width ((WL width s).take 0)).out) := Lib.hid (by rw [hW]; rfl)
      clear hW
      generalize (foldL width ((WL width s).take 0)) = st at *
      go_wp2
      go_ret2
      exact ⟨⟨_, rfl, by rw [HE.out]; exact own_base hout hz⟩, hB1.trans (hB.mono hz)⟩
    · have hgz : g < W1.heap.size := (Array.getElem?_eq_some_iff.1 hg2).1
      by_cases hlt : i < (WL width s).length
      · obtain ⟨⟨y, k⟩, hp⟩ : ∃ p, (WL width s)[i]? = some p := ⟨_, List.getElem?_eq_getElem hlt⟩
        have hcell : wr.cell? ⟨g, i, none⟩ = some (.string y) := by
          rw [hB.cell (p := ⟨g, i, none⟩) hgz]
          exact (hrow.cellAt i (by omega)).trans (by simp [hp])
        obtain ⟨m1, m2, m3, m4⟩ := WL_mem hw4 (List.mem_of_getElem? hp)
        simp only at m1 m2 m3 m4
        have hcost := cost_prefix (List.take_prefix (i + 1) (WL width s))
        rw [take_snoc' hp, cost_append, cost_cons] at hcost
        simp only [show cost [] = 0 from rfl] at hcost
        obtain ⟨f1, f2, f3⟩ := foldL_le width ((WL width s).take i)
        have hsn := foldL_snoc width ((WL width s).take i) (y, k)
        rw [← take_snoc' hp] at hsn
        have h0 : i = 0 → (foldL width ((WL width s).take i)) = ⟨[], [], 0⟩ := fun e => by subst e; rfl
        have h1 : 0 < i → (foldL width ((WL width s).take i)).line ≠ [] := fun h => fold_line hw4 h (by omega)
        have hwd := fun W => rwidth_any y W (by omega)
        rw [← m3] at hwd
        clear hp m3 htk hg2
        have hy2 : (foldL width ((WL width s).take i)) = (foldL width ((WL width s).take i)) := rfl
        generalize (foldL width ((WL width s).take i)) = st at *
        generalize cost ((WL width s).take i) = c0 at *
        generalize cost (WL width s) = cw at *
        obtain ⟨out, line, fil⟩ := st
        simp only at f1 f2 f3 hout hlin h1
        clear hy2
        have hii : (i : Int) < ((WL width s).length : Int) := by omega
        have HW := Lib.hid hwd
        clear hwd
        rcases Nat.eq_zero_or_pos i with hi0 | hi0
        · have h00 := h0 hi0
          obtain ⟨rfl, rfl, rfl⟩ : out = [] ∧ line = [] ∧ fil = 0 := by cases h00; exact ⟨rfl, rfl, rfl⟩
          have HS := Lib.hid (hsn.trans (step_empty rfl))
          subst hi0
          clear h0 h1 hsn h00
          go_wp2_with fail
          refine (HW.out wr).mono ?_
          rintro e W2 ⟨rfl, hb⟩
          have hout2 := own_below hout hb
          have hlin2 := own_below hlin hb
          have hB2 := hB.trans (hb.mono hzz)
          have hz2' := hb.size
          have hcell2 : W2.cell? ⟨g, 0, none⟩ = some (.string y) := (hb.cell (p := ⟨g, 0, none⟩) (by show g < _; omega)).trans hcell
          clear hout hlin hB hb hcell
          go_wp2_with (at_builtin; refine Lib.wpList_append_own_string W2 rfl _ _ 55 9 rfl W1.heap.size 5 j0 Tryd.underlying55 Tryd.underlying9 gj gz0 gz1 gz2 _ _ _ rfl hlin2 y rfl (by unfold maxLen; simp; omega) (by simp; omega) (by omega) ?_; intro v4 w4 hlin4 hgrow4 _)
          exact ⟨⟨1, rfl, by omega, by rw [HS.out]; exact texts_kept hout2 hlin2 hgrow4, by rw [HS.out]; exact own_str0 hlin4, by rw [HS.out]; simp, Below.grown hB2 hgrow4 (by omega) (fun j hj => (row_block hlin2 j hj).1)⟩, by simp [intOf]; omega⟩
        · have hne := h1 hi0
          have hi0' : (0 : Int) < (i : Int) := by omega
          clear h0 h1
          by_cases hfl : width - (fil : Int) < 1 + (k : Int)
          · have HS := Lib.hid (hsn.trans (step_flush hne hfl))
            have hgt : decide (width - (fil : Int) - 1 < (k : Int)) = true := decide_eq_true (by omega)
            clear hsn hne
            go_wp2_with fail
            refine (HW.out wr).mono ?_
            rintro e W2 ⟨rfl, hb⟩
            have hout2 := own_below hout hb
            have hlin2 := own_below hlin hb
            have hB2 := hB.trans (hb.mono hzz)
            have hz2' := hb.size
            have hcv := conv_own hlin2
            have hcell2 : W2.cell? ⟨g, i, none⟩ = some (.string y) := (hb.cell (p := ⟨g, i, none⟩) (by show g < _; omega)).trans hcell
            clear hout hlin hB hb hcell
            go_wp2_with (first
              | (at_builtin; refine wpList_append_own _ rfl (.tmp 38) (.tmp 41) 42 rfl W1.heap.size 9 i0 (.string ByteArray.empty) 1 16 Tryd.underlying42 hi hz0 hz1 hz2 rfl (by decide) _ _ _ rfl (hout2.alloc _) ⟨W2.heap.size, 0, none⟩ 1 1 [.string ⟨line.toArray⟩] rfl rfl (cell_one_new _ _ _) (by simp [Value.oneCell']) (by unfold maxLen; omega) (by omega) (by simp; omega) ?_; intro v3 w3 hout3 hgrow3 _; have hcell3 : w3.cell? ⟨g, i, none⟩ = some (.string y) := cell_grown hgrow3 (fun r e h => by have := (row_block hout2 r e).1; omega) (by simp; omega) ((World.cell?_of_block (a := ⟨g, i, none⟩) (Below.heap_alloc W2 _ g (by omega))).trans hcell2))
              | (at_builtin; refine Lib.wpList_append_own_string w3 rfl (.tmp 50) (.tmp 54) 55 9 rfl W1.heap.size 5 j0 Tryd.underlying55 Tryd.underlying9 gj gz0 gz1 gz2 (.slice none 0 0) 0 [] rfl (World.ownsRow_nil _ _ _ _) y rfl (by unfold maxLen; omega) (by omega) (by have := hgrow3.size; simp at this; omega) ?_; intro v4 w4 hlin4 hgrow4 _))
            have hB3 := Below.grown (hB2.alloc (by omega) _) hgrow3 (by simp; omega) (fun j hj => (row_block hout2 j hj).1)
            have hs3 := hgrow3.size
            simp only [World.size_alloc] at hs3
            exact ⟨⟨i + 1, by go_num, by omega, by rw [HS.out, List.length_append, List.map_append]; exact texts_kept hout3 (World.ownsRow_nil w3 W1.heap.size 5 1) hgrow4, by rw [HS.out]; exact own_str0 hlin4, by rw [HS.out], Below.grown hB3 hgrow4 (by omega) (fun j hj => by simp [Value.ownBlock] at hj)⟩, by simp [intOf]; omega⟩
          · have HS := Lib.hid (hsn.trans (step_go hne hfl))
            have hgt : decide (width - (fil : Int) - 1 < (k : Int)) = false := decide_eq_false (by omega)
            have hgt' : ¬ width - (fil : Int) - 1 < (k : Int) := by omega
            clear hsn hne
            go_wp2_with fail
            refine (HW.out wr).mono ?_
            rintro e W2 ⟨rfl, hb⟩
            have hout2 := own_below hout hb
            have hlin2 := own_below hlin hb
            have hB2 := hB.trans (hb.mono hzz)
            have hz2' := hb.size
            have hcell2 : W2.cell? ⟨g, i, none⟩ = some (.string y) := (hb.cell (p := ⟨g, i, none⟩) (by show g < _; omega)).trans hcell
            clear hout hlin hB hb hcell
            go_wp2_with (first
              | (at_builtin; refine wpList_append_own _ rfl (.tmp 45) (.tmp 46) 55 rfl W1.heap.size 5 j0 (.int .u8 0) 1 1 Tryd.underlying55 gj gz0 gz1 gz2 rfl (by decide) _ _ _ rfl (hlin2.alloc _) ⟨W2.heap.size, 0, none⟩ 1 1 [.int .u8 32] rfl rfl (cell_one_new _ _ _) (by simp [Value.oneCell']) (by unfold maxLen; omega) (by omega) (by simp; omega) ?_; intro v3 w3 hlin3 hgrow3 _; have hcell3 : w3.cell? ⟨g, i, none⟩ = some (.string y) := cell_grown hgrow3 (fun r e h => by have := (row_block hlin2 r e).1; omega) (by simp; omega) ((World.cell?_of_block (a := ⟨g, i, none⟩) (Below.heap_alloc W2 _ g (by omega))).trans hcell2); have hlin3' := own_one (c := 32) rfl hlin3)
              | (at_builtin; refine Lib.wpList_append_own_string w3 rfl (.tmp 50) (.tmp 54) 55 9 rfl W1.heap.size 5 j0 Tryd.underlying55 Tryd.underlying9 gj gz0 gz1 gz2 v3 (line ++ [32]).length (Lib.byteCells (line ++ [32])) rfl hlin3' y rfl (by unfold maxLen; simp; omega) (by simp; omega) (by have := hgrow3.size; simp at this; omega) ?_; intro v4 w4 hlin4 hgrow4 _))
            have hB3 := Below.grown (hB2.alloc (by omega) _) hgrow3 (by simp; omega) (fun j hj => (row_block hlin2 j hj).1)
            have hs3 := hgrow3.size
            simp only [World.size_alloc] at hs3
            have hout3 := texts_kept (hout2.alloc (.cells #[.int .u8 32] 5)) (hlin2.alloc _) hgrow3
            exact ⟨⟨i + 1, by go_num, by omega, by rw [HS.out]; exact texts_kept hout3 hlin3' hgrow4, by rw [HS.out]; have := own_str hlin4; rw [List.append_assoc] at this; exact this, by rw [HS.out]; simp, Below.grown hB3 hgrow4 (by omega) (fun j hj => (row_block hlin3' j hj).1)⟩, by simp [intOf]; omega⟩
      · obtain rfl : i = (WL width s).length := by omega
        rw [List.take_of_length_le (Nat.le_refl _)] at hout hlin
        have HF := Lib.hid (show (WL width s).take (WL width s).length = WL width s from List.take_of_length_le (Nat.le_refl _))
        have hln : (0 : Nat) < (WL width s).length → (foldL width (WL width s)).line ≠ [] := fun h => by
          have := fold_line hw4 (s := s) h (Nat.le_refl _)
          rw [HF.out] at this; exact this
        obtain ⟨f1, f2, f3⟩ := foldL_le width (WL width s)
        have hlo : linesOf width (WL width s) = if (foldL width (WL width s)).line = [] then (foldL width (WL width s)).out else (foldL width (WL width s)).out ++ [⟨(foldL width (WL width s)).line.toArray⟩] := rfl
        have hnil : (WL width s).length = 0 → foldL width (WL width s) = ⟨[], [], 0⟩ := fun h => by rw [List.eq_nil_of_length_eq_zero h]; rfl
        have hfil : (foldL width ((WL width s).take (WL width s).length)).fil = (foldL width (WL width s)).fil := by rw [HF.out]
        generalize (foldL width ((WL width s).take (WL width s).length)).fil = fil' at *
        generalize foldL width (WL width s) = st at *
        obtain ⟨out, line, fil⟩ := st
        simp only at f1 f2 f3 hout hlin hln hlo
        clear hfil htk hg2 HF
        by_cases hN : (WL width s).length = 0
        · have := hnil hN
          obtain ⟨rfl, rfl⟩ : out = [] ∧ line = [] := by cases this; exact ⟨rfl, rfl⟩
          have HL : Hid (linesOf width (WL width s) = []) := Lib.hid hlo
          have hN' : ((WL width s).length : Int) ≤ 0 := by omega
          clear hlo hln hnil this
          go_wp2
          go_ret2
          exact ⟨⟨_, rfl, by rw [HL.out]; exact own_base hout hz⟩, hB1.trans (hB.mono hz)⟩
        · rw [if_neg (hln (by omega))] at hlo
          have HL := Lib.hid hlo
          have hN' : (0 : Int) < ((WL width s).length : Int) := by omega
          have hcv := conv_own hlin
          clear hlo hln hnil
          go_wp2_with (at_builtin; refine wpList_append_own _ rfl _ _ 42 rfl W1.heap.size 9 i0 (.string ByteArray.empty) 1 16 Tryd.underlying42 hi hz0 hz1 hz2 rfl (by decide) _ _ _ rfl (hout.alloc _) ⟨wr.heap.size, 0, none⟩ 1 1 [.string ⟨line.toArray⟩] rfl rfl (cell_one_new _ _ _) (by simp [Value.oneCell']) (by unfold maxLen; omega) (by omega) (by simp; omega) ?_; intro v3 w3 hout3 hgrow3 _)
          go_ret2
          exact ⟨⟨_, rfl, by rw [HL.out, List.length_append, List.map_append]; exact own_base hout3 hz⟩, hB1.trans ((Below.grown (hB.alloc (by omega) _) hgrow3 (by simp; omega) (fun j hj => (row_block hout j hj).1)).mono hz)⟩
/-- Where the width is below the least. -/
theorem rwrap_low (s : ByteArray) (width : Int) (w : World) (hw : width < 4) :
    Calls Tryd.prog 26 #[.string s, .int .i64 width] w fun e W' => e = .returned (.tuple #[.slice none 0 0, .int .i64 1]) ∧ Below w.heap.size w W' := by
  go_enter Tryd.func26, Tryd.ntmps26
  go_wp2
  go_ret2
  exact ⟨rfl, Below.refl _ _⟩
end Go.Proofs.YtdfhpblceoaofaaDoor
