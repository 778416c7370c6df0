/-
  parsePlace.
-/
import Derived.Test.YtocdinaomkmcbaaDoorK
namespace Go.Proofs.YtocdinaomkmcbaaDoor
open Go.ChangeShapes Go.WideShapes Go.ChangeAt Go.RowKit Go.Shelf
set_option linter.unusedVariables false

/-- What a part of a text is read as, and whether it is one. -/
def PP (s : ByteArray) (e : Ending) : Prop :=
  ∃ (q : Pl) (b : Bool), e = .returned (.tuple #[.agg #[.string q.1, .int .i64 q.2], .bool b]) ∧ ((b = true ∧ rd s.data.toList = some q) ∨ (b = false ∧ rd s.data.toList = none))

set_option maxRecDepth 100000 in
set_option maxHeartbeats 8000000 in
theorem pp_err (s : ByteArray) (w : World) (h : Env w) (hs : s.size < 4294967281) (hbad : ∀ u, Lib.atoiAll (Lib.cut s.data.toList [58]).2.1 ≠ .ok u) :
    Calls Tryd.prog 53 #[.string s] w fun e w' => PP s e ∧ Below w.heap.size w w' := by
  obtain ⟨m, hm⟩ := h.len
  have H0 : Hid (∀ W : World, Below w.heap.size w W → Calls Tryd.prog 81 #[.string s, .string ⟨#[58]⟩] W fun e w' => e = .returned (.tuple #[.string (bts (Lib.cut s.data.toList [58]).1), .string (bts (Lib.cut s.data.toList [58]).2.1), .bool (Lib.cut s.data.toList [58]).2.2]) ∧ Below W.heap.size W w') :=
    Lib.hid (fun W hb => (Tryd.strings_Cut s ⟨#[58]⟩ m W hs (cell_below hm hb (Nat.le_refl _))).mono fun e w' ⟨he, k, hw⟩ => ⟨he, by rw [hw]; exact below_drewN _ _ _ (Nat.le_refl _)⟩)
  have hcut : (Lib.cut s.data.toList [58]).1.length ≤ s.size ∧ (Lib.cut s.data.toList [58]).2.1.length ≤ s.size := by
    have e : s.data.toList.length = s.size := by simp
    unfold Lib.cut
    split
    · simp only [List.length_take, List.length_drop]; omega
    · simp
  have HR : Hid (∀ v, Lib.atoiAll (Lib.cut s.data.toList [58]).2.1 = .ok v → rd s.data.toList = if may (bts (Lib.cut s.data.toList [58]).1, v) && (txP (bts (Lib.cut s.data.toList [58]).1, v) == s.data.toList) then some (bts (Lib.cut s.data.toList [58]).1, v) else none) :=
    Lib.hid (fun v hv => by unfold rd; rw [hv]; rfl)
  have HN : Hid ((∀ v, Lib.atoiAll (Lib.cut s.data.toList [58]).2.1 ≠ .ok v) → rd s.data.toList = none) := Lib.hid (fun hv => by
    unfold rd
    split
    · rename_i v hv'; exact absurd hv' (hv v)
    · rfl)
  generalize (Lib.cut s.data.toList [58]).2.2 = found at *
  generalize (Lib.cut s.data.toList [58]).1 = nm at *
  generalize (Lib.cut s.data.toList [58]).2.1 = dg at *
  obtain ⟨hn1, hn2⟩ := hcut
  have H1 := Lib.hid (fun (W : World) (hb : Below w.heap.size w W) => atoi_any (bts dg) W (h.below hb (Nat.le_refl _)) (by rw [bts_size]; omega))
  have H2 := Lib.hid (fun (W : World) => sclone_any (bts nm) W (by rw [bts_size]; omega))
  rw [bts_list] at H1
  generalize bts nm = name at *
  clear hm hn1 hn2
  have hB0 : Below w.heap.size w (w.alloc (.cells #[.string ⟨#[]⟩, .int .i64 0] 48)) := (Below.refl _ w).alloc (Nat.le_refl _) _
  go_enter Tryd.func53, Tryd.ntmps53
  go_wp2_with fail
  refine (H0.out _ hB0).mono ?_
  rintro e W1 ⟨rfl, hb1⟩
  have hB1 := hB0.trans (hb1.mono hB0.size)
  go_wp2_with fail
  refine (H1.out _ hB1).mono ?_
  rintro e W2 ⟨⟨v, ev, rfl, hv⟩, hb2⟩
  have hB2 := hB1.trans (hb2.mono hB1.size)
  have hw1 : w.heap.size + 1 ≤ W1.heap.size := by have := hb1.size; simpa using this
  have hw2 := hb2.size
  have r0 : W2.cell? ⟨w.heap.size, 0, none⟩ = some (.string ⟨#[]⟩) := cell_below (cell_below (by simp) hb1 (Nat.le_refl _)) hb2 (Nat.le_refl _)
  have r1 : W2.cell? ⟨w.heap.size, 1, none⟩ = some (.int .i64 0) := cell_below (cell_below (by simp) hb1 (Nat.le_refl _)) hb2 (Nat.le_refl _)
  have rf : ∀ j, W2.frozen? ⟨w.heap.size, j, none⟩ = false := fun j => by
    rw [hb2.frozen (p := ⟨w.heap.size, j, none⟩) (by simp; omega), hb1.frozen (p := ⟨w.heap.size, j, none⟩) (by simp)]
    exact World.frozen?_alloc_new _ _ _ _
  have hbx := hb1
  clear hb1 hb2 hbx
  rcases hv with ⟨hv, rfl⟩ | ⟨hv, N, rfl⟩
  · exact absurd hv (hbad v)
  · have HE := Lib.hid (HN.out hv)
    clear hv hbad HR HN H0 H1
    go_wp2_with fail
    refine (H2.out _).mono ?_
    rintro e W3 ⟨rfl, hb3⟩
    have hB3 := hB2.trans (hb3.mono hB2.size)
    have hw3 := hb3.size
    have s0 := cell_below r0 hb3 (Nat.le_refl _)
    have s1 := cell_below r1 hb3 (Nat.le_refl _)
    have f0 : W3.frozen? ⟨w.heap.size, 0, none⟩ = false := (hb3.frozen (p := ⟨w.heap.size, 0, none⟩) (by simp; omega)).trans (rf 0)
    have f1 : W3.frozen? ⟨w.heap.size, 1, none⟩ = false := (hb3.frozen (p := ⟨w.heap.size, 1, none⟩) (by simp; omega)).trans (rf 1)
    clear r0 r1 rf hb3
    go_wp2_with fail
    have hlw : w.heap.size < W3.heap.size := by omega
    have q0 : (W3.alloc (.cells #[.string name, .int .i64 v] 48)).cell? ⟨w.heap.size, 0, none⟩ = some (.string ⟨#[]⟩) := cell_below s0 ((Below.refl _ W3).alloc (Nat.le_refl _) _) (Nat.le_refl _)
    have q1 : (W3.alloc (.cells #[.string name, .int .i64 v] 48)).cell? ⟨w.heap.size, 1, none⟩ = some (.int .i64 0) := cell_below s1 ((Below.refl _ W3).alloc (Nat.le_refl _) _) (Nat.le_refl _)
    have p0 : (W3.alloc (.cells #[.string name, .int .i64 v] 48)).cell? ⟨W3.heap.size, 0, none⟩ = some (.string name) := by simp
    have p1 : (W3.alloc (.cells #[.string name, .int .i64 v] 48)).cell? ⟨W3.heap.size, 1, none⟩ = some (.int .i64 v) := by simp
    have z0 : (W3.alloc (.cells #[.string name, .int .i64 v] 48)).frozen? ⟨w.heap.size, 0, none⟩ = false := (((Below.refl _ W3).alloc (Nat.le_refl _) _).frozen (p := ⟨w.heap.size, 0, none⟩) hlw).trans f0
    have z1 : (W3.alloc (.cells #[.string name, .int .i64 v] 48)).frozen? ⟨w.heap.size, 1, none⟩ = false := (((Below.refl _ W3).alloc (Nat.le_refl _) _).frozen (p := ⟨w.heap.size, 1, none⟩) hlw).trans f1
    have hB4 : Below w.heap.size w (W3.alloc (.cells #[.string name, .int .i64 v] 48)) := hB3.alloc hB3.size _
    clear s0 s1 f0 f1
    generalize W3.alloc (.cells #[.string name, .int .i64 v] 48) = W4 at *
    generalize W3.heap.size = b9 at *
    clear hw2 hw3 hB3 hlw hB1 hB2 hw1 hB0
    clear W3
    have e0 : ((W4.setCell ⟨w.heap.size, 0, none⟩ (.string name)).setCell ⟨w.heap.size, 1, none⟩ (.int .i64 v)).cell? ⟨w.heap.size, 0, none⟩ = some (.string name) := by
      rw [World.cell?_setCell_other _ _ _ _ (by simp)]; exact World.cell?_setCell_same' _ _ _ (by rw [q0]; rfl)
    have e1 : ((W4.setCell ⟨w.heap.size, 0, none⟩ (.string name)).setCell ⟨w.heap.size, 1, none⟩ (.int .i64 v)).cell? ⟨w.heap.size, 1, none⟩ = some (.int .i64 v) :=
      World.cell?_setCell_same' _ _ _ (by rw [World.cell?_setCell_other _ _ _ _ (by simp), q1]; rfl)
    have E := Lib.hid (And.intro e0 e1)
    clear e0 e1
    first | (go_region_with (fail)) | skip
    all_goals obtain ⟨e0, e1⟩ := E.out
    all_goals go_wp2
    all_goals refine bodyPost_ret (v := .tuple #[.agg #[.string name, .int .i64 v], .bool false]) (by simp [results, Tryd.results53, go_sem, e0, e1]) rfl ⟨⟨(name, v), false, rfl, .inr ⟨rfl, HE.out⟩⟩, ?_⟩
    all_goals exact ((hB4.drew).setCell (p := ⟨w.heap.size, 0, none⟩) (Nat.le_refl _) _).setCell (p := ⟨w.heap.size, 1, none⟩) (Nat.le_refl _) _
end Go.Proofs.YtocdinaomkmcbaaDoor
