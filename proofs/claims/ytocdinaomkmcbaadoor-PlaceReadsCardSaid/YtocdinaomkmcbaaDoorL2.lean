/-
  parsePlace where a number is read and the place may not be.
-/
import Derived.Test.YtocdinaomkmcbaaDoorL
namespace Go.Proofs.YtocdinaomkmcbaaDoor
open Go.ChangeShapes Go.WideShapes Go.ChangeAt Go.RowKit Go.Shelf
set_option linter.unusedVariables false

/-- What is known between the calls of parsePlace's last statement. -/
def KP (w : World) (name : ByteArray) (v : Int) (b9 : Nat) (W : World) : Prop :=
  W.cell? ⟨b9, 0, none⟩ = some (.string name) ∧ W.cell? ⟨b9, 1, none⟩ = some (.int .i64 v) ∧ W.cell? ⟨w.heap.size, 0, none⟩ = some (.string ⟨#[]⟩) ∧ W.cell? ⟨w.heap.size, 1, none⟩ = some (.int .i64 0) ∧ W.frozen? ⟨w.heap.size, 0, none⟩ = false ∧ W.frozen? ⟨w.heap.size, 1, none⟩ = false ∧ Below w.heap.size w W ∧ w.heap.size < W.heap.size
theorem KP.call {w : World} {name : ByteArray} {v : Int} {b9 : Nat} {W W' : World} (h : KP w name v b9 W) (hb : Below W.heap.size W W') : KP w name v b9 W' := by
  obtain ⟨p0, p1, q0, q1, z0, z1, hB, hl⟩ := h
  exact ⟨cell_below p0 hb (Nat.le_refl _), cell_below p1 hb (Nat.le_refl _), cell_below q0 hb (Nat.le_refl _), cell_below q1 hb (Nat.le_refl _), (hb.frozen (p := ⟨w.heap.size, 0, none⟩) hl).trans z0, (hb.frozen (p := ⟨w.heap.size, 1, none⟩) hl).trans z1, hB.trans (hb.mono hB.size), Nat.lt_of_lt_of_le hl hb.size⟩
theorem KP.stored {w : World} {name : ByteArray} {v : Int} {b9 : Nat} {W : World} (h : KP w name v b9 W) (x y : Value) :
    ((W.setCell ⟨w.heap.size, 0, none⟩ x).setCell ⟨w.heap.size, 1, none⟩ y).cell? ⟨w.heap.size, 0, none⟩ = some x ∧ ((W.setCell ⟨w.heap.size, 0, none⟩ x).setCell ⟨w.heap.size, 1, none⟩ y).cell? ⟨w.heap.size, 1, none⟩ = some y ∧ Below w.heap.size w ((W.setCell ⟨w.heap.size, 0, none⟩ x).setCell ⟨w.heap.size, 1, none⟩ y) := by
  obtain ⟨p0, p1, q0, q1, z0, z1, hB, hl⟩ := h
  refine ⟨?_, World.cell?_setCell_same' _ _ _ (by rw [World.cell?_setCell_other _ _ _ _ (by simp), q1]; rfl), (hB.setCell (p := ⟨w.heap.size, 0, none⟩) (Nat.le_refl _) _).setCell (p := ⟨w.heap.size, 1, none⟩) (Nat.le_refl _) _⟩
  rw [World.cell?_setCell_other _ _ _ _ (by simp)]; exact World.cell?_setCell_same' _ _ _ (by rw [q0]; rfl)
set_option maxRecDepth 100000 in
set_option maxHeartbeats 8000000 in
theorem pp_bad (s : ByteArray) (w : World) (h : Env w) (hs : s.size < 4294967281) (u : Int) (hok : Lib.atoiAll (Lib.cut s.data.toList [58]).2.1 = .ok u) (hm2 : may (bts (Lib.cut s.data.toList [58]).1, u) = false) :
    Calls Tryd.prog 53 #[.string s] w fun e w' => PP s e ∧ Below w.heap.size w w' := by
  obtain ⟨m, hm⟩ := h.len
  have H0 : Hid (∀ W : World, Below w.heap.size w W → Calls Tryd.prog 81 #[.string s, .string ⟨#[58]⟩] W fun e w' => e = .returned (.tuple #[.string (bts (Lib.cut s.data.toList [58]).1), .string (bts (Lib.cut s.data.toList [58]).2.1), .bool (Lib.cut s.data.toList [58]).2.2]) ∧ Below W.heap.size W w') :=
    Lib.hid (fun W hb => (Tryd.strings_Cut s ⟨#[58]⟩ m W hs (cell_below hm hb (Nat.le_refl _))).mono fun e w' ⟨he, k, hw⟩ => ⟨he, by rw [hw]; exact below_drewN _ _ _ (Nat.le_refl _)⟩)
  have hcut : (Lib.cut s.data.toList [58]).1.length ≤ s.size ∧ (Lib.cut s.data.toList [58]).2.1.length ≤ s.size := by
    have e : s.data.toList.length = s.size := by simp
    unfold Lib.cut
    split
    · simp only [List.length_take, List.length_drop]; omega
    · simp
  have HR : Hid (∀ v, Lib.atoiAll (Lib.cut s.data.toList [58]).2.1 = .ok v → rd s.data.toList = if may (bts (Lib.cut s.data.toList [58]).1, v) && (txP (bts (Lib.cut s.data.toList [58]).1, v) == s.data.toList) then some (bts (Lib.cut s.data.toList [58]).1, v) else none) :=
    Lib.hid (fun v hv => by unfold rd; rw [hv]; rfl)
  have HN : Hid ((∀ v, Lib.atoiAll (Lib.cut s.data.toList [58]).2.1 ≠ .ok v) → rd s.data.toList = none) := Lib.hid (fun hv => by
    unfold rd
    split
    · rename_i v hv'; exact absurd hv' (hv v)
    · rfl)
  generalize (Lib.cut s.data.toList [58]).2.2 = found at *
  generalize (Lib.cut s.data.toList [58]).1 = nm at *
  generalize (Lib.cut s.data.toList [58]).2.1 = dg at *
  obtain ⟨hn1, hn2⟩ := hcut
  have H1 := Lib.hid (fun (W : World) (hb : Below w.heap.size w W) => atoi_any (bts dg) W (h.below hb (Nat.le_refl _)) (by rw [bts_size]; omega))
  have H2 := Lib.hid (fun (W : World) => sclone_any (bts nm) W (by rw [bts_size]; omega))
  rw [bts_list] at H1
  generalize bts nm = name at *
  clear hm hn1 hn2
  have hB0 : Below w.heap.size w (w.alloc (.cells #[.string ⟨#[]⟩, .int .i64 0] 48)) := (Below.refl _ w).alloc (Nat.le_refl _) _
  go_enter Tryd.func53, Tryd.ntmps53
  go_wp2_with fail
  refine (H0.out _ hB0).mono ?_
  rintro e W1 ⟨rfl, hb1⟩
  have hB1 := hB0.trans (hb1.mono hB0.size)
  go_wp2_with fail
  refine (H1.out _ hB1).mono ?_
  rintro e W2 ⟨⟨v, ev, rfl, hv⟩, hb2⟩
  have hB2 := hB1.trans (hb2.mono hB1.size)
  have hw1 : w.heap.size + 1 ≤ W1.heap.size := by have := hb1.size; simpa using this
  have hw2 := hb2.size
  have r0 : W2.cell? ⟨w.heap.size, 0, none⟩ = some (.string ⟨#[]⟩) := cell_below (cell_below (by simp) hb1 (Nat.le_refl _)) hb2 (Nat.le_refl _)
  have r1 : W2.cell? ⟨w.heap.size, 1, none⟩ = some (.int .i64 0) := cell_below (cell_below (by simp) hb1 (Nat.le_refl _)) hb2 (Nat.le_refl _)
  have rf : ∀ j, W2.frozen? ⟨w.heap.size, j, none⟩ = false := fun j => by
    rw [hb2.frozen (p := ⟨w.heap.size, j, none⟩) (by simp; omega), hb1.frozen (p := ⟨w.heap.size, j, none⟩) (by simp)]
    exact World.frozen?_alloc_new _ _ _ _
  have hbx := hb1
  clear hb1 hb2 hbx
  rcases hv with ⟨hv, rfl⟩ | ⟨hv, N, rfl⟩
  · have hr := HR.out v hv
    have huv : v = u := by rw [hok] at hv; injection hv with hv; exact hv.symm
    subst huv
    rw [hm2] at hr
    have HE : Hid (rd s.data.toList = none) := Lib.hid hr
    have H50 : Hid (∀ W : World, ∀ b9, KP w name v b9 W → Calls Tryd.prog 50 #[.agg #[.string name, .int .i64 v]] W fun e w' => e = .returned (.bool false) ∧ KP w name v b9 w') := Lib.hid (fun W b9 hk => by
      have := mayBe_any (name, v) W
      rw [hm2] at this
      exact this.mono fun e w' ⟨he, hb⟩ => ⟨he, hk.call hb⟩)
    clear hok
    clear hv hr hm2 HR HN H0 H1
    go_wp2_with fail
    refine (H2.out _).mono ?_
    rintro e W3 ⟨rfl, hb3⟩
    have hB3 := hB2.trans (hb3.mono hB2.size)
    have hw3 := hb3.size
    have s0 := cell_below r0 hb3 (Nat.le_refl _)
    have s1 := cell_below r1 hb3 (Nat.le_refl _)
    have f0 : W3.frozen? ⟨w.heap.size, 0, none⟩ = false := (hb3.frozen (p := ⟨w.heap.size, 0, none⟩) (by simp; omega)).trans (rf 0)
    have f1 : W3.frozen? ⟨w.heap.size, 1, none⟩ = false := (hb3.frozen (p := ⟨w.heap.size, 1, none⟩) (by simp; omega)).trans (rf 1)
    clear r0 r1 rf hb3
    go_wp2_with fail
    have hlw : w.heap.size < W3.heap.size := by omega
    have q0 : (W3.alloc (.cells #[.string name, .int .i64 v] 48)).cell? ⟨w.heap.size, 0, none⟩ = some (.string ⟨#[]⟩) := cell_below s0 ((Below.refl _ W3).alloc (Nat.le_refl _) _) (Nat.le_refl _)
    have q1 : (W3.alloc (.cells #[.string name, .int .i64 v] 48)).cell? ⟨w.heap.size, 1, none⟩ = some (.int .i64 0) := cell_below s1 ((Below.refl _ W3).alloc (Nat.le_refl _) _) (Nat.le_refl _)
    have p0 : (W3.alloc (.cells #[.string name, .int .i64 v] 48)).cell? ⟨W3.heap.size, 0, none⟩ = some (.string name) := by simp
    have p1 : (W3.alloc (.cells #[.string name, .int .i64 v] 48)).cell? ⟨W3.heap.size, 1, none⟩ = some (.int .i64 v) := by simp
    have z0 : (W3.alloc (.cells #[.string name, .int .i64 v] 48)).frozen? ⟨w.heap.size, 0, none⟩ = false := (((Below.refl _ W3).alloc (Nat.le_refl _) _).frozen (p := ⟨w.heap.size, 0, none⟩) hlw).trans f0
    have z1 : (W3.alloc (.cells #[.string name, .int .i64 v] 48)).frozen? ⟨w.heap.size, 1, none⟩ = false := (((Below.refl _ W3).alloc (Nat.le_refl _) _).frozen (p := ⟨w.heap.size, 1, none⟩) hlw).trans f1
    have hB4 : Below w.heap.size w (W3.alloc (.cells #[.string name, .int .i64 v] 48)) := hB3.alloc hB3.size _
    have hz4 : w.heap.size < (W3.alloc (.cells #[.string name, .int .i64 v] 48)).heap.size := by simp; omega
    clear s0 s1 f0 f1
    generalize W3.alloc (.cells #[.string name, .int .i64 v] 48) = W4 at *
    generalize W3.heap.size = b9 at *
    have hl4 : w.heap.size < W4.heap.size := hz4
    have K4 : Hid (KP w name v b9 W4.drew) := Lib.hid ⟨p0, p1, q0, q1, z0, z1, hB4.drew, hl4⟩
    clear hw2 hw3 hB3 hlw hB1 hB2 hw1 hB0 hB4 hl4 hz4
    clear W3
    first | (go_region_with (first | (go_at_call 50; refine (H50.out _ _ K4.out).mono ?_; rintro e W5 ⟨rfl, k5⟩; have K5 := Lib.hid k5; obtain ⟨p0', p1', q0', q1', z0', z1', _, _⟩ := k5) | fail)) | skip
    all_goals obtain ⟨e0, e1, eB⟩ := K5.out.stored (.string name) (.int .i64 v)
    all_goals go_wp2
    all_goals refine bodyPost_ret (v := .tuple #[.agg #[.string name, .int .i64 v], .bool false]) (by simp [results, Tryd.results53, go_sem, e0, e1]) rfl ⟨⟨(name, v), false, rfl, .inr ⟨rfl, HE.out⟩⟩, eB⟩
  · exact absurd hok (hv u)
end Go.Proofs.YtocdinaomkmcbaaDoor
