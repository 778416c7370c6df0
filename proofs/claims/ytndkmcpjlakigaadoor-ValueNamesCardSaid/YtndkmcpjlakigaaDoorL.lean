/-
  Chains and flat lists.
-/
import Derived.Test.YtndkmcpjlakigaaDoorK
namespace Go.Proofs.YtndkmcpjlakigaaDoor
open Go.ChangeShapes Go.WideShapes Go.ChangeAt Go.RowKit Go.Sort
set_option linter.unusedVariables false

def sl (s : Option Addr × Nat × Nat) : Value := .slice s.1 s.2.1 s.2.2
/-- k lists, each in the one before. -/
def Chain (w : World) : Nat → Option Addr × Nat × Nat → Prop
  | 0, s => s = (none, 0, 0)
  | k + 1, s => ∃ g c s', s = (some ⟨g, 0, none⟩, 1, c) ∧ Item w g 0 7 (sl s') ∧ Chain w k s'

theorem Item.stay {w W : World} {g i : Nat} {k : Int} {s : Value} (h : Item w g i k s) {B : Nat} (hB : w.heap.size ≤ B) (hb : Below B w W) : Item W g i k s := by
  have hg : g < B := Nat.lt_of_lt_of_le (World.block_lt_of_cell? w _ h.c0) hB
  exact ⟨(hb.cell (p := ⟨g, _, none⟩) hg).trans h.c0, (hb.cell (p := ⟨g, _, none⟩) hg).trans h.c1, (hb.cell (p := ⟨g, _, none⟩) hg).trans h.c2, (hb.cell (p := ⟨g, _, none⟩) hg).trans h.c3, (hb.cell (p := ⟨g, _, none⟩) hg).trans h.c4, (hb.cell (p := ⟨g, _, none⟩) hg).trans h.c5⟩
theorem Chain.stay {w W : World} {B : Nat} (hB : w.heap.size ≤ B) (hb : Below B w W) : ∀ {k s}, Chain w k s → Chain W k s
  | 0, _, h => h
  | k + 1, _, ⟨g, c, s', h1, h2, h3⟩ => ⟨g, c, s', h1, h2.stay hB hb, Chain.stay hB hb h3⟩

theorem chain_ok : ∀ (k : Nat) (s : Option Addr × Nat × Nat) (w : World), Chain w k s → ∀ (r d : Nat), k < d → d ≤ 100 → k + 1 ≤ r → r ≤ 1024 →
    Calls Tryd.prog 6 #[vV 7 ByteArray.empty (sl s), .int .i64 (r : Int), .int .i64 (d : Int)] w fun e w' => e = .returned (.tuple #[.int .i64 ((r : Int) - ((k : Int) + 1)), .bool true]) ∧ Below w.heap.size w w'
  | 0, s, w, h, r, d, h1, h2, h3, h4 => by
    obtain rfl : s = (none, 0, 0) := h
    refine (room_seven r d (by omega) h2 (by omega) h4 w).mono ?_
    rintro e w' ⟨rfl, hb⟩
    exact ⟨by simp, hb⟩
  | k + 1, s, w, h, r, d, h1, h2, h3, h4 => by
    obtain ⟨g, c, s', rfl, hi, hc⟩ := h
    have e1 : (d : Int) - 1 = ((d - 1 : Nat) : Int) := by omega
    have e2 : (r : Int) - 1 = ((r - 1 : Nat) : Int) := by omega
    have hl := room_list g 1 c 1 (fun _ => 7) (fun _ => s'.1) (fun _ => s'.2.1) (fun _ => s'.2.2) (fun i => (r : Int) - 1 - (i : Int) * ((k : Int) + 1)) d (by omega) h2 r (by omega) h4 (by omega) (by omega) w (by simp)
      (fun i hi => by
        have hi2 : i = 0 ∨ i = 1 := by omega
        rcases hi2 with rfl | rfl <;> simp <;> omega)
      (fun i hi2 => by
        obtain rfl : i = 0 := by omega
        exact hi)
      (fun i hi2 W hW => by
        obtain rfl : i = 0 := by omega
        rw [e1]
        have hk := chain_ok k s' W (hc.stay (Nat.le_refl _) hW) (r - 1) (d - 1) (by omega) (by omega) (by omega) (by omega)
        rw [← e2] at hk
        simpa [sl] using hk)
      (fun h => absurd h (by omega))
    refine hl.mono ?_
    rintro e w' ⟨rfl, hb⟩
    refine ⟨?_, hb⟩
    simp
    omega

theorem chain_no : ∀ (k : Nat) (s : Option Addr × Nat × Nat) (w : World), Chain w k s → ∀ (r : Nat), k ≤ 100 → k + 1 ≤ r → r ≤ 1024 →
    Calls Tryd.prog 6 #[vV 7 ByteArray.empty (sl s), .int .i64 (r : Int), .int .i64 (k : Int)] w fun e w' => e = .returned (.tuple #[.int .i64 0, .bool false]) ∧ Below w.heap.size w w'
  | 0, s, w, h, r, h2, h3, h4 => room_deep _ _ _ r (by omega) h4 w
  | k + 1, s, w, h, r, h2, h3, h4 => by
    obtain ⟨g, c, s', rfl, hi, hc⟩ := h
    have e1 : ((k + 1 : Nat) : Int) - 1 = (k : Int) := by omega
    have e2 : (r : Int) - 1 = ((r - 1 : Nat) : Int) := by omega
    have hl := room_list g 1 c 0 (fun _ => 7) (fun _ => s'.1) (fun _ => s'.2.1) (fun _ => s'.2.2) (fun i => (r : Int) - 1) (k + 1) (by omega) h2 r (by omega) h4 (by omega) (by omega) w rfl
      (fun i hi => by omega)
      (fun i hi2 => by
        obtain rfl : i = 0 := by omega
        exact hi)
      (fun i hi2 => absurd hi2 (by omega))
      (fun _ W hW => by
        rw [e1, e2]
        exact chain_no k s' W (hc.stay (Nat.le_refl _) hW) (r - 1) (by omega) (by omega) (by omega))
    refine hl.mono ?_
    rintro e w' ⟨rfl, hb⟩
    exact ⟨by simp, hb⟩

theorem flat_ok (g c : Nat) (w : World) (hI : ∀ i, i < 1023 → Item w g i 0 (.slice none 0 0)) :
    Calls Tryd.prog 6 #[vV 7 ByteArray.empty (.slice (some ⟨g, 0, none⟩) 1023 c), .int .i64 1024, .int .i64 16] w fun e w' => e = .returned (.tuple #[.int .i64 0, .bool true]) ∧ Below w.heap.size w w' := by
  refine (room_list g 1023 c 1023 (fun _ => 0) (fun _ => none) (fun _ => 0) (fun _ => 0) (fun i => 1023 - (i : Int)) 16 (by omega) (by omega) 1024 (by omega) (by omega) (by omega) (by omega) w rfl (fun i hi => by omega) hI
    (fun i hi W hW => ?_) (fun h => absurd h (by omega))).mono ?_
  · have h := room_leaf 0 ByteArray.empty (Or.inl ⟨rfl, rfl⟩) (1023 - i) 15 (by omega) (by omega) (by omega) W
    have e : ((1023 - i : Nat) : Int) = 1023 - (i : Int) := by omega
    rw [e] at h
    have e2 : (1023 : Int) - (i : Int) - 1 = 1023 - ((i + 1 : Nat) : Int) := by omega
    rw [e2] at h
    exact h
  · rintro e w' ⟨rfl, hb⟩
    exact ⟨by simp, hb⟩
theorem flat_no (g c : Nat) (w : World) (hI : ∀ i, i < 1024 → Item w g i 0 (.slice none 0 0)) :
    Calls Tryd.prog 6 #[vV 7 ByteArray.empty (.slice (some ⟨g, 0, none⟩) 1024 c), .int .i64 1024, .int .i64 16] w fun e w' => e = .returned (.tuple #[.int .i64 0, .bool false]) ∧ Below w.heap.size w w' := by
  refine (room_list g 1024 c 1023 (fun _ => 0) (fun _ => none) (fun _ => 0) (fun _ => 0) (fun i => 1023 - (i : Int)) 16 (by omega) (by omega) 1024 (by omega) (by omega) (by omega) (by omega) w rfl (fun i hi => by omega) hI
    (fun i hi W hW => ?_) (fun _ W hW => ?_)).mono ?_
  · have h := room_leaf 0 ByteArray.empty (Or.inl ⟨rfl, rfl⟩) (1023 - i) 15 (by omega) (by omega) (by omega) W
    have e : ((1023 - i : Nat) : Int) = 1023 - (i : Int) := by omega
    rw [e] at h
    have e2 : (1023 : Int) - (i : Int) - 1 = 1023 - ((i + 1 : Nat) : Int) := by omega
    rw [e2] at h
    exact h
  · exact room_none _ 15 rfl W
  · rintro e w' ⟨rfl, hb⟩
    exact ⟨by simp, hb⟩
end Go.Proofs.YtndkmcpjlakigaaDoor
