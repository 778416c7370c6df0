/-
  Room behind a list.
-/
import Derived.Test.YtndkmcpjlakigaaDoorJ
namespace Go.Proofs.YtndkmcpjlakigaaDoor
open Go.ChangeShapes Go.WideShapes Go.ChangeAt Go.RowKit Go.Sort
set_option linter.unusedVariables false
attribute [local go_sem] run_store_float

/-- The i-th item of a row of values. -/
structure Item (w : World) (g i : Nat) (k : Int) (s : Value) : Prop where
  c0 : w.cell? ⟨g, i * 6, none⟩ = some (.int .u8 k)
  c1 : w.cell? ⟨g, i * 6 + 1, none⟩ = some (.int .i64 0)
  c2 : w.cell? ⟨g, i * 6 + 2, none⟩ = some (.float .f64 0)
  c3 : w.cell? ⟨g, i * 6 + 3, none⟩ = some (.float .f64 0)
  c4 : w.cell? ⟨g, i * 6 + 4, none⟩ = some (.string ByteArray.empty)
  c5 : w.cell? ⟨g, i * 6 + 5, none⟩ = some s

set_option maxRecDepth 100000 in
set_option maxHeartbeats 4000000 in
theorem room_list (g n c m : Nat) (K : Nat → Int) (A : Nat → Option Addr) (L C : Nat → Nat) (ρ : Nat → Int) (d : Nat) (hd : 1 ≤ d) (hd2 : d ≤ 100) (r : Nat) (hr : 1 ≤ r) (hr2 : r ≤ 1024) (hn : n ≤ 1024) (hm : m ≤ n) (w : World)
    (hρ0 : ρ 0 = (r : Int) - 1) (hρ : ∀ i, i ≤ m → 0 ≤ ρ i ∧ ρ i ≤ 1024) (hI : ∀ i, i < n → Item w g i (K i) (.slice (A i) (L i) (C i)))
    (hok : ∀ i, i < m → ∀ W, Below w.heap.size w W → Calls Tryd.prog 6 #[vV (K i) ByteArray.empty (.slice (A i) (L i) (C i)), .int .i64 (ρ i), .int .i64 ((d : Int) - 1)] W fun e w' => e = .returned (.tuple #[.int .i64 (ρ (i + 1)), .bool true]) ∧ Below W.heap.size W w')
    (hno : m < n → ∀ W, Below w.heap.size w W → Calls Tryd.prog 6 #[vV (K m) ByteArray.empty (.slice (A m) (L m) (C m)), .int .i64 (ρ m), .int .i64 ((d : Int) - 1)] W fun e w' => e = .returned (.tuple #[.int .i64 0, .bool false]) ∧ Below W.heap.size W w') :
    Calls Tryd.prog 6 #[vV 7 ByteArray.empty (.slice (some ⟨g, 0, none⟩) n c), .int .i64 (r : Int), .int .i64 (d : Int)] w fun e w' => e = .returned (.tuple (if m = n then #[.int .i64 (ρ n), .bool true] else #[.int .i64 0, .bool false])) ∧ Below w.heap.size w w' := by
  have h1 : ¬ (r : Int) < 1 := by omega
  have h2 : ¬ (d : Int) < 1 := by omega
  have HF := Lib.hid (fit_box 7 ByteArray.empty (.slice (some ⟨g, 0, none⟩) n c) (fun W => fit_7 _ n c W) w)
  have HI := Lib.hid hI
  have HO := Lib.hid hok
  have HN := Lib.hid hno
  have HR := Lib.hid hρ
  clear hI hok hno hρ
  unfold vV at *
  go_enter Tryd.func6, Tryd.ntmps6
  go_wp2_with (go_at_call 11; (with_reducible refine HF.out.mono ?_); rintro e w2 ⟨rfl, q0, q5, hb2⟩)
  clear HF q0 q5
  go_loopw [1, 32] (fun vr vi wr => ∃ i : Nat, vr = .int .i64 (ρ i) ∧ vi = .int .i64 (i : Int) ∧ i ≤ m ∧ Below w.heap.size w wr) (fun _ vi _ => n - (intOf vi).toNat)
  case atStart => exact ⟨0, by rw [hρ0], rfl, Nat.zero_le _, hb2⟩
  case round =>
    obtain ⟨i, rfl, rfl, him, hb⟩ := hrel
    obtain ⟨r1, r2⟩ := HR.out i him
    by_cases hi : i < n
    · obtain ⟨c0, c1, c2, c3, c4, c5⟩ := HI.out i hi
      have hg : g < w.heap.size := World.block_lt_of_cell? w _ c0
      have e0 := (hb.cell (p := ⟨g, i * 6, none⟩) hg).trans c0
      have e1 := (hb.cell (p := ⟨g, i * 6 + 1, none⟩) hg).trans c1
      have e2 := (hb.cell (p := ⟨g, i * 6 + 2, none⟩) hg).trans c2
      have e3 := (hb.cell (p := ⟨g, i * 6 + 3, none⟩) hg).trans c3
      have e4 := (hb.cell (p := ⟨g, i * 6 + 4, none⟩) hg).trans c4
      have e5 := (hb.cell (p := ⟨g, i * 6 + 5, none⟩) hg).trans c5
      clear c0 c1 c2 c3 c4 c5 hg
      have hba := hb.alloc hb.size (.cells #[.int .u8 (K i), .int .i64 0, .float .f64 0, .float .f64 0, .string ByteArray.empty, .slice (A i) (L i) (C i)] 25)
      by_cases hlt : i < m
      · have H6 := Lib.hid (HO.out i hlt _ hba)
        go_wp2_with (go_at_call 6; (with_reducible refine H6.out.mono ?_); rintro e w3 ⟨rfl, hb3⟩)
        exact ⟨⟨i + 1, rfl, (by go_num), hlt, hba.trans (hb3.mono hba.size)⟩, by simp [intOf]; omega⟩
      · obtain rfl : i = m := by omega
        have H6 := Lib.hid (HN.out hi _ hba)
        have hne : i ≠ n := by omega
        go_wp2_with (go_at_call 6; (with_reducible refine H6.out.mono ?_); rintro e w3 ⟨rfl, hb3⟩)
        go_ret2
        exact ⟨by first | rfl | simp [hne], hba.trans (hb3.mono hba.size)⟩
    · obtain rfl : m = n := by omega
      obtain rfl : i = m := by omega
      go_wp2
      go_ret2
      exact ⟨by simp, hb⟩
end Go.Proofs.YtndkmcpjlakigaaDoor
