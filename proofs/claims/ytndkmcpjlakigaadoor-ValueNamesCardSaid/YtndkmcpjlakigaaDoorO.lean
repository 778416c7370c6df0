/-
  The law.
-/
import Derived.Test.YtndkmcpjlakigaaDoorN
import Derived.Test.YtndkmcpjlakigaaDoorH
namespace Go.Proofs.YtndkmcpjlakigaaDoor
open Go.ChangeShapes Go.WideShapes Go.ChangeAt Go.RowKit Go.Sort
set_option linter.unusedVariables false
attribute [local go_sem] run_store_float cell_past lt_more1 lt_more2 lt_more3 lt_more4 lt_more5 lt_more6 mk_full mk_more mk_long conv_long_new

theorem gen_world {P : Program} {f : Nat} {args : Array Value} {w : World} {Q : Ending → World → Prop} (h : ∀ V, V = w → Calls P f args V Q) : Calls P f args w Q := h w rfl
theorem heap_at (w : World) (o : Obj) (b : Nat) (hb : b = w.heap.size) : (w.alloc o).heap[b]? = some o := by
  subst hb
  show (w.heap.push o)[w.heap.size]? = _
  exact Array.getElem?_push_size
def vK (k : Int) (t : ByteArray) (s : Value) : Array Value := #[.int .u8 k, .int .i64 0, .float .f64 0, .float .f64 0, .string t, s]
theorem box_cells {W : World} {b : Nat} {k : Int} {t : ByteArray} {s : Value} (h : W.heap[b]? = some (.cells (vK k t s) 25 (0, 0))) : W.cell? ⟨b, 0, none⟩ = some (.int .u8 k) ∧ W.cell? ⟨b, 1, none⟩ = some (.int .i64 0) ∧ W.cell? ⟨b, 2, none⟩ = some (.float .f64 0) ∧ W.cell? ⟨b, 3, none⟩ = some (.float .f64 0) ∧ W.cell? ⟨b, 4, none⟩ = some (.string t) ∧ W.cell? ⟨b, 5, none⟩ = some s := by
  simp [World.cell?, h, vK]
theorem row_cells {W : World} {b : Nat} {c : Array Value} {t : TypeId} (h : W.heap[b]? = some (.cells c t (0, 0))) (j : Nat) : W.cell? ⟨b, j, none⟩ = c[j]? := by
  simp [World.cell?, h]
theorem heap_stay {B : Nat} {V W : World} (hb : Below V.heap.size V W) {b : Nat} {o : Obj} (h : V.heap[b]? = some o) : W.heap[b]? = some o := (hb.block b (Array.getElem?_eq_some_iff.1 h).1).trans h

/-- What stands before the last region. -/
structure Made (w V : World) (b0 b2 b3 b4 b5 b6 : Nat) (a : Option Addr) (n c : Nat) : Prop where
  bel : Below w.heap.size w V
  k1 : V.heap[b0]? = some (.cells (vK 7 ByteArray.empty (.slice a n c)) 25 (0, 0))
  r2 : V.heap[b2]? = some (.cells (rowOf 1023) 25 (0, 0))
  k3 : V.heap[b3]? = some (.cells (vK 7 ByteArray.empty (.slice (some ⟨b2, 0, none⟩) 1023 1023)) 25 (0, 0))
  r4 : V.heap[b4]? = some (.cells (rowOf 1024) 25 (0, 0))
  k5 : V.heap[b5]? = some (.cells (vK 7 ByteArray.empty (.slice (some ⟨b4, 0, none⟩) 1024 1024)) 25 (0, 0))
  k6 : V.heap[b6]? = some (.cells (vK 5 longT (.slice none 0 0)) 25 (0, 0))
  ch : Chain V 15 (a, n, c)

theorem Made.deep {w V : World} {b0 b2 b3 b4 b5 b6 : Nat} {a : Option Addr} {n c : Nat} (M : Made w V b0 b2 b3 b4 b5 b6 a n c) : Calls Tryd.prog 4 #[vV 7 ByteArray.empty (.slice a n c)] V fun e w' => e = .returned (.int .i64 0) ∧ Below V.heap.size V w' :=
  check_any 7 ByteArray.empty a n c true 1008 V (fun W hW => chain_ok 15 (a, n, c) W (M.ch.stay (Nat.le_refl _) hW) 1024 16 (by decide) (by decide) (by decide) (by decide))
theorem Made.deeper {w V : World} {b0 b2 b3 b4 b5 b6 : Nat} {a : Option Addr} {n c : Nat} (M : Made w V b0 b2 b3 b4 b5 b6 a n c) (W1 : World) (h1 : Below V.heap.size V W1) : Calls Tryd.prog 4 #[vV 7 ByteArray.empty (.slice (some ⟨W1.heap.size, 0, none⟩) 1 1)] (W1.alloc (.cells (vK 7 ByteArray.empty (.slice a n c)) 25)) fun e w' => e = .returned (.int .i64 20) ∧ Below V.heap.size V w' := by
  have hba := h1.alloc h1.size (.cells (vK 7 ByteArray.empty (.slice a n c)) 25)
  have hc : Chain (W1.alloc (.cells (vK 7 ByteArray.empty (.slice a n c)) 25)) 16 (some ⟨W1.heap.size, 0, none⟩, 1, 1) := ⟨W1.heap.size, 1, (a, n, c), rfl, item_new W1 (.slice a n c), M.ch.stay (Nat.le_refl _) hba⟩
  refine (check_any 7 ByteArray.empty (some ⟨W1.heap.size, 0, none⟩) 1 1 false 0 _ (fun W hW => chain_no 16 _ W (hc.stay (Nat.le_refl _) hW) 1024 (by decide) (by decide) (by decide))).mono ?_
  rintro e w' ⟨rfl, hb⟩
  exact ⟨rfl, hba.trans (hb.mono hba.size)⟩
theorem Made.full {w V : World} {b0 b2 b3 b4 b5 b6 : Nat} {a : Option Addr} {n c : Nat} (M : Made w V b0 b2 b3 b4 b5 b6 a n c) (W1 : World) (h1 : Below V.heap.size V W1) : Calls Tryd.prog 4 #[vV 7 ByteArray.empty (.slice (some ⟨b2, 0, none⟩) 1023 1023)] W1 fun e w' => e = .returned (.int .i64 0) ∧ Below V.heap.size V w' := by
  refine (check_any 7 ByteArray.empty (some ⟨b2, 0, none⟩) 1023 1023 true 0 W1 (fun W hW => flat_ok b2 1023 W (item_row 1023 b2 W (row_cells (heap_stay (B := 0) (h1.trans (hW.mono h1.size)) M.r2))))).mono ?_
  rintro e w' ⟨rfl, hb⟩
  exact ⟨rfl, h1.trans (hb.mono h1.size)⟩
theorem Made.more {w V : World} {b0 b2 b3 b4 b5 b6 : Nat} {a : Option Addr} {n c : Nat} (M : Made w V b0 b2 b3 b4 b5 b6 a n c) (W1 : World) (h1 : Below V.heap.size V W1) : Calls Tryd.prog 4 #[vV 7 ByteArray.empty (.slice (some ⟨b4, 0, none⟩) 1024 1024)] W1 fun e w' => e = .returned (.int .i64 20) ∧ Below V.heap.size V w' := by
  refine (check_any 7 ByteArray.empty (some ⟨b4, 0, none⟩) 1024 1024 false 0 W1 (fun W hW => flat_no b4 1024 W (item_row 1024 b4 W (row_cells (heap_stay (B := 0) (h1.trans (hW.mono h1.size)) M.r4))))).mono ?_
  rintro e w' ⟨rfl, hb⟩
  exact ⟨rfl, h1.trans (hb.mono h1.size)⟩
theorem long_ok (V W1 : World) (h1 : Below V.heap.size V W1) : Calls Tryd.prog 4 #[vV 5 longT (.slice none 0 0)] W1 fun e w' => e = .returned (.int .i64 0) ∧ Below V.heap.size V w' := by
  refine (check_any 5 longT none 0 0 true 1023 W1 (fun W hW => room_leaf 5 longT (Or.inr ⟨rfl, by rw [long_size]; exact Nat.le_refl _⟩) 1024 16 (by decide) (by decide) (by decide) W)).mono ?_
  rintro e w' ⟨rfl, hb⟩
  exact ⟨rfl, h1.trans (hb.mono h1.size)⟩

set_option maxRecDepth 100000 in
set_option maxHeartbeats 4000000 in
theorem names_any (w : World) (htab : Lib.TabIs Tryd.prog w "internal/strconv.uint64pow10" .u64 Lib.pow10Tab)
    (h0 : w.cell? ⟨4, 718, none⟩ = some (.int .u64 13421772800000000000)) (h1 : w.cell? ⟨4, 719, none⟩ = some (.int .u64 0))
    (h2 : w.cell? ⟨4, 716, none⟩ = some (.int .u64 10737418240000000000)) (h3 : w.cell? ⟨4, 717, none⟩ = some (.int .u64 0)) :
    Calls Tryd.prog 3 #[] w fun e w' => e = .returned (.bool true) ∧ Below w.heap.size w w' := by
  have HT := Lib.hid htab
  have H0 := Lib.hid h0
  have H1 := Lib.hid h1
  have H2 := Lib.hid h2
  have H3 := Lib.hid h3
  clear htab h0 h1 h2 h3
  go_enter Tryd.func3, Tryd.ntmps3
  go_wp2_with fail
  go_loopw [2] (fun vi wr => ∃ (i : Nat) (s : Option Addr × Nat × Nat), vi = .int .i64 (i : Int) ∧ 1 ≤ i ∧ i ≤ 16 ∧ wr.heap[w.heap.size]? = some (.cells (vC (sl s)) 25 (0, 0)) ∧ Ch w.heap.size wr (i - 1) s ∧ Below w.heap.size w wr) (fun vi _ => 16 - (intOf vi).toNat)
  case atStart =>
    refine ⟨1, (none, 0, 0), rfl, by omega, by omega, ?_, rfl, (Below.refl _ w).alloc (Nat.le_refl _) _⟩
    show (w.heap.push _)[w.heap.size]? = _
    rw [Array.getElem?_push_size]
    rfl
  case round =>
    obtain ⟨i, ⟨a, n, c⟩, rfl, hi1, hi2, hH, hc, hb⟩ := hrel
    have d0 : wr.cell? ⟨w.heap.size, 0, none⟩ = some (.int .u8 7) := by simp [World.cell?, hH, vC]
    have d1 : wr.cell? ⟨w.heap.size, 1, none⟩ = some (.int .i64 0) := by simp [World.cell?, hH, vC]
    have d2 : wr.cell? ⟨w.heap.size, 2, none⟩ = some (.float .f64 0) := by simp [World.cell?, hH, vC]
    have d3 : wr.cell? ⟨w.heap.size, 3, none⟩ = some (.float .f64 0) := by simp [World.cell?, hH, vC]
    have d4 : wr.cell? ⟨w.heap.size, 4, none⟩ = some (.string ByteArray.empty) := by simp [World.cell?, hH, vC]
    have d5 : wr.cell? ⟨w.heap.size, 5, none⟩ = some (.slice a n c) := by simp [World.cell?, hH, vC, sl]
    have hf : ∀ j, wr.frozen? ⟨w.heap.size, j, none⟩ = false := fun j => by simp [World.frozen?, hH]
    have f0 := hf 0
    have f1 := hf 1
    have f2 := hf 2
    have f3 := hf 3
    have f4 := hf 4
    have f5 := hf 5
    have hlt := (Array.getElem?_eq_some_iff.1 hH).1
    have HH := Lib.hid hH
    have HC := Lib.hid hc
    clear hf hH hc
    by_cases hlt2 : i < 16
    · go_wp2_with fail
      refine ⟨⟨i + 1, (some ⟨wr.heap.size, 0, none⟩, 1, 1), (by go_num), by omega, by omega, ?_, ?_, ?_⟩, by simp [intOf]; omega⟩
      · refine (heap_old (heap_set (heap_set (heap_set (heap_set (heap_set (heap_set HH.out 0 _) 1 _) 2 _) 3 _) 4 _) 5 _) _).trans ?_
        rfl
      · have e : i + 1 - 1 = (i - 1) + 1 := by omega
        rw [e]
        have hO : Oth w.heap.size wr ((((((wr.setCell ⟨w.heap.size, 0, none⟩ (.int .u8 7)).setCell ⟨w.heap.size, 1, none⟩ (.int .i64 0)).setCell ⟨w.heap.size, 2, none⟩ (.float .f64 0)).setCell ⟨w.heap.size, 3, none⟩ (.float .f64 0)).setCell ⟨w.heap.size, 4, none⟩ (.string ⟨#[]⟩)).setCell ⟨w.heap.size, 5, none⟩ (.slice (some ⟨wr.heap.size, 0, none⟩) 1 1)) := ((((((Oth.refl _ wr).set 0 _).set 1 _).set 2 _).set 3 _).set 4 _).set 5 _
        have hsz : ((((((wr.setCell ⟨w.heap.size, 0, none⟩ (.int .u8 7)).setCell ⟨w.heap.size, 1, none⟩ (.int .i64 0)).setCell ⟨w.heap.size, 2, none⟩ (.float .f64 0)).setCell ⟨w.heap.size, 3, none⟩ (.float .f64 0)).setCell ⟨w.heap.size, 4, none⟩ (.string ⟨#[]⟩)).setCell ⟨w.heap.size, 5, none⟩ (.slice (some ⟨wr.heap.size, 0, none⟩) 1 1)).heap.size = wr.heap.size := by simp
        have hI := item_new ((((((wr.setCell ⟨w.heap.size, 0, none⟩ (.int .u8 7)).setCell ⟨w.heap.size, 1, none⟩ (.int .i64 0)).setCell ⟨w.heap.size, 2, none⟩ (.float .f64 0)).setCell ⟨w.heap.size, 3, none⟩ (.float .f64 0)).setCell ⟨w.heap.size, 4, none⟩ (.string ⟨#[]⟩)).setCell ⟨w.heap.size, 5, none⟩ (.slice (some ⟨wr.heap.size, 0, none⟩) 1 1)) (sl (a, n, c))
        rw [hsz] at hI
        exact ⟨wr.heap.size, 1, (a, n, c), rfl, Nat.ne_of_gt hlt, hI, HC.out.oth (hO.alloc _)⟩
      · refine Below.alloc ?_ (by simp; omega) _
        have hle : w.heap.size ≤ w.heap.size := Nat.le_refl _
        iterate 6 refine Below.setCell ?_ hle _
        exact hb
    · obtain rfl : i = 16 := by omega
      go_wp2_with fail
      refine gen_world fun V hV => ?_
      have M : Made w V w.heap.size wr.heap.size (wr.heap.size + 1) (wr.heap.size + 1 + 1) (wr.heap.size + 1 + 1 + 1) (wr.heap.size + 1 + 1 + 1 + 1 + 1) a n c := by
        subst hV
        have hC : Ch w.heap.size wr 15 (a, n, c) := HC.out
        refine ⟨?_, ?_, ?_, ?_, ?_, ?_, ?_, ?_⟩
        · iterate 6 refine Below.alloc ?_ (by first | omega | (simp; omega)) _
          exact hb
        · exact heap_old (heap_old (heap_old (heap_old (heap_old (heap_old HH.out _) _) _) _) _) _
        · exact heap_old (heap_old (heap_old (heap_old (heap_old (heap_at _ _ _ rfl) _) _) _) _) _
        · exact heap_old (heap_old (heap_old (heap_old (heap_at _ _ _ (by simp)) _) _) _) _
        · exact heap_old (heap_old (heap_old (heap_at _ _ _ (by simp)) _) _) _
        · exact heap_old (heap_old (heap_at _ _ _ (by simp)) _) _
        · exact heap_at _ _ _ (by simp)
        · exact (hC.oth ((((((Oth.refl _ wr).alloc _).alloc _).alloc _).alloc _).alloc _ |>.alloc _)).chain
      clear hV d0 d1 d2 d3 d4 d5 f0 f1 f2 f3 f4 f5 hlt HH HC hb
      have N1 := M.deep
      have N2 : ∀ W1, Below V.heap.size V W1 → Calls Tryd.prog 4 #[.agg #[.int .u8 7, .int .i64 0, .float .f64 0, .float .f64 0, .string ⟨#[]⟩, .slice (some ⟨W1.heap.size, 0, none⟩) 1 1]] (W1.alloc (.cells #[.int .u8 7, .int .i64 0, .float .f64 0, .float .f64 0, .string ByteArray.empty, .slice a n c] 25)) fun e w' => e = .returned (.int .i64 20) ∧ Below V.heap.size V w' := fun W1 h => M.deeper W1 h
      have N3 := M.full
      have N4 := M.more
      have N5 := long_ok V
      have N6 : ∀ W, Below V.heap.size V W → Calls Tryd.prog 5 #[.float .f64 4681608360884174848] W fun e w' => e = .returned (.string ⟨#[49, 48, 48, 48, 48, 48, 46, 48]⟩) ∧ Below V.heap.size V w' := fun W h => by
        have hw : Below w.heap.size w W := M.bel.trans (h.mono M.bel.size)
        refine (float_f W (Go.Joins.tab_stays (g := 2) (by kernel_rfl) HT.out hw (Nat.le_refl _)) ((hw.cell (World.block_lt_of_cell? w _ H0.out)).trans H0.out) ((hw.cell (World.block_lt_of_cell? w _ H1.out)).trans H1.out)).mono ?_
        rintro e w' ⟨rfl, hb⟩
        exact ⟨rfl, h.trans (hb.mono h.size)⟩
      have N7 : ∀ W, Below V.heap.size V W → Calls Tryd.prog 5 #[.float .f64 4696837146684686336] W fun e w' => e = .returned (.string ⟨#[49, 101, 43, 48, 54]⟩) ∧ Below V.heap.size V w' := fun W h => by
        have hw : Below w.heap.size w W := M.bel.trans (h.mono M.bel.size)
        refine (float_e W (Go.Joins.tab_stays (g := 2) (by kernel_rfl) HT.out hw (Nat.le_refl _)) ((hw.cell (World.block_lt_of_cell? w _ H2.out)).trans H2.out) ((hw.cell (World.block_lt_of_cell? w _ H3.out)).trans H3.out)).mono ?_
        rintro e w' ⟨rfl, hb⟩
        exact ⟨rfl, h.trans (hb.mono h.size)⟩
      have hbel := M.bel
      have K1 := M.k1
      have K3 := M.k3
      have K5 := M.k5
      have K6 := M.k6
      clear M HT H0 H1 H2 H3
      unfold vV vK at *
      have N1 := Lib.hid N1
      have N2 := Lib.hid N2
      have N3 := Lib.hid N3
      have N4 := Lib.hid N4
      have N5 := Lib.hid N5
      have N6 := Lib.hid N6
      have N7 := Lib.hid N7
      have K1 := Lib.hid K1
      have K3 := Lib.hid K3
      have K5 := Lib.hid K5
      have K6 := Lib.hid K6
      refine N1.out.mono ?_
      rintro e w1 ⟨rfl, hb1⟩
      obtain ⟨c0, c1, c2, c3, c4, c5⟩ := box_cells (heap_stay (B := 0) hb1 K1.out)
      dsimp only
      go_wp2_with (first
        | (go_at_call 4; (with_reducible refine (N2.out _ hb1).mono ?_); rintro e w2 ⟨rfl, hb2⟩; obtain ⟨d0, d1, d2, d3, d4, d5⟩ := box_cells (heap_stay (B := 0) hb2 K3.out))
        | (go_at_call 4; (with_reducible refine (N3.out _ hb2).mono ?_); rintro e w3 ⟨rfl, hb3⟩; obtain ⟨e0, e1, e2, e3, e4, e5⟩ := box_cells (heap_stay (B := 0) hb3 K5.out))
        | (go_at_call 4; (with_reducible refine (N4.out _ hb3).mono ?_); rintro e w4 ⟨rfl, hb4⟩; obtain ⟨g0, g1, g2, g3, g4, g5⟩ := box_cells (heap_stay (B := 0) hb4 K6.out))
        | (go_at_call 4; (with_reducible refine (N5.out _ hb4).mono ?_); rintro e w5 ⟨rfl, hb5⟩)
        | (go_at_call 5; (with_reducible refine (N6.out _ hb5).mono ?_); rintro e w6 ⟨rfl, hb6⟩)
        | (go_at_call 5; (with_reducible refine (N7.out _ hb6).mono ?_); rintro e w7 ⟨rfl, hb7⟩))
      go_ret
      exact ⟨rfl, hbel.trans (hb7.mono hbel.size)⟩
end Go.Proofs.YtndkmcpjlakigaaDoor
