/-
  Great rows made; chains beside a box.
-/
import Derived.Test.YtndkmcpjlakigaaDoorM
namespace Go.Proofs.YtndkmcpjlakigaaDoor
open Go.ChangeShapes Go.WideShapes Go.ChangeAt Go.RowKit Go.Sort
set_option linter.unusedVariables false

def zC : Array Value := #[.int .u8 0, .int .i64 0, .float .f64 0, .float .f64 0, .string ByteArray.empty, .slice none 0 0]
def rowOf (n : Nat) : Array Value := madeCells zC (n * 6)
def bytesOf : Array Value := madeCells #[.int .u8 0] (4096 * 1)
def zerosT (n : Nat) : ByteArray := ⟨(List.replicate n (0 : UInt8)).toArray⟩
theorem zeros_size (n : Nat) : (zerosT n).size = n := by simp [zerosT, ByteArray.size]
def longT : ByteArray := zerosT 4096
theorem long_size : longT.size = 4096 := zeros_size 4096

theorem made_at (z : Array Value) (n j : Nat) (h : j < n) : (madeCells z n)[j]? = some z[j % z.size]! := by
  simp [madeCells, h]

set_option maxRecDepth 100000 in
theorem mk_25 (w : World) (n : Nat) (h : n ≤ 100000) : (Instr.makeSlice 23 (.int .i64 (n : Int)) (.int .i64 (n : Int))).run Tryd.prog w = .ok (.slice (some ⟨w.heap.size, 0, none⟩) n n) (w.alloc (.cells (rowOf n) 25)) := by
  obtain ⟨i, hi, hz⟩ : ∃ i, Tryd.prog.info? 25 = some i ∧ (i.zero, i.size, i.bytes) = (some (vV 0 ByteArray.empty (.slice none 0 0)), 6, 72) := by
    have h := info25
    cases hx : Tryd.prog.info? 25 with
    | none => rw [hx] at h; cases h
    | some i => rw [hx] at h; exact ⟨i, rfl, by simpa using h⟩
  injection hz with h1 h2
  injection h2 with h2 h3
  have h := run_makeSlice (P := Tryd.prog) w 23 25 i _ Tryd.underlying23 hi h1 .i64 .i64 n n (by omega) (by omega) (by rw [h2]; omega) (by rw [h3]; omega) (by omega)
  rw [h2] at h
  exact h
theorem mk_full (w : World) : (Instr.makeSlice 23 (.int .i64 1023) (.int .i64 1023)).run Tryd.prog w = .ok (.slice (some ⟨w.heap.size, 0, none⟩) 1023 1023) (w.alloc (.cells (rowOf 1023) 25)) := mk_25 w 1023 (by decide)
theorem mk_more (w : World) : (Instr.makeSlice 23 (.int .i64 1024) (.int .i64 1024)).run Tryd.prog w = .ok (.slice (some ⟨w.heap.size, 0, none⟩) 1024 1024) (w.alloc (.cells (rowOf 1024) 25)) := mk_25 w 1024 (by decide)
theorem mk_long (w : World) : (Instr.makeSlice 26 (.int .i64 4096) (.int .i64 4096)).run Tryd.prog w = .ok (.slice (some ⟨w.heap.size, 0, none⟩) 4096 4096) (w.alloc (.cells bytesOf 5)) := mk_u8 w 4096 4096 (by decide) (by decide)

theorem item_row (n g : Nat) (w : World) (h : ∀ j, w.cell? ⟨g, j, none⟩ = (rowOf n)[j]?) : ∀ i, i < n → Item w g i 0 (.slice none 0 0) := by
  have hz : zC.size = 6 := rfl
  have key : ∀ i, i < n → ∀ j, j < 6 → w.cell? ⟨g, i * 6 + j, none⟩ = some zC[j]! := by
    intro i hi j hj
    rw [h, rowOf, made_at _ _ _ (by omega), hz]
    congr 2
    omega
  intro i hi
  exact ⟨key i hi 0 (by decide), key i hi 1 (by decide), key i hi 2 (by decide), key i hi 3 (by decide), key i hi 4 (by decide), key i hi 5 (by decide)⟩

theorem conv_zeros (n b : Nat) (w : World) (h : ∀ j, w.cell? ⟨b, j, none⟩ = (madeCells #[.int .u8 0] (n * 1))[j]?) : (convert 26 9 (.slice (some ⟨b, 0, none⟩) n n)).run Tryd.prog w = .ok (.string (zerosT n)) w := by
  have hc := run_convert_bytes_back (P := Tryd.prog) w 26 9 5 ⟨b, 0, none⟩ n (List.replicate n (0 : UInt8)) Tryd.underlying26 Tryd.underlying5 Tryd.underlying9 (fun j hj => by
    have hj2 : j < n := by simpa using hj
    have e : (⟨b, 0, none⟩ : Addr).add j = ⟨b, j, none⟩ := by simp [Addr.add]; omega
    rw [e, h, made_at _ _ _ (by omega)]
    simp [Nat.mod_one])
  rw [List.length_replicate] at hc
  exact hc
theorem conv_long (b : Nat) (w : World) (h : ∀ j, w.cell? ⟨b, j, none⟩ = bytesOf[j]?) : (convert 26 9 (.slice (some ⟨b, 0, none⟩) 4096 4096)).run Tryd.prog w = .ok (.string longT) w := conv_zeros 4096 b w h
theorem conv_long_new (b : Nat) (w : World) (hb : b = w.heap.size) : (convert 26 9 (.slice (some ⟨b, 0, none⟩) 4096 4096)).run Tryd.prog (w.alloc (.cells bytesOf 5)) = .ok (.string longT) (w.alloc (.cells bytesOf 5)) := by
  subst hb
  exact conv_long _ _ (fun j => World.cell?_alloc_new w _ 5 j)

/-- What lies in other blocks than b lies there still. -/
def Oth (b : Nat) (w W : World) : Prop := ∀ g j u, g ≠ b → w.cell? ⟨g, j, none⟩ = some u → W.cell? ⟨g, j, none⟩ = some u
theorem Oth.refl (b : Nat) (w : World) : Oth b w w := fun _ _ _ _ h => h
theorem Oth.alloc {b : Nat} {w W : World} (h : Oth b w W) (o : Obj) : Oth b w (W.alloc o) := fun g j u hg hu => by
  have h1 := h g j u hg hu
  rw [World.cell?_alloc_some _ _ _ (by rw [h1]; rfl)]
  exact h1
theorem Oth.set {b : Nat} {w W : World} (h : Oth b w W) (i : Nat) (v : Value) : Oth b w (W.setCell ⟨b, i, none⟩ v) := fun g j u hg hu => by
  rw [World.cell?_setCell_far _ _ _ _ (fun e => hg e.symm)]
  exact h g j u hg hu
theorem Item.oth {b : Nat} {w W : World} (h : Oth b w W) {g i : Nat} (hg : g ≠ b) {k : Int} {s : Value} (hi : Item w g i k s) : Item W g i k s :=
  ⟨h _ _ _ hg hi.c0, h _ _ _ hg hi.c1, h _ _ _ hg hi.c2, h _ _ _ hg hi.c3, h _ _ _ hg hi.c4, h _ _ _ hg hi.c5⟩
def Ch (b : Nat) (w : World) : Nat → Option Addr × Nat × Nat → Prop
  | 0, s => s = (none, 0, 0)
  | k + 1, s => ∃ g c s', s = (some ⟨g, 0, none⟩, 1, c) ∧ g ≠ b ∧ Item w g 0 7 (sl s') ∧ Ch b w k s'
theorem Ch.oth {b : Nat} {w W : World} (h : Oth b w W) : ∀ {k s}, Ch b w k s → Ch b W k s
  | 0, _, hc => hc
  | k + 1, _, ⟨g, c, s', h1, h2, h3, h4⟩ => ⟨g, c, s', h1, h2, h3.oth h h2, Ch.oth h h4⟩
theorem Ch.chain {b : Nat} {w : World} : ∀ {k s}, Ch b w k s → Chain w k s
  | 0, _, hc => hc
  | k + 1, _, ⟨g, c, s', h1, h2, h3, h4⟩ => ⟨g, c, s', h1, h3, Ch.chain h4⟩
theorem heap_set {w : World} {b : Nat} {c : Array Value} {t : TypeId} {fr : Nat × Nat} (h : w.heap[b]? = some (.cells c t fr)) (i : Nat) (v : Value) : (w.setCell ⟨b, i, none⟩ v).heap[b]? = some (.cells (c.setIfInBounds i v) t fr) := by
  simp [World.setCell, Array.getElem?_modify, h]
theorem heap_old {w : World} {b : Nat} {o : Obj} (h : w.heap[b]? = some o) (o' : Obj) : (w.alloc o').heap[b]? = some o := by
  have hb := (Array.getElem?_eq_some_iff.1 h).1
  show (w.heap.push o')[b]? = _
  rw [Array.getElem?_push_lt hb]
  exact (Array.getElem?_eq_getElem hb).symm.trans h
def vC (s : Value) : Array Value := #[.int .u8 7, .int .i64 0, .float .f64 0, .float .f64 0, .string ByteArray.empty, s]
theorem item_new (w : World) (s : Value) : Item (w.alloc (.cells (vC s) 25)) w.heap.size 0 7 s :=
  ⟨World.cell?_alloc_new w _ 25 0, World.cell?_alloc_new w _ 25 1, World.cell?_alloc_new w _ 25 2, World.cell?_alloc_new w _ 25 3, World.cell?_alloc_new w _ 25 4, World.cell?_alloc_new w _ 25 5⟩
end Go.Proofs.YtndkmcpjlakigaaDoor
