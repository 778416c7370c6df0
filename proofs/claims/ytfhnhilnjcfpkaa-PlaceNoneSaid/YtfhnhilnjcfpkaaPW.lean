/-
  PlaceNone: the walk of the law, as far as the two rows and the texts.
-/
import Derived.Test.YtfhnhilnjcfpkaaPN
namespace Go.Proofs.Ytfhnhilnjcfpkaa
open Go.ChangeShapes Go.WideShapes Go.ChangeAt Go.RowKit Go.Shelf
open Go.Maps (Keyed)
set_option linter.unusedVariables false
set_option maxRecDepth 100000 in
theorem info5b : (Try.prog.info? 5).map (fun i => (i.zero, i.size, i.bytes)) = some (some (.int .u8 0), 1, 1) := by kernel_rfl
set_option maxRecDepth 100000 in
theorem mk_u8 (w : World) (l : Nat) (hc : l ≤ 1000) : (Instr.makeSlice 38 (.int .i64 (l : Int)) (.int .i64 (l : Int))).run Try.prog w = .ok (.slice (some ⟨w.heap.size, 0, none⟩) l l) (w.alloc (.cells (madeCells (Value.int .u8 0).cells (l * 1)) 5)) := by
  obtain ⟨i, hi, hz⟩ : ∃ i, Try.prog.info? 5 = some i ∧ (i.zero, i.size, i.bytes) = (some (Value.int .u8 0), 1, 1) := by
    have h := info5b
    cases hx : Try.prog.info? 5 with
    | none => rw [hx] at h; cases h
    | some i => rw [hx] at h; exact ⟨i, rfl, by simpa using h⟩
  injection hz with h1 h2
  injection h2 with h2 h3
  have h := run_makeSlice (P := Try.prog) w 38 5 i (.int .u8 0) Try.underlying38 hi h1 .i64 .i64 l l (by omega) (by omega) (by rw [h2]; omega) (by rw [h3]; omega) (by omega)
  rw [h2] at h
  exact h
def zs : List UInt8 := List.replicate 121 0
theorem zs_len : zs.length = 121 := by simp [zs]
theorem zs_get (j : Nat) (h : j < zs.length) : zs[j] = 0 := List.eq_of_mem_replicate (List.getElem_mem h)
def zrow : Array Value := madeCells (Value.int .u8 0).cells (121 * 1)
theorem mk_121 (w : World) : (Instr.makeSlice 38 (.int .i64 121) (.int .i64 121)).run Try.prog w = .ok (.slice (some ⟨w.heap.size, 0, none⟩) 121 121) (w.alloc (.cells zrow 5)) := mk_u8 w 121 (by omega)
theorem conv_121 (w : World) : (convert 38 9 (.slice (some ⟨w.heap.size, 0, none⟩) 121 121)).run Try.prog (w.alloc (.cells zrow 5)) = .ok (.string (bts zs)) (w.alloc (.cells zrow 5)) := by
  have h := run_convert_bytes_back (P := Try.prog) (w.alloc (.cells zrow 5)) 38 9 5 ⟨w.heap.size, 0, none⟩ 121 zs Try.underlying38 Try.underlying5 Try.underlying9 (fun j hj => by
    rw [zs_len] at hj
    have e : (⟨w.heap.size, 0, none⟩ : Addr).add j = ⟨w.heap.size, j, none⟩ := by simp [Addr.add]; omega
    rw [e, cell_of_row (w.alloc (.cells zrow 5)) w.heap.size j _ _ _ (heap_alloc_new w _)]
    have hm : zrow = Array.replicate 121 (Value.int .u8 0) := by kernel_rfl
    rw [hm, Array.getElem?_replicate, if_pos (by omega), zs_get]
    rfl)
  rw [zs_len] at h
  exact h
def nm (k : Nat) : ByteArray := bts (List.replicate k 126)
theorem nm_size (k : Nat) : (nm k).size = k := by simp [nm, bts_size]
theorem nm_succ (k : Nat) : nm k ++ (⟨#[126]⟩ : ByteArray) = nm (k + 1) := by
  apply ba_ext
  simp [nm, bts, List.replicate_succ']
theorem nm_zero : nm 0 = (⟨#[]⟩ : ByteArray) := rfl
theorem nm_may (k : Nat) (h : k ≤ 120) (h1 : 1 ≤ k) : may (nm k, 0) = true := by
  refine may_iff.2 ⟨by rw [nm_size]; exact h1, by rw [nm_size]; exact h, (by decide : (0 : Int) ≤ 0), (by decide : (0 : Int) ≤ 1048576), ?_⟩
  intro c hc
  simp [nm, bts] at hc
  obtain ⟨_, rfl⟩ := hc
  decide
theorem bad_long (s : ByteArray) (n : Int) (h : 120 < s.size) : may (s, n) = false := may_out (by intro hc; simp only at hc; omega)
theorem bad_line (s : ByteArray) (n : Int) (h : n < 0 ∨ 1048576 < n) : may (s, n) = false := may_out (by intro hc; simp only at hc; omega)
theorem chk_one {p : Pl} (h : may p = false) : chk [p] = 30 := by unfold chk; simp [h]
theorem chk_one_ok {p : Pl} (h : may p = true) : chk [p] = 0 := by unfold chk; simp [h]
/-- The row of a literal of one place. -/
theorem at_one (w : World) (s : ByteArray) (n : Int) : At (w.alloc (.cells #[.string s, .int .i64 n] 24)) (some ⟨w.heap.size, 0, none⟩) [(s, n)] := fun i p hp => by
  cases i with
  | zero =>
    simp at hp
    subst hp
    exact ⟨w.heap.size, 0, rfl, by simp, by simp⟩
  | succ i => simp at hp
theorem check_one (s : ByteArray) (n : Int) (e0 : Int) (w : World) (he : chk [(s, n)] = e0) : Calls Try.prog 12 #[.slice (some ⟨w.heap.size, 0, none⟩) 1 1] (w.alloc (.cells #[.string s, .int .i64 n] 24)) fun e w' => e = .returned (.int .i64 e0) ∧ Below w.heap.size w w' := by
  have h := check_any (some ⟨w.heap.size, 0, none⟩) 1 [(s, n)] (w.alloc (.cells #[.string s, .int .i64 n] 24)) (at_one w s n) (by simp)
  rw [he] at h
  exact h.mono fun e w' ⟨h1, h2⟩ => ⟨h1, ((Below.refl _ w).alloc (Nat.le_refl _) _).trans (h2.mono (by simp))⟩
end Go.Proofs.Ytfhnhilnjcfpkaa
