/-
  The contract of writeShown.
-/
import Derived.Test.YtdfhpblceoaofaaDoorW
namespace Go.Proofs.YtdfhpblceoaofaaDoor
open Go.ChangeShapes Go.WideShapes Go.ChangeAt Go.RowKit Go.Shelf
set_option linter.unusedVariables false

def hexd (n : Nat) : UInt8 := [48, 49, 50, 51, 52, 53, 54, 55, 56, 57, 97, 98, 99, 100, 101, 102].getD n 0
/-- What writeShown writes. -/
def shB (r : Int) (c : UInt8) : List UInt8 := if inDig r then [92, 120, hexd (c.toNat / 16), hexd (c.toNat % 16)] else if r = 92 then [92, 92] else Lib.encodeRune r

theorem hex_at : ∀ n (h : n < 16), (({ data := #[48, 49, 50, 51, 52, 53, 54, 55, 56, 57, 97, 98, 99, 100, 101, 102] } : ByteArray)[n]'h) = hexd n := by decide

set_option maxRecDepth 100000 in
set_option maxHeartbeats 4000000 in
theorem shown_dig (B b : Nat) (bs : List Value) (r : Int) (c : UInt8) (w : World) (h : Lib.IsBuilderF 57 5 B b bs w) (hlen : bs.length + 16 ≤ 140737488355328) (hBw : B ≤ w.heap.size) (hr : inDig r = true) :
    Calls Tryd.prog 35 #[.pointer (some ⟨b, 0, none⟩), .int .i32 r, .int .u8 (c.toNat : Int)] w fun e w' => e = .returned (.tuple #[]) ∧ (Lib.IsBuilderF 57 5 B b (bs ++ Lib.byteCells (shB r c)) w' ∧ Below B w w' ∧ Lib.OthersKept 5 (some b) w w') := by
  have hc : (c.toNat : Int) ≤ 255 := lt256 c
  have H := Lib.hid hr
  clear hr
  go_enter Tryd.func35, Tryd.ntmps35
  go_wp2_with fail
  refine (inDigits_yes _ _ H.out).mono ?_
  rintro e w1 ⟨rfl, rfl⟩
  go_wp2_with fail
  refine (Tryd.Builder_WriteString_k B b bs _ w h (by show bs.length + 2 ≤ _; omega) hBw).mono ?_
  rintro e w1 ⟨rfl, h1, b1, k1⟩
  have hz1 := b1.size
  have l1 : (bs ++ Lib.strCells ⟨#[92, 120]⟩).length = bs.length + 2 := by rw [List.length_append]; rfl
  have L1 := Lib.hid l1
  clear l1
  have hB1 : B ≤ w1.heap.size := Nat.le_trans hBw hz1
  go_wp2_with fail
  refine (Tryd.Builder_WriteByte_k B b _ _ w1 (.inr h1) (by rw [L1.out]; omega) hB1).mono ?_
  rintro e w2 ⟨rfl, h2, b2, k2⟩
  have hB2 : B ≤ w2.heap.size := Nat.le_trans hB1 b2.size
  go_wp2_with fail
  refine (Tryd.Builder_WriteByte_k B b _ _ w2 (.inr h2) (by rw [List.length_append, L1.out]; show bs.length + 2 + 1 + 1 ≤ _; omega) hB2).mono ?_
  rintro e w3 ⟨rfl, h3, b3, k3⟩
  go_wp2
  go_end0
  refine ⟨rfl, ?_, (b1.trans b2).trans b3, (k1.trans k2).trans k3⟩
  have e : bs ++ Lib.strCells ⟨#[92, 120]⟩ ++ [Value.int .u8 (({ data := #[48, 49, 50, 51, 52, 53, 54, 55, 56, 57, 97, 98, 99, 100, 101, 102] } : ByteArray)[c.toNat / 16]'(by show _ < 16; have := UInt8.toNat_lt c; omega)).toNat] ++ [Value.int .u8 (({ data := #[48, 49, 50, 51, 52, 53, 54, 55, 56, 57, 97, 98, 99, 100, 101, 102] } : ByteArray)[c.toNat % 16]'(by show _ < 16; omega)).toNat] = bs ++ Lib.byteCells (shB r c) := by
    have hs : shB r c = [92, 120, hexd (c.toNat / 16), hexd (c.toNat % 16)] := by unfold shB; rw [H.out]; rfl
    rw [hs, ← hex_at _ (by have := UInt8.toNat_lt c; omega), ← hex_at _ (by omega)]
    simp [Lib.byteCells, Lib.strCells]
  rw [← e]
  exact .inr h3

set_option maxRecDepth 100000 in
set_option maxHeartbeats 4000000 in
theorem shown_rune (B b : Nat) (bs : List Value) (r : Int) (c : UInt8) (w : World) (h : Lib.IsBuilderF 57 5 B b bs w) (hlen : bs.length + 16 ≤ 140737488355328) (hBw : B ≤ w.heap.size) (hr : inDig r = false) (hr1 : r ≤ 1114111) :
    Calls Tryd.prog 35 #[.pointer (some ⟨b, 0, none⟩), .int .i32 r, .int .u8 (c.toNat : Int)] w fun e w' => e = .returned (.tuple #[]) ∧ (Lib.IsBuilderF 57 5 B b (bs ++ Lib.byteCells (shB r c)) w' ∧ Below B w w' ∧ Lib.OthersKept 5 (some b) w w') := by
  have hr0 : 0 ≤ r := by have := of_decide_eq_false hr; omega
  have H := Lib.hid hr
  clear hr
  by_cases h9 : r = 92
  · subst h9
    go_enter Tryd.func35, Tryd.ntmps35
    go_wp2_with fail
    refine (inDigits_no _ _ H.out).mono ?_
    rintro e w1 ⟨rfl, rfl⟩
    go_wp2_with fail
    refine (Tryd.Builder_WriteString_k B b bs _ w h (by show bs.length + 2 ≤ _; omega) hBw).mono ?_
    rintro e w1 ⟨rfl, h1, b1, k1⟩
    go_wp2
    go_end0
    have hs : shB 92 c = [92, 92] := by unfold shB; rw [H.out]; rfl
    exact ⟨rfl, by rw [hs]; exact .inr h1, b1, k1⟩
  · have e9 : (r == 92) = false := by simpa using h9
    have H9 := Lib.hid h9
    clear h9
    go_enter Tryd.func35, Tryd.ntmps35
    go_wp2_with fail
    refine (inDigits_no _ _ H.out).mono ?_
    rintro e w1 ⟨rfl, rfl⟩
    go_wp2_with fail
    refine (Tryd.Builder_WriteRune_k B b bs r (by omega) (by omega) w h (by omega) hBw).mono ?_
    rintro e w1 ⟨rfl, h1, b1, k1⟩
    go_wp2
    go_end0
    have hs : shB r c = Lib.encodeRune r := by unfold shB; rw [H.out, if_neg (by simp), if_neg H9.out]
    exact ⟨rfl, by rw [hs, Lib.byteCells_encodeRune]; exact .inr h1, b1, k1⟩

theorem writeShown_any (B b : Nat) (bs : List Value) (r : Int) (c : UInt8) (w : World) (h : Lib.IsBuilderF 57 5 B b bs w) (hlen : bs.length + 16 ≤ 140737488355328) (hBw : B ≤ w.heap.size) (hr1 : r ≤ 1114111) :
    Calls Tryd.prog 35 #[.pointer (some ⟨b, 0, none⟩), .int .i32 r, .int .u8 (c.toNat : Int)] w fun e w' => e = .returned (.tuple #[]) ∧ (Lib.IsBuilderF 57 5 B b (bs ++ Lib.byteCells (shB r c)) w' ∧ Below B w w' ∧ Lib.OthersKept 5 (some b) w w') := by
  cases hr : inDig r
  · exact shown_rune B b bs r c w h hlen hBw hr hr1
  · exact shown_dig B b bs r c w h hlen hBw hr
end Go.Proofs.YtdfhpblceoaofaaDoor
