/-
  The two texts.
-/
import Derived.Test.YtndkmcpjlakigaaDoorFE
import Derived.Test.YtndkmcpjlakigaaDoorG
namespace Go.Proofs.YtndkmcpjlakigaaDoor
open Go.ChangeShapes Go.WideShapes Go.ChangeAt Go.RowKit Go.Sort
set_option linter.unusedVariables false

set_option maxRecDepth 100000 in
theorem seven (b : Nat) (t : ByteArray) (w : World) (h : Calls Tryd.prog 12 #[.float .f64 b, .int .u8 103, .int .i64 (-1), .int .i64 64] w fun e w' => e = .returned (.string t) ∧ Below w.heap.size w w') :
    Calls Tryd.prog 7 #[.float .f64 b, .int .u8 103, .int .i64 (-1), .int .i64 64] w fun e w' => e = .returned (.string t) ∧ Below w.heap.size w w' := by
  have H12 := Lib.hid h
  clear h
  go_enter Tryd.func7, Tryd.ntmps7
  go_wp2_with (go_at_call 12; (with_reducible refine H12.out.mono ?_); rintro e w2 ⟨rfl, hb⟩)
  go_ret
  exact ⟨rfl, hb⟩

set_option maxRecDepth 100000 in
set_option maxHeartbeats 4000000 in
theorem float_f (w : World) (htab : Lib.TabIs Tryd.prog w "internal/strconv.uint64pow10" .u64 Lib.pow10Tab) (h0 : w.cell? ⟨4, 718, none⟩ = some (.int .u64 13421772800000000000)) (h1 : w.cell? ⟨4, 719, none⟩ = some (.int .u64 0)) :
    Calls Tryd.prog 5 #[.float .f64 4681608360884174848] w fun e w' => e = .returned (.string ⟨#[49, 48, 48, 48, 48, 48, 46, 48]⟩) ∧ Below w.heap.size w w' := by
  have H12 := Lib.hid (seven _ _ _ (ff_f w htab h0 h1))
  clear htab h0 h1
  go_enter Tryd.func5, Tryd.ntmps5
  go_wp2_with (first
    | (go_at_call 7; (with_reducible refine H12.out.mono ?_); rintro e w2 ⟨rfl, hb⟩)
    | (go_at_call 8; (with_reducible refine (nan_no _ (Or.inl rfl) _).mono ?_); rintro e w3 ⟨rfl, rfl⟩)
    | (go_at_call 9; (with_reducible refine (inf_no _ (Or.inl rfl) _).mono ?_); rintro e w3 ⟨rfl, rfl⟩)
    | (go_at_call 10; (with_reducible refine (has_f _).mono ?_); rintro e w3 ⟨rfl, hb3⟩))
  go_ret
  exact ⟨by kernel_rfl, hb.trans (hb3.mono hb.size)⟩

set_option maxRecDepth 100000 in
set_option maxHeartbeats 4000000 in
theorem float_e (w : World) (htab : Lib.TabIs Tryd.prog w "internal/strconv.uint64pow10" .u64 Lib.pow10Tab) (h0 : w.cell? ⟨4, 716, none⟩ = some (.int .u64 10737418240000000000)) (h1 : w.cell? ⟨4, 717, none⟩ = some (.int .u64 0)) :
    Calls Tryd.prog 5 #[.float .f64 4696837146684686336] w fun e w' => e = .returned (.string ⟨#[49, 101, 43, 48, 54]⟩) ∧ Below w.heap.size w w' := by
  have H12 := Lib.hid (seven _ _ _ (ff_e w htab h0 h1))
  clear htab h0 h1
  go_enter Tryd.func5, Tryd.ntmps5
  go_wp2_with (first
    | (go_at_call 7; (with_reducible refine H12.out.mono ?_); rintro e w2 ⟨rfl, hb⟩)
    | (go_at_call 8; (with_reducible refine (nan_no _ (Or.inr rfl) _).mono ?_); rintro e w3 ⟨rfl, rfl⟩)
    | (go_at_call 9; (with_reducible refine (inf_no _ (Or.inr rfl) _).mono ?_); rintro e w3 ⟨rfl, rfl⟩)
    | (go_at_call 10; (with_reducible refine (has_e _).mono ?_); rintro e w3 ⟨rfl, hb3⟩))
  go_ret
  exact ⟨by kernel_rfl, hb.trans (hb3.mono hb.size)⟩
end Go.Proofs.YtndkmcpjlakigaaDoor
