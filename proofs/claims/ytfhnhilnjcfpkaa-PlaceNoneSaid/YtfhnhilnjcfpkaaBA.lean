/-
  Carried from another seat.
-/
import Derived.Test.YtfhnhilnjcfpkaaK
import Derived.Laws.IdiomStrings
import Derived.Test.YtfhnhilnjcfpkaaUC
import Derived.Deep.RegionLaw
import Derived.Deep.DrawnRows
import Derived.IntWalk
/-
  fit: places that may be, made of any.
-/
namespace Go.Proofs.Ytfhnhilnjcfpkaa
open Go.ChangeShapes Go.WideShapes Go.ChangeAt Go.RowKit Go.Shelf
set_option linter.unusedVariables false
def cB (c : UInt8) : Value := .int .u8 (c.toNat : Int)
theorem info5 : (Try.prog.info? 5).map (fun i => (i.zero, i.size, i.bytes)) = some (some (.int .u8 0), 1, 1) := by kernel_rfl
theorem conv_row {w : World} {B g c : Nat} {bs : List UInt8} (h : w.ownsRow B 5 1 (.slice (some ⟨g, 0, none⟩) bs.length c) bs.length (bs.map cB)) : (convert 38 9 (.slice (some ⟨g, 0, none⟩) bs.length c)).run Try.prog w = .ok (.string (bts bs)) w :=
  run_convert_bytes_back w 38 9 5 ⟨g, 0, none⟩ c bs Try.underlying38 Try.underlying5 Try.underlying9 (fun j hj => by
    have := h.cells (g := g) rfl j (cB bs[j]) (by rw [List.getElem?_map, List.getElem?_eq_getElem hj]; rfl)
    exact this)
end Go.Proofs.Ytfhnhilnjcfpkaa
