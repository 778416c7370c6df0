/-
  The closed values that works asks for.
-/
import Derived.Test.YtdfhpblceoaofaaDoorCT
import Derived.Test.YtdfhpblceoaofaaDoorFR
import Derived.KernelRfl
namespace Go.Proofs.YtdfhpblceoaofaaDoor
open Go.ChangeShapes Go.WideShapes Go.ChangeAt Go.RowKit Go.Shelf
set_option linter.unusedVariables false
set_option maxRecDepth 100000

theorem val_quote : qtA ⟨#[97, 10, 255, 92, 34]⟩ = [34, 97, 92, 120, 48, 97, 92, 120, 102, 102, 92, 92, 92, 34, 34] := by decide +kernel
theorem val_width : wsum (LS ⟨#[97, 10, 255, 92, 34]⟩ 0) = 12 := by decide +kernel
theorem val_show : shL ⟨#[255]⟩ (LS ⟨#[255]⟩ 0) = [92, 120, 102, 102] := by decide +kernel
theorem val_cut : (fitP ⟨#[97, 98, 255]⟩ 5).1 = 2 := by decide +kernel
theorem val_breaks : (bks (G ⟨#[255]⟩ 0)).length = 1 := by decide +kernel
theorem val_lines : (WrL ⟨#[116, 111, 32, 98, 101, 32, 32, 111, 114, 32, 110, 111, 116]⟩ 5).map (fun x => x.data.toList) = [[116, 111, 32, 98, 101], [111, 114], [110, 111, 116]] := by decide +kernel
end Go.Proofs.YtdfhpblceoaofaaDoor
