/-
  A world for the witness of the rows of this seat that list the library's tables.
-/
import Derived.Test.YtndkmcpjlakigaaDoorCards
import Derived.Test.YtndkmcpjlakigaaDoorTie
import Derived.Lay
import Derived.PinnedBridge
import Derived.Deep.DeepHandedRow
import Derived.Deep.DeepWitnessRowRef
import Derived.SizedLaws
import Derived.WalkKit
import Derived.ProofKit
import Derived.OpenShut
namespace Go.Proofs.YtndkmcpjlakigaaDoor
open Go.ChangeShapes Go.WideShapes Go.ChangeAt Go.RowKit
set_option linter.unusedVariables false

theorem own : ownKnob Tryd.prog.godebug = none := by kernel_rfl
/-- No parameter wants a stand-in; the program does not look by itself. -/
theorem plain_of {nm : String} {g : FuncId} {fg : Func} (h1 : Tryd.prog.funcNamed nm = some g) (h2 : Tryd.prog.funcs[g]? = some fg) (h3 : fg.params.all (fun t => !(Tryd.prog.wantsStandIn t)) = true) (f : FuncId) (fn : Func) (hf : Tryd.pinned.checked.prog.funcNamed nm = some f) (hfn : Tryd.pinned.checked.prog.funcs[f]? = some fn) :
    false = Tryd.pinned.checked.prog.looks [] ∧ ∀ (j : Nat) t, fn.params[j]? = some t → Tryd.pinned.checked.prog.wantsStandIn t = false := by
  obtain rfl : g = f := Option.some.inj (h1.symm.trans hf)
  obtain rfl : fg = fn := Option.some.inj (h2.symm.trans hfn)
  refine ⟨by kernel_rfl, fun j t ht => ?_⟩
  have := Array.all_eq_true'.1 h3 t (Array.mem_of_getElem? ht)
  show Tryd.prog.wantsStandIn t = false
  simpa using this
/-- The list of the rows that name the library's tables; a world in which all of it lies as it is laid. -/
noncomputable def lw (os : Os) : World := World.laidAll Tryd.prog os Rows.valueNamesRow.laid
set_option maxRecDepth 100000 in
theorem lw_fits (os : Os) : (World.holding Tryd.prog os ⟨#[], #[], []⟩).layFits Tryd.prog Rows.valueNamesRow.laid [] = true := by kernel_rfl
set_option maxRecDepth 100000 in
theorem lw_ifaces (os : Os) : (World.holding Tryd.prog os ⟨#[], #[], []⟩).layIfaces Tryd.prog Rows.valueNamesRow.laid (World.laidAll Tryd.prog os Rows.valueNamesRow.laid) = true := by kernel_rfl
theorem lw_met (os : Os) (args : Array Value) : laidMet Tryd.prog Rows.valueNamesRow.laid ((lw os).forCall (fun _ _ => 0) ⟨#[], args, []⟩).memory := laidMet_laidAll args (lw_fits os) (lw_ifaces os)
set_option maxRecDepth 100000 in
theorem lw_zip (os : Os) : ((lw os).forCall (fun _ _ => 0) ⟨#[], #[], []⟩).variablesZipB Tryd.prog = true := by kernel_rfl
set_option maxRecDepth 100000 in
theorem lw_heap (os : Os) : ((((lw os).forCall (fun _ _ => 0) ⟨#[], #[], []⟩).heap.toList.drop Tryd.prog.globals.size).take ((begin Tryd.prog (fun _ _ => 0) default).world.heap.size - Tryd.prog.globals.size)) = (begin Tryd.prog (fun _ _ => 0) default).world.heap.toList.drop Tryd.prog.globals.size := by kernel_rfl
theorem lw_shaped (os : Os) : ((lw os).forCall (fun _ _ => 0) ⟨#[], #[], []⟩).Shaped Tryd.prog := World.shaped_of_ZipB (lw_zip os) (lw_heap os)
end Go.Proofs.YtndkmcpjlakigaaDoor
