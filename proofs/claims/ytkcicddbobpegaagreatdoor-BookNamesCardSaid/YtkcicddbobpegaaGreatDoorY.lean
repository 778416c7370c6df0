/-
  A world for the witness of the rows of this seat that list the library's tables.
-/
import Derived.Test.YtkcicddbobpegaaGreatDoorCards
import Derived.Test.YtkcicddbobpegaaGreatDoorTie
import Derived.Lay
import Derived.PinnedBridge
import Derived.Deep.DeepHandedRow
import Derived.Deep.DeepWitnessRowRef
import Derived.SizedLaws
import Derived.WalkKit
import Derived.ProofKit
import Derived.OpenShut
namespace Go.Proofs.YtkcicddbobpegaaGreatDoor
open Go.ChangeShapes Go.WideShapes Go.ChangeAt Go.RowKit
set_option linter.unusedVariables false

theorem own : ownKnob Tryz.prog.godebug = none := by kernel_rfl
/-- No parameter wants a stand-in; the program looks by itself. -/
theorem plain_of {nm : String} {g : FuncId} {fg : Func} (h1 : Tryz.prog.funcNamed nm = some g) (h2 : Tryz.prog.funcs[g]? = some fg) (h3 : fg.params.all (fun t => !(Tryz.prog.wantsStandIn t)) = true) (f : FuncId) (fn : Func) (hf : Tryz.pinned.checked.prog.funcNamed nm = some f) (hfn : Tryz.pinned.checked.prog.funcs[f]? = some fn) :
    true = Tryz.pinned.checked.prog.looks [] ∧ ∀ (j : Nat) t, fn.params[j]? = some t → Tryz.pinned.checked.prog.wantsStandIn t = false := by
  obtain rfl : g = f := Option.some.inj (h1.symm.trans hf)
  obtain rfl : fg = fn := Option.some.inj (h2.symm.trans hfn)
  refine ⟨by kernel_rfl, fun j t ht => ?_⟩
  have := Array.all_eq_true'.1 h3 t (Array.mem_of_getElem? ht)
  show Tryz.prog.wantsStandIn t = false
  simpa using this
/-- The list of the rows that name the library's tables; a world in which all of it lies as it is laid. -/
noncomputable def lw (os : Os) : World := World.laidAll Tryz.prog os Rows.bookNamesRow.laid
set_option maxRecDepth 100000 in
theorem lw_fits (os : Os) : (World.holding Tryz.prog os ⟨#[], #[], []⟩).layFits Tryz.prog Rows.bookNamesRow.laid [] = true := by kernel_rfl
set_option maxRecDepth 100000 in
theorem lw_ifaces (os : Os) : (World.holding Tryz.prog os ⟨#[], #[], []⟩).layIfaces Tryz.prog Rows.bookNamesRow.laid (World.laidAll Tryz.prog os Rows.bookNamesRow.laid) = true := by kernel_rfl
theorem lw_met (os : Os) (args : Array Value) : laidMet Tryz.prog Rows.bookNamesRow.laid ((lw os).forCall (fun _ _ => 0) ⟨#[], args, []⟩).memory := laidMet_laidAll args (lw_fits os) (lw_ifaces os)
set_option maxRecDepth 100000 in
theorem lw_zip (os : Os) : ((lw os).forCall (fun _ _ => 0) ⟨#[], #[], []⟩).variablesZipB Tryz.prog = true := by kernel_rfl
set_option maxRecDepth 100000 in
theorem lw_heap (os : Os) : ((((lw os).forCall (fun _ _ => 0) ⟨#[], #[], []⟩).heap.toList.drop Tryz.prog.globals.size).take ((begin Tryz.prog (fun _ _ => 0) default).world.heap.size - Tryz.prog.globals.size)) = (begin Tryz.prog (fun _ _ => 0) default).world.heap.toList.drop Tryz.prog.globals.size := by kernel_rfl
theorem lw_shaped (os : Os) : ((lw os).forCall (fun _ _ => 0) ⟨#[], #[], []⟩).Shaped Tryz.prog := World.shaped_of_ZipB (lw_zip os) (lw_heap os)
end Go.Proofs.YtkcicddbobpegaaGreatDoor
