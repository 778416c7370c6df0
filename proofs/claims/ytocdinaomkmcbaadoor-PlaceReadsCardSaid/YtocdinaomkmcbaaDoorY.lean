/-
  What the rows' list gives; a world for the witness.
-/
import Derived.Test.YtocdinaomkmcbaaDoorCards
import Derived.Test.YtocdinaomkmcbaaDoorTie
import Derived.Test.YtocdinaomkmcbaaDoorX
import Derived.Lib.LaidIn
import Derived.Lib.LaidTab
import Derived.Lib.LaidU8T
import Derived.Stop.LaidErr
import Derived.PinnedBridge
import Derived.Deep.DeepHandedRow
import Derived.Deep.DeepWitnessRowRef
import Derived.Deep.SlicePairs
import Derived.Deep.Strs
import Derived.SizedLaws
import Derived.ProofKit
import Derived.ShutString
namespace Go.Proofs.YtocdinaomkmcbaaDoor
open Go.ChangeShapes Go.WideShapes Go.ChangeAt Go.RowKit Go.Shelf
set_option linter.unusedVariables false

theorem own : ownKnob Tryd.prog.godebug = none := by kernel_rfl
theorem gES : Tryd.prog.globalNamed "strconv.ErrSyntax" = some 3 := by kernel_rfl
theorem gER : Tryd.prog.globalNamed "strconv.ErrRange" = some 4 := by kernel_rfl
theorem gPT : Tryd.prog.globalNamed "internal/strconv.uint64pow10" = some 5 := by kernel_rfl
theorem gEST : (Tryd.prog.globals[3]?).map (·.type) = some 98 := by kernel_rfl
theorem gERT : (Tryd.prog.globals[4]?).map (·.type) = some 98 := by kernel_rfl
theorem gPTT : (Tryd.prog.globals[5]?).map (·.type) = some 189 := by kernel_rfl
theorem cells198 : Tryd.prog.cellsOf 198 = 1 := by kernel_rfl
theorem cells9 : Tryd.prog.cellsOf 9 = 1 := by kernel_rfl
theorem cells3 : Tryd.prog.cellsOf 3 = 1 := by kernel_rfl
theorem cells104 : Tryd.prog.cellsOf 104 = 2 := by kernel_rfl
theorem cells173 : Tryd.prog.cellsOf 173 = 1 := by kernel_rfl
theorem cells189 : Tryd.prog.cellsOf 189 = 20 := by kernel_rfl
theorem bytes104 : Tryd.prog.bytesOf 104 = 24 := by kernel_rfl
theorem bytes9 : Tryd.prog.bytesOf 9 = 16 := by kernel_rfl
theorem star : "*" ++ "errors.errorString" = "*errors.errorString" := by decide
theorem row196 (u : TypeId) (h : Tryd.prog.typeName? 3 u = some "*errors.errorString") : u = 196 :=
  typeName_ptr_named (nm := "errors.errorString") (by rw [star]; kernel_rfl) (by kernel_rfl) (by decide) u (by rw [star]; exact h)
theorem pow_eq : (Rows.laid_internal_strconv_uint64pow10 : DataW Unit) = Lib.tabData .u64 Lib.pow10Tab := by kernel_rfl

/-- What the row's list gives. -/
theorem env {W : World} (hL : laidMetH Tryd.prog Rows.placeTrimsRow.laid W) (hsh : W.ShapedOpen Tryd.prog) : Env W ∧ 3 ≤ W.heap.size := by
  have h : laidMet Tryd.prog Rows.placeTrimsRow.laid W := hL
  unfold Rows.placeTrimsRow at h
  simp only [pow_eq] at h
  obtain ⟨a1, s1, v1, _⟩ := laid_sentinel h.tail.tail.tail.tail gER gERT Tryd.underlying98 row196 Tryd.underlying196 Tryd.underlying198 rfl rfl Tryd.underlying9 cells198 cells9
  obtain ⟨a2, s2, v2, _⟩ := laid_sentinel h.tail.tail.tail.tail.tail gES gEST Tryd.underlying98 row196 Tryd.underlying196 Tryd.underlying198 rfl rfl Tryd.underlying9 cells198 cells9
  obtain ⟨m, hm⟩ : ∃ m, W.cell? ⟨2, 0, none⟩ = some (.int .i64 m) := Tryd.laysM143.s1_3 W hsh
  exact ⟨⟨Lib.tabIs_of_head gPT gPTT Tryd.underlying189 Tryd.underlying173 cells173 cells189 h.tail.tail, ⟨m, hm⟩,
    ⟨_, by simpa using World.var?_cell gES v2 0, .inr ⟨_, _, rfl⟩⟩, ⟨_, by simpa using World.var?_cell gER v1 0, .inr ⟨_, _, rfl⟩⟩⟩, World.block_lt_of_cell? W _ hm⟩

abbrev synS : ByteArray := { data := #[105, 110, 118, 97, 108, 105, 100, 32, 115, 121, 110, 116, 97, 120] }
abbrev rngS : ByteArray := { data := #[118, 97, 108, 117, 101, 32, 111, 117, 116, 32, 111, 102, 32, 114, 97, 110, 103, 101] }
noncomputable def low : Nat := (World.holding Tryd.prog default ⟨#[], #[], []⟩).heap.size
def br32 : List Int := [0, 1, 28, 2, 29, 14, 24, 3, 30, 22, 20, 15, 25, 17, 4, 8, 31, 27, 13, 23, 21, 19, 16, 7, 26, 12, 18, 6, 11, 5, 10, 9]
def br64 : List Int := [0, 1, 56, 2, 57, 49, 28, 3, 61, 58, 42, 50, 38, 29, 17, 4, 62, 47, 59, 36, 45, 43, 51, 22, 53, 39, 33, 30, 24, 18, 12, 5, 63, 55, 48, 27, 60, 41, 37, 16, 46, 35, 44, 21, 52, 32, 23, 11, 54, 26, 40, 15, 34, 20, 31, 10, 25, 14, 19, 9, 13, 8, 7, 6]
/-- A world in which all that the list names lies as it is laid. -/
noncomputable def laidWorld (os : Os) : World :=
  let w0 := World.holding Tryd.prog os ⟨#[.cells #[.string synS] 198, .cells #[.string rngS] 198], #[], []⟩
  let put (h : Array Obj) (g : Nat) (cs : Array Value) : Array Obj := h.modify g fun
    | .cells _ t frozen => .cells cs t frozen
    | o => o
  let h1 := put w0.heap 0 (Lib.firstTab.map fun z => Value.int .u8 z).toArray
  let h2 := put h1 1 ((List.range 16).flatMap fun i => [Value.int .u8 (Lib.accLo i), Value.int .u8 (Lib.accHi i)]).toArray
  let h3 := put h2 3 #[.iface 196 (.pointer (some ⟨low, 0, none⟩))]
  let h4 := put h3 4 #[.iface 196 (.pointer (some ⟨low + 1, 0, none⟩))]
  let h5 := put h4 5 (Lib.pow10Tab.map fun z => Value.int .u64 z).toArray
  let h6 := put h5 6 (br32.map fun z => Value.int .u8 z).toArray
  let h7 := put h6 7 (br64.map fun z => Value.int .u8 z).toArray
  { w0 with heap := h7 }
set_option maxRecDepth 100000 in
theorem laid_met (os : Os) (args : Array Value) : laidMet Tryd.prog Rows.placeTrimsRow.laid ((laidWorld os).forCall (fun _ _ => 0) ⟨#[], args, []⟩).memory :=
  (LaidIn.of_run (l := Rows.placeTrimsRow.laid) [6, 7, 5, 1, 4, low + 1, 3, low, 0] 8 (by kernel_rfl) (by kernel_rfl) (by kernel_rfl) (by kernel_rfl)).met
/-- No parameter wants a stand-in; the program looks by itself. -/
theorem plain_of {nm : String} {g : FuncId} {fg : Func} (h1 : Tryd.prog.funcNamed nm = some g) (h2 : Tryd.prog.funcs[g]? = some fg) (h3 : fg.params.all (fun t => !(Tryd.prog.wantsStandIn t)) = true) (f : FuncId) (fn : Func) (hf : Tryd.pinned.checked.prog.funcNamed nm = some f) (hfn : Tryd.pinned.checked.prog.funcs[f]? = some fn) :
    true = Tryd.pinned.checked.prog.looks [] ∧ ∀ (j : Nat) t, fn.params[j]? = some t → Tryd.pinned.checked.prog.wantsStandIn t = false := by
  obtain rfl : g = f := Option.some.inj (h1.symm.trans hf)
  obtain rfl : fg = fn := Option.some.inj (h2.symm.trans hfn)
  refine ⟨by kernel_rfl, fun j t ht => ?_⟩
  have := Array.all_eq_true'.1 h3 t (Array.mem_of_getElem? ht)
  show Tryd.prog.wantsStandIn t = false
  simpa using this
end Go.Proofs.YtocdinaomkmcbaaDoor
