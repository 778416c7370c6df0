/-
  The kinds' rows, cell by cell, out of the row's list.
-/
import Derived.Test.YtkcicddbobpegaaDoorCards
import Derived.Test.YtkcicddbobpegaaDoorTie
import Derived.Lib.LaidIn
import Derived.Lib.LaidTab
import Derived.PinnedBridge
import Derived.Deep.DeepHandedRow
import Derived.Deep.DeepWitnessRowRef
import Derived.Deep.Strs
import Derived.SizedLaws
import Derived.WalkKit
import Derived.ProofKit
import Derived.OpenShut
import Derived.IntWalk
import Derived.Lib.Hide
import Derived.BigQuiet
import Derived.Deep.QuietTactic
import Derived.Lib.SliceRun
namespace Go.Proofs.YtkcicddbobpegaaDoor
open Go.ChangeShapes Go.WideShapes Go.ChangeAt Go.RowKit
set_option linter.unusedVariables false

/-- An array of structs of a byte, a Bool and a number, as it reads, cell for cell. -/
theorem rows_trod {H : Type} {enc : TypeId × Value → H} {P : Program} {w : World} {base : Nat} {sp : Nat → Bool} {held : Bool} {fuel : Nat} {tA tE : TypeId} {f0 f1 f2 : Field} {n : Nat} {cs : List Value} {l : List (Int × Bool × Int)} {p : List MemPlace}
    (hA : P.underlying tA = some (.array n tE)) (hE : P.underlying tE = some (.struct #[f0, f1, f2])) (h0 : P.underlying f0.type = some (.int .u8)) (h1 : P.underlying f1.type = some .bool) (h2 : P.underlying f2.type = some (.int .i64))
    (o0 : f0.offset = 0) (o1 : f1.offset = 1) (o2 : f2.offset = 2) (c : P.cellsOf tE = 3) (c0 : P.cellsOf f0.type = 1) (c1 : P.cellsOf f1.type = 1) (c2 : P.cellsOf f2.type = 1)
    (h : DataW.trod enc P w base sp held fuel tA cs = some (.agg (l.map fun r => .agg [.lit (.int .u8 r.1), .lit (.bool r.2.1), .lit (.int .i64 r.2.2)]), p)) (i : Nat) (r : Int × Bool × Int) (hr : l[i]? = some r) :
    cs[i * 3]? = some (.int .u8 r.1) ∧ cs[i * 3 + 1]? = some (.bool r.2.1) ∧ cs[i * 3 + 2]? = some (.int .i64 r.2.2) := by
  obtain ⟨xs, m, _, hx, hl, hlen, hf⟩ := DataW.trod_array hA h
  simp only [Prod.mk.injEq, DataW.agg.injEq] at hx
  obtain ⟨hx, _⟩ := hx
  have hi : i < n := by
    have h3 := congrArg List.length hx
    simp at h3
    have := (List.getElem?_eq_some_iff.1 hr).1
    omega
  have h4 := congrArg (·[i]?) hx
  simp only [List.getElem?_map, hr, Option.map_some] at h4
  obtain ⟨x, hxi, hx1⟩ := Option.map_eq_some_iff.1 h4.symm
  have h5 := hf i hi
  rw [hxi, c] at h5
  obtain ⟨y0, y1, y2, k, rfl, _, t0, t1, t2⟩ := Deep.trod_struct3 hE h5
  simp only [DataW.agg.injEq, List.cons.injEq, and_true] at hx1
  obtain ⟨e0, e1, e2⟩ := hx1
  obtain ⟨n0, hc0, rfl, _⟩ := DataW.trod_int h0 t0
  obtain ⟨b1, hc1, rfl⟩ := DataW.trod_bool h1 t1
  obtain ⟨n2, hc2, rfl, _⟩ := DataW.trod_int h2 t2
  simp only [DataW.lit.injEq, Lit.int.injEq, Lit.bool.injEq, true_and] at e0 e1 e2
  subst e0 e1 e2
  rw [o0, c0] at hc0
  rw [o1, c1] at hc1
  rw [o2, c2] at hc2
  have g0 := congrArg (·[0]?) hc0
  have g1 := congrArg (·[0]?) hc1
  have g2 := congrArg (·[0]?) hc2
  simp [List.getElem?_drop] at g0 g1 g2
  exact ⟨g0, g1, g2⟩

/-- The rows of the kinds: fields, nothing, most. -/
def rws : List (Int × Bool × Int) := [(0, false, 0), (2, false, 0), (1, false, 0), (8, false, 0), (24, false, 0), (1, false, 0), (130, true, 0), (33, true, 0), (0, true, 0), (1, true, 0), (33, true, 0), (3, false, 0), (129, false, 0), (1, false, 1), (1, true, 1), (1, false, 1), (0, true, 64), (32, false, 1), (2, false, 1), (10, false, 0), (0, false, 1), (33, true, 0), (3, true, 0), (0, true, 0), (33, true, 0), (3, false, 1), (193, true, 64)]
theorem own : ownKnob Tryd.prog.godebug = none := by kernel_rfl
theorem gRows : Tryd.prog.globalNamed "errata/kinds.rows" = some 0 := by kernel_rfl
theorem gRowsT : (Tryd.prog.globals[0]?).map (·.type) = some 46 := by kernel_rfl
theorem cells46 : Tryd.prog.cellsOf 46 = 81 := by kernel_rfl
theorem cells45 : Tryd.prog.cellsOf 45 = 3 := by kernel_rfl
theorem cells5 : Tryd.prog.cellsOf 5 = 1 := by kernel_rfl
theorem cells4 : Tryd.prog.cellsOf 4 = 1 := by kernel_rfl
theorem cells3 : Tryd.prog.cellsOf 3 = 1 := by kernel_rfl
theorem rows_eq : (Rows.laid_errata_kinds_rows : DataW Unit) = .agg (rws.map fun r => .agg [.lit (.int .u8 r.1), .lit (.bool r.2.1), .lit (.int .i64 r.2.2)]) := by kernel_rfl

/-- The rows lie as the list says. -/
def Kd (W : World) : Prop := ∀ (i : Nat) (r : Int × Bool × Int), rws[i]? = some r → W.cell? ⟨0, i * 3, none⟩ = some (.int .u8 r.1) ∧ W.cell? ⟨0, i * 3 + 1, none⟩ = some (.bool r.2.1) ∧ W.cell? ⟨0, i * 3 + 2, none⟩ = some (.int .i64 r.2.2)
theorem kd {W : World} (hL : laidMetH Tryd.prog Rows.kindsNamesRow.laid W) : Kd W := by
  have h : laidMet Tryd.prog Rows.kindsNamesRow.laid W := hL
  unfold Rows.kindsNamesRow at h
  simp only [rows_eq] at h
  obtain ⟨ps, ⟨g', t', cs, fuel, p, q, hg', ht', hvar, hd, _, _⟩, _⟩ := h
  obtain rfl := Option.some.inj (gRows.symm.trans hg')
  obtain rfl := Option.some.inj (gRowsT.symm.trans ht')
  intro i r hr
  have := rows_trod Tryd.underlying46 Tryd.underlying45 Tryd.underlying5 Tryd.underlying4 Tryd.underlying3 rfl rfl rfl cells45 cells5 cells4 cells3 hd i r hr
  simp only [Array.getElem?_toList] at this
  exact ⟨(World.var?_cell gRows hvar _).trans this.1, (World.var?_cell gRows hvar _).trans this.2.1, (World.var?_cell gRows hvar _).trans this.2.2⟩
theorem Kd.lt {W : World} (h : Kd W) : 0 < W.heap.size := World.block_lt_of_cell? W _ (h 1 _ rfl).1
theorem Kd.below {W W' : World} (h : Kd W) (hb : Below W.heap.size W W') : Kd W' := fun i r hr => by
  obtain ⟨a, b, c⟩ := h i r hr
  exact ⟨(hb.cell (p := ⟨0, _, none⟩) h.lt).trans a, (hb.cell (p := ⟨0, _, none⟩) h.lt).trans b, (hb.cell (p := ⟨0, _, none⟩) h.lt).trans c⟩
end Go.Proofs.YtkcicddbobpegaaDoor
