/-
  What the row's list gives.
-/
import Derived.Test.YtndkmcpjlakigaaDoorO
import Derived.Test.YtndkmcpjlakigaaDoorCards
import Derived.Lib.LaidU8
import Derived.Lib.LaidTab
import Derived.OpenShut
namespace Go.Proofs.YtndkmcpjlakigaaDoor
open Go.ChangeShapes Go.WideShapes Go.ChangeAt Go.RowKit Go.Sort
set_option linter.unusedVariables false

set_option maxRecDepth 100000 in
theorem pow_eq : (Rows.laid_internal_strconv_uint64pow10 : DataW Unit) = Lib.tabData .u64 Lib.pow10Tab := by kernel_rfl

set_option maxRecDepth 100000 in
theorem pow_tab {W : World} (hL : laidMet Tryd.prog Rows.valueNamesRow.laid W) : Lib.TabIs Tryd.prog W "internal/strconv.uint64pow10" .u64 Lib.pow10Tab := by
  have hr : Lib.VarReads Tryd.prog W "internal/strconv.uint64pow10" (Rows.laid_internal_strconv_uint64pow10 : DataW Unit) := Lib.laidMet.reads hL (.tail _ (.tail _ (.tail _ (.head _))))
  rw [pow_eq] at hr
  obtain ⟨g, t, cs, fuel, p, hg, ht, hv, hd⟩ := hr
  obtain rfl := Option.some.inj ((show Tryd.prog.globalNamed "internal/strconv.uint64pow10" = some 2 by kernel_rfl).symm.trans hg)
  obtain rfl := Option.some.inj ((show (Tryd.prog.globals[2]?).map (·.type) = some 90 by kernel_rfl).symm.trans ht)
  unfold Lib.TabIs
  rw [hv, ← Lib.cells_of_tab Tryd.underlying90 Tryd.underlying44 (by kernel_rfl) (by kernel_rfl) hd]

set_option maxRecDepth 100000 in
/-- A row of the table of the powers of ten. -/
theorem ten_cells {W : World} (hL : laidMet Tryd.prog Rows.valueNamesRow.laid W) (r : Nat) (hr : r < 696) (a b : Nat) (hab : Go.Pinned.pow10Rows[r]? = some (a, b)) : W.cell? ⟨4, 2 * r, none⟩ = some (.int .u64 a) ∧ W.cell? ⟨4, 2 * r + 1, none⟩ = some (.int .u64 b) := by
  have hrd : Lib.VarReads Tryd.prog W "internal/strconv.pow10Tab" Go.Pinned.pow10Tab := Lib.laidMet.reads hL (.tail _ (.tail _ (.tail _ (.tail _ (.tail _ (.head _))))))
  obtain ⟨g, t, cs, fuel, p, hg, ht, hv, hd⟩ := hrd
  have hn : Tryd.prog.globalNamed "internal/strconv.pow10Tab" = some 4 := by kernel_rfl
  obtain rfl := Option.some.inj (hn.symm.trans hg)
  obtain rfl := Option.some.inj ((show (Tryd.prog.globals[4]?).map (·.type) = some 100 by kernel_rfl).symm.trans ht)
  obtain ⟨xs, m, _, ex, _, hl, hel⟩ := DataW.trod_array Tryd.underlying100 hd
  have c99 : Tryd.prog.cellsOf 99 = 2 := by kernel_rfl
  have c44 : Tryd.prog.cellsOf 44 = 1 := by kernel_rfl
  have hE := hel r hr
  rw [c99, List.getElem?_eq_getElem (by omega)] at hE
  obtain ⟨ys, m2, _, ey, hlen, hl2, hel2⟩ := DataW.trod_struct Tryd.underlying99 hE
  have hl2' : ys.length = 2 := hl2
  have h0 := hel2 0 _ rfl
  have h1 := hel2 1 _ rfl
  change DataW.trod _ _ _ _ _ _ _ 44 (List.take (Tryd.prog.cellsOf 44) (List.drop 0 _)) = _ at h0
  change DataW.trod _ _ _ _ _ _ _ 44 (List.take (Tryd.prog.cellsOf 44) (List.drop 1 _)) = _ at h1
  rw [c44] at h0 h1
  rw [List.getElem?_eq_getElem (by omega)] at h0 h1
  obtain ⟨z0, e0, x0, _⟩ := DataW.trod_int Tryd.underlying44 h0
  obtain ⟨z1, e1, x1, _⟩ := DataW.trod_int Tryd.underlying44 h1
  have e3 : xs.map (·.1) = Go.Pinned.pow10Rows.map fun x => (DataW.agg [.lit (.int .u64 x.1), .lit (.int .u64 x.2)] : DataW Unit) := (DataW.agg.inj (Prod.mk.inj ex).1).symm
  have e4 : (xs.map (·.1))[r]? = some (DataW.agg [.lit (.int .u64 a), .lit (.int .u64 b)] : DataW Unit) := by rw [e3, List.getElem?_map, hab]; rfl
  rw [List.getElem?_map, List.getElem?_eq_getElem (by omega : r < xs.length)] at e4
  have e5 : ys.map (·.1) = [DataW.lit (.int .u64 a), DataW.lit (.int .u64 b)] := by
    have h := Option.some.inj e4
    rw [ey] at h
    exact DataW.agg.inj h
  have y0 : (ys[0]'(by omega)).1 = DataW.lit (.int .u64 (a : Int)) := by
    have := congrArg (·[0]?) e5
    simpa [List.getElem?_map, List.getElem?_eq_getElem (show 0 < ys.length by omega)] using this
  have y1 : (ys[1]'(by omega)).1 = DataW.lit (.int .u64 (b : Int)) := by
    have := congrArg (·[1]?) e5
    simpa [List.getElem?_map, List.getElem?_eq_getElem (show 1 < ys.length by omega)] using this
  rw [x0] at y0
  rw [x1] at y1
  obtain rfl : z0 = (a : Int) := by simpa using y0
  obtain rfl : z1 = (b : Int) := by simpa using y1
  rw [World.var?_cell hn hv, World.var?_cell hn hv]
  constructor
  · have h := congrArg (·[0]?) e0
    simp [List.getElem?_drop] at h
    rw [Nat.mul_comm]
    simpa using h
  · have h := congrArg (·[0]?) e1
    simp [List.getElem?_drop] at h
    rw [Nat.mul_comm]
    simpa using h
theorem row_f : Go.Pinned.pow10Rows[359]? = some (13421772800000000000, 0) := by decide +kernel
theorem row_e : Go.Pinned.pow10Rows[358]? = some (10737418240000000000, 0) := by decide +kernel
end Go.Proofs.YtndkmcpjlakigaaDoor
