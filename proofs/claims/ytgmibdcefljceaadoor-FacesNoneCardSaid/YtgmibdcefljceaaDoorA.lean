/-
  The faces' names, out of the row's list; a nil book and a new one; the faces, gone through.
-/
import Derived.Test.YtgmibdcefljceaaDoorCards
import Derived.Test.YtgmibdcefljceaaDoorTie
import Derived.Test.YtgmibdcefljceaaDoorLW
import Derived.Lib.LaidIn
import Derived.Lib.LaidTab
import Derived.PinnedBridge
import Derived.Deep.DeepHandedRow
import Derived.Deep.DeepWitnessRowRef
import Derived.Deep.Strs
import Derived.SizedLaws
import Derived.WalkKit
import Derived.ProofKit
import Derived.OpenShut
import Derived.IntWalk
import Derived.Lib.Hide
import Derived.BigQuiet
import Derived.Deep.QuietTactic
import Derived.Lib.SliceRun
namespace Go.Proofs.YtgmibdcefljceaaDoor
open Go.ChangeShapes Go.WideShapes Go.ChangeAt Go.RowKit Go.Shelf
set_option linter.unusedVariables false

theorem own : ownKnob Tryd.prog.godebug = none := by kernel_rfl
theorem gNames : Tryd.prog.globalNamed "errata/faces.names" = some 0 := by kernel_rfl
theorem gNamesT : (Tryd.prog.globals[0]?).map (·.type) = some 60 := by kernel_rfl
theorem cells9 : Tryd.prog.cellsOf 9 = 1 := by kernel_rfl
def nms : List (List UInt8) := [[], [101, 114, 114, 111, 114], [71, 114, 97, 100, 101, 114], [67, 111, 100, 101, 114], [87, 101, 105, 103, 104, 101, 114], [80, 104, 97, 115, 101, 114], [84, 105, 109, 101, 114], [76, 105, 110, 101, 114], [68, 101, 116, 97, 105, 108, 101, 114], [79, 110, 101], [77, 97, 110, 121], [74, 117, 100, 103, 101], [76, 101, 110, 100, 101, 114], [75, 105, 110, 100, 101, 114], [83, 105, 122, 101, 114], [84, 105, 109, 101, 100, 69, 114, 114, 111, 114], [67, 111, 100, 101, 100, 67, 97, 117, 115, 101], [87, 104, 111, 108, 101], [78, 111, 98, 111, 100, 121], [97, 110, 121]]
theorem names_eq : (Rows.laid_errata_faces_names : DataW Unit) = .agg (nms.map fun r => .lit (.string r)) := by kernel_rfl
/-- An array of texts, as it reads, cell for cell. -/
theorem texts_trod {H : Type} {enc : TypeId × Value → H} {P : Program} {w : World} {base : Nat} {sp : Nat → Bool} {held : Bool} {fuel : Nat} {tA tE : TypeId} {n : Nat} {cs : List Value} {l : List (List UInt8)} {p : List MemPlace}
    (hA : P.underlying tA = some (.array n tE)) (hE : P.underlying tE = some .string) (c : P.cellsOf tE = 1)
    (h : DataW.trod enc P w base sp held fuel tA cs = some (.agg (l.map fun r => .lit (.string r)), p)) (i : Nat) (r : List UInt8) (hr : l[i]? = some r) :
    ∃ s : ByteArray, s.data.toList = r ∧ cs[i]? = some (.string s) := by
  obtain ⟨xs, m, _, hx, hl, hlen, hf⟩ := DataW.trod_array hA h
  simp only [Prod.mk.injEq, DataW.agg.injEq] at hx
  obtain ⟨hx, _⟩ := hx
  have hi : i < n := by
    have h3 := congrArg List.length hx
    simp at h3
    have := (List.getElem?_eq_some_iff.1 hr).1
    omega
  have h4 := congrArg (·[i]?) hx
  simp only [List.getElem?_map, hr, Option.map_some] at h4
  obtain ⟨x, hxi, hx1⟩ := Option.map_eq_some_iff.1 h4.symm
  have h5 := hf i hi
  rw [hxi, c] at h5
  obtain ⟨s, hc, rfl, _⟩ := DataW.trod_string hE h5
  simp only [DataW.lit.injEq, Lit.string.injEq] at hx1
  have g0 := congrArg (·[0]?) hc
  simp [List.getElem?_drop] at g0
  exact ⟨s, hx1, g0⟩
/-- The names lie as the list says. -/
def NK (W : World) : Prop := ∀ (i : Nat) (r : List UInt8), nms[i]? = some r → ∃ s : ByteArray, s.data.toList = r ∧ W.cell? ⟨0, i, none⟩ = some (.string s)
theorem nk {W : World} (hL : laidMetH Tryd.prog Rows.facesNoneRow.laid W) : NK W := by
  have h : laidMet Tryd.prog Rows.facesNoneRow.laid W := hL
  unfold Rows.facesNoneRow at h
  simp only [names_eq] at h
  obtain ⟨ps, ⟨g', t', cs, fuel, p, q, hg', ht', hvar, hd, _, _⟩, _⟩ := h
  obtain rfl := Option.some.inj (gNames.symm.trans hg')
  obtain rfl := Option.some.inj (gNamesT.symm.trans ht')
  intro i r hr
  obtain ⟨s, e, h⟩ := texts_trod Tryd.underlying60 Tryd.underlying9 cells9 hd i r hr
  simp only [Array.getElem?_toList] at h
  exact ⟨s, e, (World.var?_cell gNames hvar _).trans h⟩
theorem NK.lt {W : World} (h : NK W) : 0 < W.heap.size := by
  obtain ⟨s, _, hc⟩ := h 1 _ rfl
  exact World.block_lt_of_cell? W _ hc
theorem NK.below {W W' : World} (h : NK W) (hb : Below W.heap.size W W') : NK W' := fun i r hr => by
  obtain ⟨s, e, hc⟩ := h i r hr
  exact ⟨s, e, (hb.cell (p := ⟨0, _, none⟩) h.lt).trans hc⟩
/-- No face's name is empty. -/
theorem NK.some {W : World} (h : NK W) (i : Nat) (h1 : 1 ≤ i) (h2 : i ≤ 19) : ∃ s : ByteArray, s.toList.isEmpty = false ∧ W.cell? ⟨0, i, none⟩ = some (.string s) := by
  have hn : nms.length = 20 := rfl
  obtain ⟨s, e, hc⟩ := h i nms[i] (List.getElem?_eq_getElem (by omega))
  refine ⟨s, ?_, hc⟩
  have hd : ∀ j : Nat, j < 20 → 1 ≤ j → (nms[j]?.getD []).isEmpty = false := by decide
  have := hd i (by omega) h1
  rw [List.getElem?_eq_getElem (by omega), Option.getD_some, ← e] at this
  rw [Go.Lib.toList_data]
  exact this

/-- The faces that come when r are still to come. -/
def fcF : Nat → List Nat
  | 0 => []
  | r + 1 => (19 - r) :: fcF r
def encF (x : Nat) : Array Value := #[.int .u8 (x : Int)]
def Kt (_ _ : World) : Prop := True
theorem bit_all (r : Nat) (h : r < 19) : bits .and .u32 ((1048574 : Int) / 2 ^ (19 - r)) 1 = 1 := by
  have : ∀ r : Fin 19, bits .and .u32 ((1048574 : Int) / 2 ^ (19 - r.1)) 1 = 1 := by decide +kernel
  exact this ⟨r, h⟩
set_option maxRecDepth 100000 in
set_option maxHeartbeats 4000000 in
theorem fc_in (n : Nat) (hn : 1 ≤ n) (l Bs n₀ : Nat) (J Jx : List Nat → World → Prop) (W : World)
    (hY : ∀ pre x W1, J pre W1 → pre ++ [x] <+: fcF 19 → W.heap.size + 0 ≤ W1.heap.size → NoB W.heap.size (W.heap.size + 0) W1 → YieldAt Fence.wide (n - 1) Tryd.prog l (encF x) W1 fun e W' =>
      (e = .returned (.bool true) ∧ J (pre ++ [x]) W' ∧ Below n₀ W1 W' ∧ Same W.heap.size (W.heap.size + 0) W1 W') ∨ (e = .returned (.bool false) ∧ Jx (pre ++ [x]) W' ∧ Same W.heap.size (W.heap.size + 0) W1 W'))
    (hBs : Bs < n₀) (hn₀ : n₀ ≤ W.heap.size) (hs : W.cell? ⟨Bs, 0, none⟩ = some (.int .u32 1048574)) (h0 : J [] W) :
    CallsIn Fence.wide n Tryd.prog 45 #[.func (.yield l) #[] #[], .pointer (some ⟨Bs, 0, none⟩)] W fun e W' => (∃ v, e = .returned v) ∧
      ((∃ ys, ys = fcF 19 ∧ J ys W') ∨ (∃ pre, pre <+: fcF 19 ∧ Jx pre W')) := by
  refine callsIn_of_wp Tryd.func45 rfl trivial ?_ rfl
  simp only [Tryd.ntmps45, List.size_toArray, List.length_cons, List.length_nil, Nat.reduceAdd, Nat.reduceSub, Array.replicate_succ, Array.replicate_zero, List.push_toArray, List.append_toArray, List.nil_append, List.cons_append]
  gi_wp2
  gi_loopw [3] (fun t wr => ∃ (r : Nat) (pre : List Nat), t = .int .u8 (20 - (r : Int)) ∧ r ≤ 19 ∧ J pre wr ∧ Below n₀ W wr ∧ Hid (pre ++ fcF r = fcF 19)) (fun t _ => (20 - intOf t).toNat)
  case atStart =>
    exact ⟨19, [], rfl, Nat.le_refl _, h0, Below.refl _ _, Lib.hid rfl⟩
  case round =>
    obtain ⟨r, pre, rfl, hi, hJr, hK, HG⟩ := hrel
    have c1 : wr.cell? ⟨Bs, 0, none⟩ = some (.int .u32 1048574) := (hK.cell (p := ⟨Bs, 0, none⟩) hBs).trans hs
    cases r with
    | zero =>
      have HE : Hid (pre = fcF 19) := Lib.hid (by rw [← HG.out]; simp [fcF])
      gi_wp2
      go_end0
      exact ⟨⟨_, rfl⟩, .inl ⟨pre, HE.out, hJr⟩⟩
    | succ r =>
      obtain ⟨f, hf⟩ : ∃ f : Nat, f = 19 - r := ⟨_, rfl⟩
      have e1 : (20 - (((r + 1 : Nat)) : Int)) = (f : Int) := by omega
      have HC : Hid (fcF (r + 1) = f :: fcF r) := Lib.hid (by rw [hf]; rfl)
      have hb := bit_all r (by omega)
      rw [← hf] at hb
      have hf1 : 1 ≤ f := by omega
      have hf2 : f ≤ 19 := by omega
      have hf3 : (f : Int) ≤ 19 := by omega
      have hf4 : (0 : Int) ≤ (f : Int) := by omega
      have HR := Lib.hid hf
      clear hf
      rw [e1]
      clear e1
      obtain ⟨fn, tmps, assign, body, hy, hR⟩ := hY pre f wr hJr (by refine ⟨fcF r, ?_⟩; rw [← HG.out, HC.out]; simp) (by have := hK.size; omega) (NoB.none _ _)
      dsimp only [encF] at hy
      gi_wp2
      refine hR.mono ?_
      rintro e W3 (⟨rfl, hJ3, hk3, hs3⟩ | ⟨rfl, hJx3, hs3⟩)
      · gi_wp2
        go_roundw
        case rel => exact ⟨r, pre ++ [f], by congr 1; have := HR.out; omega, by omega, hJ3, hK.trans hk3, Lib.hid (by rw [List.append_assoc, ← HG.out, HC.out]; rfl)⟩
        case measure => simp [intOf]; omega
      · gi_wp2
        refine bodyPost_ret (results_none rfl _ _ _) rfl ?_
        exact ⟨⟨_, rfl⟩, .inr ⟨pre ++ [f], by refine ⟨fcF r, ?_⟩; rw [← HG.out, HC.out]; simp, hJx3⟩⟩
theorem fc_w (n : Nat) (hn : 1 ≤ n) (Bs n₀ : Nat) (w : World) (hBs : Bs < n₀) (hn₀ : n₀ ≤ w.heap.size) (hs : w.cell? ⟨Bs, 0, none⟩ = some (.int .u32 1048574)) :
    SeqW Fence.wide n Tryd.prog 45 #[.pointer (some ⟨Bs, 0, none⟩)] encF 0 (Below n₀) (fun xs => xs = fcF 19) (fun pre => pre <+: fcF 19) w := by
  intro l J Jx W hb hJ hJx hY h0
  exact fc_in n hn l Bs n₀ J Jx W hY hBs (Nat.le_trans hn₀ hb.size) ((hb.cell (p := ⟨Bs, 0, none⟩) (Nat.lt_of_lt_of_le hBs hn₀)).trans hs) h0
theorem fc_mem : ∀ (r : Nat), r ≤ 19 → ∀ x, x ∈ fcF r → 1 ≤ x ∧ x ≤ 19 := by
  intro r
  induction r with
  | zero => intro _ x h; cases h
  | succ r ih =>
    intro hr x h
    rcases List.mem_cons.1 h with rfl | h
    · omega
    · exact ih (by omega) x h
end Go.Proofs.YtgmibdcefljceaaDoor
