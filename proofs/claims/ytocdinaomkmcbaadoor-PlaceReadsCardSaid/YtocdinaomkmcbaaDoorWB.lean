/-
  The document's Push and From; looks; the law of PlaceReads.
-/
import Derived.Test.YtocdinaomkmcbaaDoorWA
import Derived.Test.YtocdinaomkmcbaaDoorKB
import Derived.Deep.RegionLaw
import Derived.Deep.DrawnRows
import Derived.Maps.OwnSet
import Derived.Test.YtocdinaomkmcbaaDoorUC
import Derived.Test.YtocdinaomkmcbaaDoorE
import Derived.Test.YtocdinaomkmcbaaDoorV
/-! The document's Push. -/
namespace Go.Proofs.YtocdinaomkmcbaaDoor
open Go.ChangeShapes Go.WideShapes Go.ChangeAt Go.RowKit Go.Shelf
set_option linter.unusedVariables false
attribute [local go_sem] Oper.semAt_some

theorem two_fields (fs : List Field) (a b : String × TypeId × Nat) (h : fs.map (fun f => (f.name, f.type, f.offset)) = [a, b]) : ∃ f g, fs = [f, g] ∧ f.name = a.1 ∧ f.type = a.2.1 ∧ f.offset = a.2.2 ∧ g.name = b.1 ∧ g.type = b.2.1 ∧ g.offset = b.2.2 := by
  match fs, h with
  | [f, g], h =>
    simp at h
    obtain ⟨rfl, rfl⟩ := h
    exact ⟨f, g, rfl, rfl, rfl, rfl, rfl, rfl, rfl⟩
set_option maxRecDepth 100000 in
theorem fl102 : (Tryd.prog.fieldsOf 102).toList.map (fun f => (f.name, f.type, f.offset)) = [("Name", 9, 0), ("Line", 3, 1)] := by kernel_rfl
set_option maxRecDepth 100000 in
theorem fl155 : (Tryd.prog.fieldsOf 155).toList.map (fun f => (f.name, f.type, f.offset)) = [("Parent", 3, 0), ("Place", 102, 1)] := by kernel_rfl
set_option maxRecDepth 100000 in
theorem cellsOf102 : Tryd.prog.cellsOf 102 = 2 := by kernel_rfl
set_option maxRecDepth 100000 in
theorem eq102 (s t : ByteArray) (q l : Int) (w : World) : (Op.equalIn 9999 102 (.agg #[.string s, .int .i64 q]) (.agg #[.string t, .int .i64 l])).run Tryd.prog w = .ok (s.toList == t.toList && q == l) w := by
  have h2 := run_equalIn_agg (P := Tryd.prog) w 9998 102 #[.string s, .int .i64 q] #[.string t, .int .i64 l] (by kernel_rfl) (by kernel_rfl)
  obtain ⟨f, g, hf, f1, f2, f3, g1, g2, g3⟩ := two_fields _ _ _ fl102
  rw [show (9999 : Nat) = 9998 + 1 from rfl, h2, hf]
  simp only [Op.eqFields, f1, f2, f3, g1, g2, g3]
  have p1 : ∀ (a : ByteArray) (b : Int) W, (part 9 #[.string a, .int .i64 b] 0).run Tryd.prog W = .ok (.string a) W := fun a b W => by kernel_rfl
  have p2 : ∀ (a : ByteArray) (b : Int) W, (part 3 #[.string a, .int .i64 b] 1).run Tryd.prog W = .ok (.int .i64 b) W := fun a b W => by kernel_rfl
  have e1 := run_equalIn_string (P := Tryd.prog) w 9997 9 s t Tryd.underlying9
  have e2 := run_equalIn_int (P := Tryd.prog) w 9997 3 .i64 .i64 q l Tryd.underlying3
  simp only [show (9998 : Nat) = 9997 + 1 from rfl] at *
  generalize (s.toList == t.toList) = A at *
  generalize (q == l) = B at *
  cases A <;> cases B <;> simp [Sem.run_bind, p1, p2, e1, e2, Result.andThen_ok]
set_option maxRecDepth 100000 in
theorem eq155 (y n : Int) (s t : ByteArray) (q l : Int) (w : World) : (binOp .eql 155 (.agg #[.int .i64 y, .string s, .int .i64 q]) (.agg #[.int .i64 n, .string t, .int .i64 l])).run Tryd.prog w = .ok (.bool (y == n && (s.toList == t.toList && q == l))) w := by
  have h1 := run_equalIn_agg (P := Tryd.prog) w 9999 155 #[.int .i64 y, .string s, .int .i64 q] #[.int .i64 n, .string t, .int .i64 l] (by kernel_rfl) (by kernel_rfl)
  obtain ⟨f, g, hf, f1, f2, f3, g1, g2, g3⟩ := two_fields _ _ _ fl155
  rw [run_eql_struct, show (10000 : Nat) = 9999 + 1 from rfl, h1, hf]
  simp only [Op.eqFields, f1, f2, f3, g1, g2, g3]
  have p1 : ∀ (c : Int) (a : ByteArray) (b : Int) W, (part 3 #[.int .i64 c, .string a, .int .i64 b] 0).run Tryd.prog W = .ok (.int .i64 c) W := fun c a b W => by kernel_rfl
  have p2 : ∀ (c : Int) (a : ByteArray) (b : Int) W, (part 102 #[.int .i64 c, .string a, .int .i64 b] 1).run Tryd.prog W = .ok (.agg #[.string a, .int .i64 b]) W := fun c a b W => by kernel_rfl
  have e1 := run_equalIn_int (P := Tryd.prog) w 9998 3 .i64 .i64 y n Tryd.underlying3
  have e2 := eq102 s t q l w
  simp only [show (9999 : Nat) = 9998 + 1 from rfl] at *
  generalize (y == n) = C at *
  generalize (s.toList == t.toList && q == l) = D at *
  cases C <;> cases D <;> simp [Sem.run_bind, p1, p2, e1, e2, Result.andThen_ok]
set_option maxRecDepth 100000 in
theorem info155 : (Tryd.prog.info? 155).map (fun i => (i.zero, i.size, i.bytes)) = some (some (.agg #[.int .i64 0, .string ByteArray.empty, .int .i64 0]), 3, 32) := by kernel_rfl

set_option maxRecDepth 100000 in
set_option maxHeartbeats 4000000 in
theorem dpush_no (a lo : Nat) (n : Int) (nd : List Nd) (p : Pl) (w : World) (hT : Td w lo a nd) (hn : (nd.length : Int) ≤ n ∨ n < 0) :
    Calls Tryd.prog 67 #[.pointer (some ⟨a, 0, none⟩), .int .i64 n, .agg #[.string p.1, .int .i64 p.2]] w fun e w' => e = .returned (.tuple #[.int .i64 0, .int .i64 1]) ∧ Below w.heap.size w w' := by
  have K := Lib.hid (fun (W : World) (hb : Below w.heap.size w W) => by
    have := dhas_any a lo nd n W (hT.below hb)
    rw [decide_eq_false (by omega)] at this
    exact this)
  clear hT hn
  have B1 := Lib.hid ((Below.refl _ w).alloc (Nat.le_refl _) (.cells #[.string p.1, .int .i64 p.2] 102))
  go_enter Tryd.func67, Tryd.ntmps67
  go_wp2_with fail
  refine (K.out _ B1.out).mono ?_
  rintro e W1 ⟨rfl, hW1⟩
  subst hW1
  go_wp2_with fail
  go_ret2
  exact ⟨rfl, B1.out⟩
set_option maxRecDepth 100000 in
set_option maxHeartbeats 4000000 in
theorem dpush_bad (a lo n : Nat) (nd : List Nd) (p : Pl) (w : World) (hT : Td w lo a nd) (hn : n < nd.length) (hm : may p = false) :
    Calls Tryd.prog 67 #[.pointer (some ⟨a, 0, none⟩), .int .i64 n, .agg #[.string p.1, .int .i64 p.2]] w fun e w' => e = .returned (.tuple #[.int .i64 0, .int .i64 30]) ∧ Below w.heap.size w w' := by
  have K := Lib.hid (fun (W : World) (hb : Below w.heap.size w W) => by
    have := dhas_any a lo nd n W (hT.below hb)
    rw [decide_eq_true ⟨by omega, by omega⟩] at this
    exact this)
  have K50 := Lib.hid (fun (W : World) => by
    have := rmay_any p W
    rw [hm] at this
    exact this)
  clear hT hn
  have B1 := Lib.hid ((Below.refl _ w).alloc (Nat.le_refl _) (.cells #[.string p.1, .int .i64 p.2] 102))
  have HZ : Hid ((w.alloc (.cells #[.string p.1, .int .i64 p.2] 102)).heap.size = w.heap.size + 1) := Lib.hid (by simp)
  go_enter Tryd.func67, Tryd.ntmps67
  go_wp2_with fail
  refine (K.out _ B1.out).mono ?_
  rintro e W1 ⟨rfl, hW1⟩
  subst hW1
  go_wp2_with fail
  refine (K50.out _).mono ?_
  rintro e W2 ⟨rfl, b2⟩
  go_wp2_with fail
  go_ret2
  exact ⟨rfl, B1.out.trans (b2.mono (by rw [HZ.out]; omega))⟩
set_option maxRecDepth 100000 in
set_option maxHeartbeats 4000000 in
theorem dpush_deep (a lo n : Nat) (nd : List Nd) (p : Pl) (w : World) (hT : Td w lo a nd) (hn : n < nd.length) (hm : may p = true) (hd : (stk nd n).length = 64) :
    Calls Tryd.prog 67 #[.pointer (some ⟨a, 0, none⟩), .int .i64 n, .agg #[.string p.1, .int .i64 p.2]] w fun e w' => e = .returned (.tuple #[.int .i64 0, .int .i64 31]) ∧ Below w.heap.size w w' := by
  have K := Lib.hid (fun (W : World) (hb : Below w.heap.size w W) => by
    have := dhas_any a lo nd n W (hT.below hb)
    rw [decide_eq_true ⟨by omega, by omega⟩] at this
    exact this)
  have K50 := Lib.hid (fun (W : World) => by
    have := rmay_any p W
    rw [hm] at this
    exact this)
  have K41 := Lib.hid (fun (W : World) (hb : Below w.heap.size w W) => by
    have := ddepth_any a lo n nd W (hT.below hb) hn
    rw [hd] at this
    exact (this : Calls Tryd.prog 72 #[.pointer (some ⟨a, 0, none⟩), .int .i64 n] W fun e w' => e = .returned (.int .i64 64) ∧ W = w'))
  clear hT hn hd
  have B1 := Lib.hid ((Below.refl _ w).alloc (Nat.le_refl _) (.cells #[.string p.1, .int .i64 p.2] 102))
  have HZ : Hid ((w.alloc (.cells #[.string p.1, .int .i64 p.2] 102)).heap.size = w.heap.size + 1) := Lib.hid (by simp)
  go_enter Tryd.func67, Tryd.ntmps67
  go_wp2_with fail
  refine (K.out _ B1.out).mono ?_
  rintro e W1 ⟨rfl, hW1⟩
  subst hW1
  go_wp2_with fail
  refine (K50.out _).mono ?_
  rintro e W2 ⟨rfl, b2⟩
  have b12 := B1.out.trans (b2.mono (by rw [HZ.out]; omega))
  go_wp2_with fail
  refine (K41.out _ b12).mono ?_
  rintro e W3 ⟨rfl, hW3⟩
  subst hW3
  go_wp2_with fail
  go_ret2
  exact ⟨rfl, b12⟩
theorem seek_at {nd : List Nd} (h : Wf nd) {i : Nat} {x : Nd} (hi : 1 ≤ i) (hx : nd[i]? = some x) : seekN nd x = some i := by
  cases hs : seekN nd x with
  | none => exact absurd hx (seek_none hs i hi)
  | some j =>
    obtain ⟨h1, h2, _⟩ := seek_some hs
    rw [h.one j i x h1 hi h2 hx]
theorem block_row1 {W : World} {lo a : Nat} {u : Value} (h : W.heap[a]? = some (.cells #[u] 130 (0, 0))) (hl : lo ≤ a) : W.ownsRow lo 130 1 (.slice (some ⟨a, 0, none⟩) 1 1) 1 [u] :=
  ⟨rfl, .inr ⟨a, 1, #[u], rfl, hl, h, Nat.le_refl _, by decide, rfl, rfl⟩⟩
theorem row_block1 {W : World} {lo a : Nat} {u : Value} (h : W.ownsRow lo 130 1 (.slice (some ⟨a, 0, none⟩) 1 1) 1 [u]) : W.heap[a]? = some (.cells #[u] 130 (0, 0)) := by
  rcases h.2 with ⟨h', _⟩ | ⟨g, cap, cur, h', _, h2, _, _, h5, h6⟩
  · cases h'
  · simp only [Value.slice.injEq, Option.some.injEq, Addr.mk.injEq, and_true, true_and] at h'
    obtain ⟨rfl, rfl⟩ := h'
    rw [h2]
    congr 2
    apply Array.ext'
    have hl : cur.toList.length = 1 := by simpa using h5
    rw [List.take_of_length_le (by omega)] at h6
    simpa using h6
/-- What is in hand while the nodes are gone through. -/
def Bq (w : World) (p : Pl) (W : World) : Prop := W.cell? ⟨w.heap.size, 0, none⟩ = some (.string p.1) ∧ W.cell? ⟨w.heap.size, 1, none⟩ = some (.int .i64 p.2) ∧ w.heap.size < W.heap.size ∧ Below w.heap.size w W

set_option maxRecDepth 100000 in
set_option maxHeartbeats 8000000 in
theorem dpush_seek (a lo n : Nat) (nd : List Nd) (p : Pl) (w : World) (hT : Td w lo a nd) (hn : n < nd.length) (hm : may p = true) (hd : (stk nd n).length < 64) (hlo : lo ≤ w.heap.size) :
    Calls Tryd.prog 67 #[.pointer (some ⟨a, 0, none⟩), .int .i64 n, .agg #[.string p.1, .int .i64 p.2]] w fun e w' => (nd.length ≤ 4095 ∨ seekN nd (n, p) ≠ none) ∧ e = .returned (.tuple #[.int .i64 (insN nd n p).1, .int .i64 0]) ∧ Td w' lo a (insN nd n p).2 ∧ Below lo w w' ∨ (nd.length = 4096 ∧ seekN nd (n, p) = none ∧ e = .returned (.tuple #[.int .i64 0, .int .i64 3]) ∧ Td w' lo a nd ∧ Below lo w w') := by
  obtain ⟨i0, hi0, hz0, hz1, hz2⟩ := info_parts info155
  have hwf := hT.wf
  have hfew := hT.few
  have HT := Lib.hid hT
  have HWF := Lib.hid hwf
  have HNN := Lib.hid hn
  have K := Lib.hid (fun (W : World) (hb : Below w.heap.size w W) => by
    have := dhas_any a lo nd n W (hT.below hb)
    rw [decide_eq_true ⟨by omega, by omega⟩] at this
    exact this)
  have K50 := Lib.hid (fun (W : World) => by
    have := rmay_any p W
    rw [hm] at this
    exact this)
  have K41 := Lib.hid (fun (W : World) (hb : Below w.heap.size w W) => ddepth_any a lo n nd W (hT.below hb) hn)
  have K33 := Lib.hid (fun (W : World) (hb : Below w.heap.size w W) => dlen_any a lo nd W (hT.below hb))
  obtain ⟨A, c, c0, hc⟩ := hT.cells
  obtain ⟨k, hk⟩ : ∃ k, nd.length - 1 = k := ⟨_, rfl⟩
  rw [hk] at c0
  have hkl : nd.length = k + 1 := by have := hwf.pos; omega
  have HK := Lib.hid hkl
  have HC := Lib.hid hc
  have hk2 : k ≤ 4095 := by omega
  have hdd : ¬ (64 : Int) ≤ ((stk nd n).length : Int) := by omega
  generalize (stk nd n).length = dd at *
  have B1 := Lib.hid ((Below.refl _ w).alloc (Nat.le_refl _) (.cells #[.string p.1, .int .i64 p.2] 102))
  have HZ : Hid ((w.alloc (.cells #[.string p.1, .int .i64 p.2] 102)).heap.size = w.heap.size + 1) := Lib.hid (by simp)
  clear hT hn hd hwf hk hc hkl
  go_enter Tryd.func67, Tryd.ntmps67
  go_wp2_with fail
  refine (K.out _ B1.out).mono ?_
  rintro e W1 ⟨rfl, hW1⟩
  subst hW1
  go_wp2_with fail
  refine (K50.out _).mono ?_
  rintro e W2 ⟨rfl, b2⟩
  have b12 := B1.out.trans (b2.mono (by rw [HZ.out]; omega))
  go_wp2_with fail
  refine (K41.out _ b12).mono ?_
  rintro e W3 ⟨rfl, hW3⟩
  subst hW3
  have hq0 : W2.cell? ⟨w.heap.size, 0, none⟩ = some (.string p.1) := cell_below (w := w.alloc (.cells #[.string p.1, .int .i64 p.2] 102)) (by simp) b2 (Nat.le_refl _)
  have hq1 : W2.cell? ⟨w.heap.size, 1, none⟩ = some (.int .i64 p.2) := cell_below (w := w.alloc (.cells #[.string p.1, .int .i64 p.2] 102)) (by simp) b2 (Nat.le_refl _)
  have hzq : w.heap.size < W2.heap.size := by have := b2.size; rw [HZ.out] at this; omega
  have HQ : Hid (Bq w p W2) := Lib.hid ⟨hq0, hq1, hzq, b12⟩
  clear b2 hq0 hq1 hzq b12
  go_wp2_with fail
  go_loopw [8] (fun t wr => ∃ i : Nat, t = .int .i64 i ∧ i ≤ k ∧ Hid (∀ j, j < i → nd[j + 1]? ≠ some (n, p)) ∧ Hid (Bq w p wr)) (fun t _ => k - (intOf t).toNat)
  case atStart => exact ⟨0, rfl, Nat.zero_le _, Lib.hid (fun j h => absurd h (by omega)), HQ⟩
  case round =>
    obtain ⟨i, rfl, hi, HNO, HW⟩ := hrel
    generalize hV : wr = V at *
    clear hV HQ
    obtain ⟨q0, q1, hz, hb⟩ := HW.out
    have ca := cell_below c0 hb (Nat.le_refl _)
    by_cases hlt : i < k
    · have hlt' : (i : Int) < (k : Int) := by omega
      have hi0' : (0 : Int) ≤ (i : Int) := by omega
      obtain ⟨x, hx⟩ : ∃ x, nd[i + 1]? = some x := ⟨_, List.getElem?_eq_getElem (by rw [HK.out]; omega)⟩
      obtain ⟨g, rfl, c1, c2, c3⟩ := HC.out i x hx
      have d1 := cell_below c1 hb (Nat.le_refl _)
      have d2 := cell_below c2 hb (Nat.le_refl _)
      have d3 := cell_below c3 hb (Nat.le_refl _)
      have HX := Lib.hid hx
      obtain ⟨y, s, q⟩ := x
      simp only at d1 d2 d3
      clear c1 c2 c3 hx hb
      obtain ⟨E, hE⟩ : ∃ E, ((y : Int) == (n : Int) && (s.toList == p.1.toList && q == p.2)) = E := ⟨_, rfl⟩
      have hEq : ∀ W, (binOp .eql 155 (.agg #[.int .i64 (y : Int), .string s, .int .i64 q]) (.agg #[.int .i64 (n : Int), .string p.1, .int .i64 p.2])).run Tryd.prog W = .ok (.bool E) W := fun W => by rw [eq155, hE]
      have HI : Hid (E = true ↔ nd[i + 1]? = some (n, p)) := Lib.hid (by
        rw [HX.out, ← hE]
        simp only [Bool.and_eq_true, beq_iff_eq, Option.some.injEq, Prod.mk.injEq]
        constructor
        · rintro ⟨h1, h2, h3⟩
          refine ⟨by omega, ?_⟩
          rw [Lib.toList_data, Lib.toList_data] at h2
          exact Prod.ext (ByteArray.ext (Array.toList_inj.1 h2)) h3
        · rintro ⟨rfl, rfl⟩
          exact ⟨rfl, rfl, rfl⟩)
      clear hE HX
      cases E
      · go_wp2_with fail
        go_quiet (fail)
        go_wp2_with fail
        go_roundw
        case rel => exact ⟨i + 1, by go_num, by omega, Lib.hid (fun j hj => by
          by_cases hji : j = i
          · subst hji
            intro h
            exact absurd (HI.out.2 h) (by decide)
          · exact HNO.out j (by omega)), Lib.hid ⟨q0, q1, hz, HW.out.2.2.2.trans (below_drewN _ _ _ (HW.out.2.2.2.size))⟩⟩
        case measure => simp [intOf]; omega
      · go_wp2_with fail
        go_quiet (fail)
        go_wp2_with fail
        go_ret2
        have hsk := seek_at HWF.out (by omega) (HI.out.1 (by trivial))
        refine .inl ⟨.inr (by rw [hsk]; simp), ?_, ?_, ?_⟩
        · unfold insN; rw [hsk]; rfl
        · unfold insN; rw [hsk]; exact HT.out.below (HW.out.2.2.2.trans (below_drewN _ _ _ (HW.out.2.2.2.size)))
        · exact (HW.out.2.2.2.trans (below_drewN _ _ _ (HW.out.2.2.2.size))).mono hlo
    · have hik : i = k := by omega
      subst hik
      have hlt' : ¬ (i : Int) < (i : Int) := by omega
      have hsn : seekN nd (n, p) = none := by
        cases hs : seekN nd (n, p) with
        | none => rfl
        | some j =>
          obtain ⟨h1, h2, h3⟩ := seek_some hs
          obtain ⟨j', rfl⟩ : ∃ j', j = j' + 1 := ⟨j - 1, by omega⟩
          exact absurd h2 (HNO.out j' (by have := HK.out; omega))
      have HSN := Lib.hid hsn
      clear hsn
      go_wp2_with fail
      refine (K33.out _ hb).mono ?_
      rintro e W5 ⟨rfl, hW5⟩
      subst hW5
      by_cases h4 : nd.length ≤ 4095
      · have h4i : ¬ (4096 : Int) ≤ (nd.length : Int) := by omega
        have hlen : nd.length = i + 1 := HK.out
        have HL := Lib.hid hlen
        obtain ⟨v, x1, x2⟩ := HT.out.ex
        have hv : v = .slice A i c := by
          have := c0
          rw [cell_of_row w a 0 _ 130 (0, 0) x1] at this
          exact Option.some.inj this
        subst hv
        rw [hlen, Nat.add_sub_cancel] at x2
        have llo := HT.out.lo
        have lga := HT.out.lt
        have x1V := (hb.block a lga).trans x1
        have x2V := own_below x2 hb
        have HAR := Lib.hid (block_row1 x1V llo)
        have HX2 := Lib.hid x2V
        have lown := x2V.lt
        have caA := cell_below ca ((Below.refl _ V).alloc (Nat.le_refl _) (.cells #[.int .i64 (n : Int), .string p.1, .int .i64 p.2] 155)) (Nat.le_refl _)
        have HLT := Lib.hid lown
        clear x1 x2 x1V x2V lown hlen
        go_wp2_with fail
        go_region_law (refine step_append_lies _ (by rfl) _ _ _ (by rfl) lo 155 i0 _ 3 32 Tryd.underlying128 hi0 hz0 hz1 hz2 rfl (by omega) (.slice A i c) i (flatN nd.tail) (by rfl) ((HX2.out.alloc _).drew) ⟨V.heap.size, 0, none⟩ 1 1 (celN (n, p)) (by rfl) (by rfl) (World.news_of_block (cs := #[.int .i64 (n : Int), .string p.1, .int .i64 p.2]) (t := 155) (fr := (0, 0)) (heap_alloc_new V _)) (by simp [celN, Value.oneCell']) (by omega) (by unfold maxLen; omega) (by omega) (by simp; omega) (V.heap.size + 1) (by simp) ?_; intro gg cap' w6 hown6 hgrow hat hlt6; have ar6 := keep_other ((HAR.out.alloc (.cells #[.int .i64 (n : Int), .string p.1, .int .i64 p.2] 155)).drew) ((HX2.out.alloc (.cells #[.int .i64 (n : Int), .string p.1, .int .i64 p.2] 155)).drew) (by decide) hgrow; have c9 := ar6.cellAt 0 (by omega); have f9 := ar6.frozenAt 0; simp only [List.getElem?_cons_zero] at c9)
        all_goals
          have hst := ar6.stored 0 (.slice (some ⟨gg, 0, none⟩) (i + 1) cap')
          have hr7 := keep_other hown6 ar6 (by decide) hst.2
          have ar7 := hst.1
          have hw6 : Below lo w w6 := Below.grown (((hb.mono hlo).alloc (by omega) _).drew) hgrow (by simp; omega) (fun j hj => (HLT.out j hj).1)
          have hw7 : Below lo w (w6.setCell ⟨a, 0, none⟩ (.slice (some ⟨gg, 0, none⟩) (i + 1) cap')) := Below.grown hw6 hst.2 (by have := hw6.size; omega) (fun j hj => by cases hj; exact llo)
          have c7 : (w6.setCell ⟨a, 0, none⟩ (.slice (some ⟨gg, 0, none⟩) (i + 1) cap')).cell? ⟨a, 0, none⟩ = some (.slice (some ⟨gg, 0, none⟩) (i + 1) cap') := ar7.cellAt 0 (by omega)
          have HFin : Hid (Td (w6.setCell ⟨a, 0, none⟩ (.slice (some ⟨gg, 0, none⟩) (i + 1) cap')) lo a (nd ++ [(n, p)]) ∧ Below lo w (w6.setCell ⟨a, 0, none⟩ (.slice (some ⟨gg, 0, none⟩) (i + 1) cap'))) := Lib.hid (by
            have hl1 : (nd ++ [(n, p)]).length = nd.length + 1 := by simp
            have hne : nd ≠ [] := fun h => by have := HL.out; rw [h] at this; simp at this
            refine ⟨⟨wf_snoc HWF.out HNN.out hm (seek_none HSN.out), by omega, ⟨_, row_block1 ar7, ?_⟩, llo⟩, hw7⟩
            rw [hl1, Nat.add_sub_cancel, List.tail_append_of_ne_nil hne, flatN_snoc, HL.out]
            exact hr7)
          clear hst hr7 ar7 ar6 hown6 hgrow hat hw6 hw7 c9 f9 ca caA
          generalize w6.setCell ⟨a, 0, none⟩ (.slice (some ⟨gg, 0, none⟩) (i + 1) cap') = V7 at *
          go_wp2_with fail
          go_ret2
          have hin : insN nd n p = (nd.length, nd ++ [(n, p)]) := by unfold insN; rw [HSN.out]
          refine .inl ⟨.inl h4, ?_, by rw [hin]; exact HFin.out.1, HFin.out.2⟩
          rw [hin]
          simp only
          rw [HL.out]
          rfl
      · have h4i : (4096 : Int) ≤ (nd.length : Int) := by omega
        go_wp2_with fail
        go_ret2
        exact .inr ⟨by omega, HSN.out, rfl, HT.out.below hb, hb.mono hlo⟩
end Go.Proofs.YtocdinaomkmcbaaDoor

/-! The document's From. -/
namespace Go.Proofs.YtocdinaomkmcbaaDoor
open Go.ChangeShapes Go.WideShapes Go.ChangeAt Go.RowKit Go.Shelf
set_option linter.unusedVariables false
attribute [local go_sem] Oper.semAt_some

/-- What Push leaves. -/
def DPushed (a lo : Nat) (w : World) (e : Ending) (w' : World) : Prop := ∃ (i c : Int) (nd' : List Nd), e = .returned (.tuple #[.int .i64 i, .int .i64 c]) ∧ Td w' lo a nd' ∧ Dp nd' ∧ Below lo w w'
theorem dpush_tot (a lo : Nat) (n : Int) (nd : List Nd) (p : Pl) (w : World) (hT : Td w lo a nd) (hD : Dp nd) (hlo : lo ≤ w.heap.size) :
    Calls Tryd.prog 67 #[.pointer (some ⟨a, 0, none⟩), .int .i64 n, .agg #[.string p.1, .int .i64 p.2]] w (DPushed a lo w) := by
  have low : ∀ (c : Int), (Calls Tryd.prog 67 #[.pointer (some ⟨a, 0, none⟩), .int .i64 n, .agg #[.string p.1, .int .i64 p.2]] w fun e w' => e = .returned (.tuple #[.int .i64 0, .int .i64 c]) ∧ Below w.heap.size w w') → Calls Tryd.prog 67 #[.pointer (some ⟨a, 0, none⟩), .int .i64 n, .agg #[.string p.1, .int .i64 p.2]] w (DPushed a lo w) :=
    fun c h => h.mono fun e w' ⟨h1, h2⟩ => ⟨0, c, nd, h1, hT.below h2, hD, h2.mono hlo⟩
  by_cases hn : (nd.length : Int) ≤ n ∨ n < 0
  · exact low _ (dpush_no a lo n nd p w hT hn)
  · obtain ⟨m, rfl⟩ : ∃ m : Nat, n = (m : Int) := ⟨n.toNat, by omega⟩
    have hm : m < nd.length := by omega
    cases hmay : may p
    · exact low _ (dpush_bad a lo m nd p w hT hm hmay)
    · have h64 := hD m hm
      by_cases hd : (stk nd m).length = 64
      · exact low _ (dpush_deep a lo m nd p w hT hm hmay hd)
      · have hd2 : (stk nd m).length < 64 := by omega
        refine (dpush_seek a lo m nd p w hT hm hmay hd2 hlo).mono fun e w' h => ?_
        rcases h with ⟨_, h1, h2, h3⟩ | ⟨_, _, h1, h2, h3⟩
        · exact ⟨_, 0, _, h1, h2, ins_dp hT.wf hD hm hmay hd2, h3⟩
        · exact ⟨0, 3, nd, h1, h2, hD, h3⟩
theorem dpush_any (a lo n : Nat) (nd : List Nd) (p : Pl) (w : World) (hT : Td w lo a nd) (hn : n < nd.length) (hm : may p = true) (hd : (stk nd n).length < 64) (hl : nd.length ≤ 4095) (hlo : lo ≤ w.heap.size) :
    Calls Tryd.prog 67 #[.pointer (some ⟨a, 0, none⟩), .int .i64 n, .agg #[.string p.1, .int .i64 p.2]] w fun e w' => e = .returned (.tuple #[.int .i64 (insN nd n p).1, .int .i64 0]) ∧ Td w' lo a (insN nd n p).2 ∧ Below lo w w' :=
  (dpush_seek a lo n nd p w hT hn hm hd hlo).mono fun e w' h => by
    rcases h with ⟨_, h⟩ | ⟨h1, _⟩
    · exact h
    · omega

set_option maxRecDepth 100000 in
set_option maxHeartbeats 8000000 in
/-- Bytes that no tree has. -/
theorem dfrom_no (s : ByteArray) (w : World) (hno : ∀ nd, Wf nd → Dp nd → nd.length ≤ 4096 → bts (told nd) ≠ s) :
    Calls Tryd.prog 32 #[.string s] w fun e w' => e = .returned (.tuple #[.pointer none, .int .i64 4]) ∧ Below w.heap.size w w' := by
  have HNO := Lib.hid hno
  have K0 := Lib.hid (taken_any s.data.toList w)
  rw [bts_back] at K0
  clear hno
  go_enter Tryd.func32, Tryd.ntmps32
  go_wp2_with fail
  refine K0.out.mono ?_
  rintro e W1 ⟨rfl, hb1⟩
  have hn0 := tkn_lt s.data.toList
  generalize (tkn s.data.toList).1 = n at *
  generalize (tkn s.data.toList).2 = R0 at *
  clear K0
  go_wp2_with fail
  refine (dnew_any W1).mono ?_
  rintro e W2 ⟨u, rfl, hT2, hb2⟩
  obtain ⟨r, hr⟩ : ∃ r, W1.heap.size = r := ⟨_, rfl⟩
  rw [hr] at hT2 hb2
  have hwr : w.heap.size ≤ r := by rw [← hr]; exact hb1.size
  have hz2 : r ≤ W2.heap.size := by rw [← hr]; have := hb2.size; omega
  have HB := Lib.hid hb1
  clear hb1 hr
  go_wp2_with fail
  go_loopw [5, 7] (fun t5 t7 wr => ∃ (i : Nat) (R : List UInt8) (nd : List Nd), t7 = .int .i64 i ∧ t5 = .string (bts R) ∧ 1 ≤ i ∧ i ≤ 4096 ∧ r ≤ wr.heap.size ∧ Hid (Td wr r u nd ∧ Dp nd ∧ Below r W1 wr)) (fun _ t _ => 4096 - (intOf t).toNat)
  case atStart => exact ⟨1, R0, rootN, rfl, rfl, by omega, by omega, hz2, Lib.hid ⟨hT2, dp_root, hb2⟩⟩
  case round =>
    obtain ⟨i, R, nd, rfl, rfl, hi1, hi2, hzr, HW⟩ := hrel
    obtain ⟨hT, hDp, hb⟩ := HW.out
    generalize hV : wr = V at *
    clear hV hT2 hb2
    have fin : Hid (Calls Tryd.prog 68 #[.pointer (some ⟨u, 0, none⟩)] V fun e w' => e = .returned (.string (bts (told nd))) ∧ Below V.heap.size V w') := Lib.hid (dtold_any u r nd V hT)
    have hne : ¬ bts (told nd) = s := HNO.out nd hT.wf hDp hT.few
    obtain ⟨S, hS⟩ : ∃ S, bts R = S := ⟨_, rfl⟩
    rw [hS]
    by_cases hgo : i ≤ n ∧ i < 4096 ∧ R ≠ []
    · obtain ⟨g1, g2, g3⟩ := hgo
      have i1 : (i : Int) ≤ (n : Int) := by omega
      have i2 : (i : Int) < 4096 := by omega
      have i3 : S.toList.isEmpty = false := by
        rw [Lib.toList_data, ← hS, bts_list]
        cases R with
        | nil => exact absurd rfl g3
        | cons _ _ => rfl
      have i3' : ¬ S.toList = [] := fun h => by rw [h] at i3; simp at i3
      have K1 := Lib.hid (taken_any R V)
      rw [hS] at K1
      clear fin hne g1 g2 g3
      go_wp2_with fail
      refine K1.out.mono ?_
      rintro e W3 ⟨rfl, hb3⟩
      have hq1 := tkn_lt R
      generalize (tkn R).1 = q1 at *
      generalize (tkn R).2 = Ra at *
      clear K1
      go_wp2_with fail
      refine (taken_any Ra W3).mono ?_
      rintro e W4 ⟨rfl, hb4⟩
      have hq2 := tkn_lt Ra
      generalize (tkn Ra).1 = q2 at *
      generalize (tkn Ra).2 = Rb at *
      obtain ⟨S2, hS2⟩ : ∃ S, bts Rb = S := ⟨_, rfl⟩
      have hsz2 : S2.size = Rb.length := by rw [← hS2, bts_size]
      obtain ⟨L, hL⟩ : ∃ L, min q2 S2.size = L := ⟨_, rfl⟩
      have hmin : min (q2 : Int) (S2.size : Int) = (L : Int) := by omega
      have hL0 : (0 : Int) ≤ (L : Int) := by omega
      have hL1 : (L : Int) ≤ (S2.size : Int) := by omega
      have HP : Hid (S2.extract 0 L = bts (Rb.take L)) := Lib.hid (by rw [extract_bts, ← hS2, bts_list])
      have HD : Hid (S2.extract L S2.size = bts (Rb.drop L)) := Lib.hid (by rw [ext_end, ← hS2, bts_list])
      rw [hS2]
      clear hS2 hsz2 hL
      have b4 : Below r W1 W4 := (hb.trans (hb3.mono hzr)).trans (hb4.mono (Nat.le_trans hzr hb3.size))
      have hz4 : r ≤ W4.heap.size := Nat.le_trans hzr (Nat.le_trans hb3.size hb4.size)
      have hT4 : Td W4 r u nd := (hT.below hb3).below hb4
      clear hT hb hb3 hb4 hzr HW
      go_wp2_with fail
      have K3 := taken_any (Rb.drop L) W4
      rw [← HD.out] at K3
      refine K3.mono ?_
      rintro e W5 ⟨rfl, hb5⟩
      have hq3 := tkn_lt (Rb.drop L)
      generalize (tkn (Rb.drop L)).1 = q3 at *
      generalize (tkn (Rb.drop L)).2 = Rc at *
      have b5 := b4.trans (hb5.mono hz4)
      have hz5 : r ≤ W5.heap.size := Nat.le_trans hz4 hb5.size
      have hT5 := hT4.below hb5
      clear K3 hT4 b4 hb5
      go_wp2_with fail
      refine (dpush_tot u r _ nd (_, (q3 : Int)) W5 hT5 hDp hz5).mono ?_
      rintro e W6 ⟨i6, c6, nd6, rfl, hT6, hD6, hb6⟩
      have b6 := b5.trans hb6
      have hz6 : r ≤ W6.heap.size := Nat.le_trans hz5 hb6.size
      have HX := Lib.hid (And.intro hT6 (And.intro hD6 b6))
      clear hT6 hD6 b6 hb6 hT5 b5 hDp hmin hL0 hL1
      simp only
      by_cases h7 : c6 = 0
      · subst h7
        by_cases h8 : i6 = (i : Int)
        · subst h8
          go_wp2_with fail
          go_roundw
          case rel => exact ⟨i + 1, Rc, nd6, by go_num, rfl, by omega, by omega, hz6, HX⟩
          case measure => simp [intOf]; omega
        · have h8b : (i6 == (i : Int)) = false := beq_eq_false_iff_ne.2 h8
          go_wp2_with fail
          go_ret2
          exact ⟨rfl, HB.out.trans (HX.out.2.2.mono hwr)⟩
      · have h7b : (c6 == 0) = false := beq_eq_false_iff_ne.2 h7
        go_wp2_with fail
        go_ret2
        exact ⟨rfl, HB.out.trans (HX.out.2.2.mono hwr)⟩
    · have hs2 : ¬ (bts (told nd)).toList = s.toList := fun h => hne (by rw [Lib.toList_data, Lib.toList_data] at h; exact ByteArray.ext (Array.toList_inj.1 h))
      have hs3 : ((bts (told nd)).toList == s.toList) = false := beq_eq_false_iff_ne.2 hs2
      have HBV : Hid (Below w.heap.size w V) := Lib.hid (HB.out.trans (hb.mono hwr))
      have HZV : Hid (w.heap.size ≤ V.heap.size) := Lib.hid (Nat.le_trans hwr hzr)
      have HGO := Lib.hid hgo
      have HSS := Lib.hid hS
      generalize bts (told nd) = y at *
      clear hT hDp hb HW hne hgo hS HB hwr hzr
      by_cases g1 : i ≤ n
      · have i1 : (i : Int) ≤ (n : Int) := by omega
        by_cases g2 : i < 4096
        · have i2 : (i : Int) < 4096 := by omega
          have g3 : R = [] := Classical.byContradiction fun h => HGO.out ⟨g1, g2, h⟩
          have i3 : S.toList = [] := by rw [Lib.toList_data, ← HSS.out, bts_list, g3]
          clear g1 g2 g3
          go_wp2_with fail
          refine fin.out.mono ?_
          rintro e W9 ⟨rfl, hb9⟩
          go_wp2_with fail
          go_ret2
          exact ⟨rfl, HBV.out.trans (hb9.mono HZV.out)⟩
        · have i2 : ¬ (i : Int) < 4096 := by omega
          clear g1 g2
          go_wp2_with fail
          refine fin.out.mono ?_
          rintro e W9 ⟨rfl, hb9⟩
          go_wp2_with fail
          go_ret2
          exact ⟨rfl, HBV.out.trans (hb9.mono HZV.out)⟩
      · have i1 : ¬ (i : Int) ≤ (n : Int) := by omega
        clear g1
        go_wp2_with fail
        refine fin.out.mono ?_
        rintro e W9 ⟨rfl, hb9⟩
        go_wp2_with fail
        go_ret2
        exact ⟨rfl, HBV.out.trans (hb9.mono HZV.out)⟩
end Go.Proofs.YtocdinaomkmcbaaDoor

/-! The document's From of a tree's bytes. -/
namespace Go.Proofs.YtocdinaomkmcbaaDoor
open Go.ChangeShapes Go.WideShapes Go.ChangeAt Go.RowKit Go.Shelf
set_option linter.unusedVariables false
attribute [local go_sem] Oper.semAt_some

set_option maxRecDepth 100000 in
set_option maxHeartbeats 8000000 in
theorem dfrom_any (nd : List Nd) (s : ByteArray) (w : World) (hwf : Wf nd) (hfew : nd.length ≤ 4096) (hdeep : ∀ n, n < nd.length → (stk nd n).length ≤ 64) (hs : s = bts (told nd)) :
    Calls Tryd.prog 32 #[.string s] w fun e w' => ∃ lo u, e = .returned (.tuple #[.pointer (some ⟨u, 0, none⟩), .int .i64 0]) ∧ w.heap.size ≤ lo ∧ lo ≤ w'.heap.size ∧ Td w' lo u nd ∧ Below w.heap.size w w' := by
  have hpos := hwf.pos
  obtain ⟨m, hm⟩ : ∃ m, nd.length = m + 1 := ⟨nd.length - 1, by omega⟩
  have K0 := taken_any (told nd) w
  rw [← hs] at K0
  rw [show tkn (told nd) = (m, tlS nd 0 m) by rw [told, hm]; exact tkn_sh m (by omega) _] at K0
  have HSE : Hid (bts (told nd) = s) := Lib.hid hs.symm
  have HWF := Lib.hid hwf
  have HM := Lib.hid hm
  have HDP := Lib.hid hdeep
  rw [hm] at hfew
  have HK0 := Lib.hid K0
  clear hwf hs hm hdeep hpos K0
  go_enter Tryd.func32, Tryd.ntmps32
  go_wp2_with fail
  refine HK0.out.mono ?_
  rintro e W1 ⟨rfl, hb1⟩
  go_wp2_with fail
  refine (dnew_any W1).mono ?_
  rintro e W2 ⟨u, rfl, hT2, hb2⟩
  obtain ⟨r, hr⟩ : ∃ r, W1.heap.size = r := ⟨_, rfl⟩
  rw [hr] at hT2 hb2
  have hwr : w.heap.size ≤ r := by rw [← hr]; exact hb1.size
  have hz2 : r ≤ W2.heap.size := by rw [← hr]; have := hb2.size; omega
  have HB := Lib.hid hb1
  clear hb1 hr HK0
  go_wp2_with fail
  have hroot : rootN = nd.take (0 + 1) := by
    have h0 := HWF.out.root
    have hl := (List.getElem?_eq_some_iff.1 h0).1
    rw [List.getElem?_eq_getElem hl] at h0
    rw [List.take_succ_eq_append_getElem hl, Option.some.inj h0]
    rfl
  rw [hroot] at hT2
  go_loopw [5, 7] (fun t5 t7 wr => ∃ (k : Nat), t7 = .int .i64 ((k : Int) + 1) ∧ t5 = .string (bts (tlS nd k (m - k))) ∧ k ≤ m ∧ r ≤ wr.heap.size ∧ Hid (Td wr r u (nd.take (k + 1)) ∧ Below r W1 wr)) (fun _ t _ => 5000 - (intOf t).toNat)
  case atStart => exact ⟨0, rfl, rfl, by omega, hz2, Lib.hid ⟨hT2, hb2⟩⟩
  case round =>
    obtain ⟨k, rfl, rfl, hk, hzr, HW⟩ := hrel
    obtain ⟨hT, hb⟩ := HW.out
    generalize hV : wr = V at *
    clear hV hT2 hb2
    by_cases hlt : k < m
    · obtain ⟨x, hx⟩ : ∃ x, nd[k + 1]? = some x := ⟨_, List.getElem?_eq_getElem (by rw [HM.out]; omega)⟩
      have hup := HWF.out.up (k + 1) x (by omega) hx
      have hmay := HWF.out.good (k + 1) x (by omega) hx
      obtain ⟨m1, m2, m3, m4⟩ := may_bounds hmay
      have hins := ins_take HWF.out hx
      have hstk : (stk (nd.take (k + 1)) x.1).length < 64 := by
        rw [stk_take HWF.out (k + 1) x.1 (by omega) hup (by rw [HM.out]; omega)]
        have h1 := HDP.out (k + 1) (by rw [HM.out]; omega)
        rw [stk_step HWF.out (by omega) hx, List.length_append] at h1
        simp at h1
        omega
      have htl : (nd.take (k + 1)).length = k + 1 := by rw [List.length_take, HM.out]; omega
      obtain ⟨L4, hL4⟩ : ∃ L, tlS nd (k + 1) (m - (k + 1)) = L := ⟨_, rfl⟩
      have hrest : tlS nd k (m - k) = sh (k + 1 - x.1) ++ (sh x.2.1.size ++ (x.2.1.data.toList ++ (sh x.2.2.toNat ++ L4))) := by
        rw [show m - k = (m - (k + 1)) + 1 by omega, tlS_cons, tlJ_at hx, hL4, tlP]
        simp only [List.append_assoc]
      rw [hrest]
      have HL4 := Lib.hid hL4
      clear hrest hL4 hx
      obtain ⟨par, nm, ln⟩ := x
      simp only at hup hmay m1 m2 m3 m4 hins hstk ⊢
      obtain ⟨c, rfl⟩ : ∃ c : Nat, ln = (c : Int) := ⟨ln.toNat, by omega⟩
      rw [Int.toNat_natCast]
      obtain ⟨q, hq⟩ : ∃ q, k + 1 - par = q := ⟨_, rfl⟩
      rw [hq]
      obtain ⟨R1, hR1⟩ : ∃ R, sh nm.size ++ (nm.data.toList ++ (sh c ++ L4)) = R := ⟨_, rfl⟩
      obtain ⟨R2, hR2⟩ : ∃ R, nm.data.toList ++ (sh c ++ L4) = R := ⟨_, rfl⟩
      rw [hR1]
      have K1 := taken_any (sh q ++ R1) V
      rw [tkn_sh q (by omega) R1] at K1
      obtain ⟨S, hS⟩ : ∃ S, bts (sh q ++ R1) = S := ⟨_, rfl⟩
      rw [hS] at K1 ⊢
      have i1 : (k : Int) + 1 ≤ (m : Int) := by omega
      have i1' : (k : Int) < (m : Int) := by omega
      have i2 : (k : Int) + 1 < 4096 := by omega
      have i3 : S.toList.isEmpty = false := by
        rw [Lib.toList_data, ← hS, bts_list]
        have := sh_ne q
        cases h : sh q with
        | nil => rw [h] at this; simp at this
        | cons _ _ => rfl
      have i3' : ¬ S.toList = [] := fun h => by rw [h] at i3; simp at i3
      have K64 : Hid (∀ (i : Int), i = (par : Int) → ∀ N : ByteArray, N = nm → ∀ W, Td W r u (nd.take (k + 1)) → r ≤ W.heap.size → Calls Tryd.prog 67 #[.pointer (some ⟨u, 0, none⟩), .int .i64 i, .agg #[.string N, .int .i64 (c : Int)]] W fun e w' => e = .returned (.tuple #[.int .i64 ((k + 1 : Nat) : Int), .int .i64 0]) ∧ Td w' r u (nd.take (k + 2)) ∧ Below r W w') := Lib.hid (fun i hi N hN W hTW h1 => by
        have := dpush_any u r par (nd.take (k + 1)) (nm, (c : Int)) W hTW (by rw [htl]; omega) hmay hstk (by rw [htl]; omega) h1
        rw [hins] at this
        rw [hi, hN]
        exact this)
      have hq2 : ((k : Int) + 1 - (q : Int)) = (par : Int) := by omega
      have hq3 : q ≤ 5000 := by omega
      have HK1 := Lib.hid K1
      have HR1 := Lib.hid hR1
      have HR2 := Lib.hid hR2
      clear hins hstk htl hmay hS K1 hR1 hR2 hq
      go_wp2_with fail
      refine HK1.out.mono ?_
      rintro e W3 ⟨rfl, hb3⟩
      clear HK1
      go_wp2_with fail
      have K2 := taken_any R1 W3
      rw [show tkn R1 = (nm.size, R2) by rw [← HR1.out, HR2.out]; exact tkn_sh nm.size (by omega) R2] at K2
      refine K2.mono ?_
      rintro e W4 ⟨rfl, hb4⟩
      clear K2
      obtain ⟨S2, hS2⟩ : ∃ S, bts R2 = S := ⟨_, rfl⟩
      have hsz2 : S2.size = nm.size + (sh c ++ L4).length := by rw [← hS2, bts_size, ← HR2.out, List.length_append]; simp
      have hmin : min (nm.size : Int) (S2.size : Int) = (nm.size : Int) := by omega
      have hL1 : (nm.size : Int) ≤ (S2.size : Int) := by omega
      have HP : Hid (S2.extract 0 nm.size = nm) := Lib.hid (by rw [extract_bts, ← hS2, bts_list, ← HR2.out, List.take_left' (by simp), bts_back])
      have HD : Hid (S2.extract nm.size S2.size = bts (sh c ++ L4)) := Lib.hid (by rw [ext_end, ← hS2, bts_list, ← HR2.out, List.drop_left' (by simp)])
      rw [hS2]
      clear hS2 hsz2
      have b4 : Below r W1 W4 := (hb.trans (hb3.mono hzr)).trans (hb4.mono (Nat.le_trans hzr hb3.size))
      have hz4 : r ≤ W4.heap.size := Nat.le_trans hzr (Nat.le_trans hb3.size hb4.size)
      have hT4 : Td W4 r u (nd.take (k + 1)) := (hT.below hb3).below hb4
      clear hT hb hb3 hb4 hzr HW
      go_wp2_with fail
      have K3 := taken_any (sh c ++ L4) W4
      rw [tkn_sh c (by omega) L4, ← HD.out] at K3
      refine K3.mono ?_
      rintro e W5 ⟨rfl, hb5⟩
      have b5 := b4.trans (hb5.mono hz4)
      have hz5 : r ≤ W5.heap.size := Nat.le_trans hz4 hb5.size
      have hT5 := hT4.below hb5
      clear K3 hT4 b4 hb5
      go_wp2_with fail
      refine (K64.out _ (by omega) _ HP.out W5 hT5 hz5).mono ?_
      rintro e W6 ⟨rfl, hT6, hb6⟩
      have b6 := b5.trans hb6
      have hz6 : r ≤ W6.heap.size := Nat.le_trans hz5 hb6.size
      have HX := Lib.hid (And.intro hT6 b6)
      clear hT6 b6 hb6 hT5 b5 hmin hL1 K64
      simp only
      go_wp2_with fail
      rw [← HL4.out]
      go_roundw
      case rel => exact ⟨k + 1, by go_num, by rw [show m - (k + 1) = m - (k + 1) from rfl], by omega, hz6, HX⟩
      case measure => simp [intOf]; omega
    · have hkm : k = m := by omega
      subst hkm
      have htk : nd.take (k + 1) = nd := List.take_of_length_le (Nat.le_of_eq HM.out)
      rw [htk] at hT
      have fin : Hid (Calls Tryd.prog 68 #[.pointer (some ⟨u, 0, none⟩)] V fun e w' => e = .returned (.string s) ∧ Below V.heap.size V w') := Lib.hid (by
        have := dtold_any u r nd V hT
        rw [HSE.out] at this
        exact this)
      have i1 : ¬ (k : Int) + 1 ≤ (k : Int) := by omega
      have HTV := Lib.hid hT
      generalize bts (tlS nd k (k - k)) = S at *
      go_wp2_with fail
      refine fin.out.mono ?_
      rintro e W9 ⟨rfl, hb9⟩
      go_wp2_with fail
      go_ret2
      exact ⟨r, u, rfl, hwr, Nat.le_trans hzr hb9.size, HTV.out.below hb9, HB.out.trans ((hb.mono hwr).trans (hb9.mono (Nat.le_trans hwr hzr)))⟩
end Go.Proofs.YtocdinaomkmcbaaDoor

/-! What two trees tell of a node. -/
namespace Go.Proofs.YtocdinaomkmcbaaDoor
open Go.ChangeShapes Go.WideShapes Go.ChangeAt Go.RowKit Go.Shelf
set_option linter.unusedVariables false
attribute [local go_sem] Oper.semAt_some

theorem parent_no (a lo : Nat) (nd : List Nd) (n : Int) (w : World) (hT : Tr w lo a nd) (hn : n < 0 ∨ (nd.length : Int) ≤ n) :
    Calls Tryd.prog 69 #[.pointer (some ⟨a, 0, none⟩), .int .i64 n] w fun e w' => e = .returned (.tuple #[.int .i64 0, .bool false]) ∧ w = w' := by
  have hh := has_any a lo nd n w hT
  have hpos := hT.wf.pos
  rw [decide_eq_false (by omega)] at hh
  have H := Lib.hid hh
  have h0 : ¬ n = 0 := by omega
  have h1 : (n == 0) = false := beq_eq_false_iff_ne.2 h0
  clear hh hT hn hpos
  go_enter Tryd.func69, Tryd.ntmps69
  go_wp2_with fail
  refine H.out.mono ?_
  rintro e w1 ⟨rfl, rfl⟩
  go_wp2_with fail
  go_ret2
  exact ⟨rfl, rfl⟩
theorem depth_no (a lo : Nat) (nd : List Nd) (n : Int) (w : World) (hT : Tr w lo a nd) (hn : n < 0 ∨ (nd.length : Int) ≤ n) :
    Calls Tryd.prog 41 #[.pointer (some ⟨a, 0, none⟩), .int .i64 n] w fun e w' => e = .returned (.int .i64 0) ∧ w = w' := by
  have K := Lib.hid (parent_no a lo nd n w hT hn)
  clear hT hn
  go_enter Tryd.func41, Tryd.ntmps41
  go_wp2_with fail
  refine wp_loop_rounds 1 ?_
  simp only [rounds_succ]
  go_wp2_with fail
  refine K.out.mono ?_
  rintro e w1 ⟨rfl, rfl⟩
  go_wp2_with fail
  go_ret
  exact ⟨rfl, rfl⟩
theorem ddepth_no (a lo : Nat) (nd : List Nd) (n : Int) (w : World) (hT : Td w lo a nd) (hn : n < 0 ∨ (nd.length : Int) ≤ n) :
    Calls Tryd.prog 72 #[.pointer (some ⟨a, 0, none⟩), .int .i64 n] w fun e w' => e = .returned (.int .i64 0) ∧ w = w' := by
  have hh := dhas_any a lo nd n w hT
  rw [decide_eq_false (by omega)] at hh
  have H := Lib.hid hh
  clear hh hT hn
  go_enter Tryd.func72, Tryd.ntmps72
  go_wp2_with fail
  refine H.out.mono ?_
  rintro e w1 ⟨rfl, rfl⟩
  go_wp2_with fail
  go_ret
  exact ⟨rfl, rfl⟩
set_option maxRecDepth 100000 in
theorem stack_no (a lo : Nat) (nd : List Nd) (n : Int) (w : World) (hT : Tr w lo a nd) (hn : n < 0 ∨ (nd.length : Int) ≤ n) :
    Calls Tryd.prog 42 #[.pointer (some ⟨a, 0, none⟩), .int .i64 n] w fun e w' => e = .returned (.tuple #[.slice none 0 0, .int .i64 1]) ∧ Below w.heap.size w w' := by
  have K := Lib.hid (fun (W : World) (hb : Below w.heap.size w W) => by
    have := has_any a lo nd n W (hT.below hb)
    rw [decide_eq_false (by omega)] at this
    exact this)
  have b1 : Below w.heap.size w ((w.alloc (.cells #[.pointer (some ⟨a, 0, none⟩)] 68)).alloc (.cells #[.int .i64 n] 3)) := ((Below.refl _ w).alloc (Nat.le_refl _) _).alloc (by simp) _
  have B1 := Lib.hid b1
  clear hT hn b1
  go_enter Tryd.func42, Tryd.ntmps42
  go_wp2_with fail
  refine (K.out _ B1.out).mono ?_
  rintro e W1 ⟨rfl, hW1⟩
  subst hW1
  go_wp2_with fail
  go_ret2
  exact ⟨rfl, B1.out⟩
end Go.Proofs.YtocdinaomkmcbaaDoor

/-! The law's 'looks', and the law. -/
namespace Go.Proofs.YtocdinaomkmcbaaDoor
open Go.ChangeShapes Go.WideShapes Go.ChangeAt Go.RowKit Go.Shelf
set_option linter.unusedVariables false
attribute [local go_sem] Oper.semAt_some

set_option maxRecDepth 100000 in
set_option maxHeartbeats 8000000 in
theorem looks_no (a lo u lo2 : Nat) (nd : List Nd) (n : Int) (w : World) (hT : Tr w lo a nd) (hU : Td w lo2 u nd) (hn : n < 0 ∨ (nd.length : Int) ≤ n) :
    Calls Tryd.prog 34 #[.pointer (some ⟨a, 0, none⟩), .pointer (some ⟨u, 0, none⟩), .int .i64 n] w fun e w' => e = .returned (.bool true) ∧ Below w.heap.size w w' := by
  have K69 := Lib.hid (parent_no a lo nd n w hT hn)
  have K70 := Lib.hid (dparent_no u lo2 nd n w hU (by omega))
  have K42 := Lib.hid (fun (W : World) (hb : Below w.heap.size w W) => stack_no a lo nd n W (hT.below hb) hn)
  have K71 := Lib.hid (fun (W : World) (hb : Below w.heap.size w W) => dstack_no u lo2 n nd W (hU.below hb) (by omega))
  have K41 := Lib.hid (fun (W : World) (hb : Below w.heap.size w W) => depth_no a lo nd n W (hT.below hb) hn)
  have K72 := Lib.hid (fun (W : World) (hb : Below w.heap.size w W) => ddepth_no u lo2 nd n W (hU.below hb) hn)
  have KS := Lib.hid (fun (W : World) => same_any none none 0 0 [] W (fun i p hp => by simp at hp) (fun i p hp => by simp at hp) (by simp))
  have KP := Lib.hid (fun (W : World) => spoil_any (.slice none 0 0) W.heap.size 0 [] W (World.ownsRow_nil _ _ _ _) (Nat.le_refl _) (by omega))
  clear hT hU hn
  go_enter Tryd.func34, Tryd.ntmps34
  go_wp2_with fail
  refine K69.out.mono ?_
  rintro e W1 ⟨rfl, hW⟩
  subst hW
  go_wp2_with fail
  refine K70.out.mono ?_
  rintro e W1 ⟨rfl, hW⟩
  subst hW
  go_wp2_with fail
  refine (K42.out _ (Below.refl _ _)).mono ?_
  rintro e W1 ⟨rfl, b1⟩
  go_wp2_with fail
  refine (K71.out _ b1).mono ?_
  rintro e W2 ⟨rfl, hW⟩
  subst hW
  go_wp2_with fail
  refine (K41.out _ b1).mono ?_
  rintro e W2 ⟨rfl, hW⟩
  subst hW
  go_wp2_with fail
  refine (K72.out _ b1).mono ?_
  rintro e W2 ⟨rfl, hW⟩
  subst hW
  go_wp2_with fail
  refine (KS.out _).mono ?_
  rintro e W2 ⟨rfl, m2, hW⟩
  have b2 : Below w.heap.size w W2 := by rw [hW]; exact b1.trans (below_drewN _ _ _ b1.size)
  clear hW b1
  go_wp2_with fail
  refine (KP.out _).mono ?_
  rintro e W3 ⟨⟨v3, rfl⟩, hg3⟩
  have b3 : Below w.heap.size w W3 := Below.grown b2 hg3 b2.size (fun j hj => by cases hj)
  clear hg3 b2
  go_wp2_with fail
  refine (K42.out _ b3).mono ?_
  rintro e W4 ⟨rfl, b4⟩
  have b5 := b3.trans (b4.mono b3.size)
  clear b3 b4
  go_wp2_with fail
  refine (KS.out _).mono ?_
  rintro e W5 ⟨rfl, m5, hW⟩
  go_wp2_with fail
  go_ret
  exact ⟨rfl, b5.trans (below_drewN _ _ _ b5.size)⟩

set_option maxRecDepth 100000 in
set_option maxHeartbeats 8000000 in
theorem looks_any (a lo u lo2 n : Nat) (nd : List Nd) (w : World) (hT : Tr w lo a nd) (hU : Td w lo2 u nd) (hn : n < nd.length) (hd : (stk nd n).length ≤ 64) :
    Calls Tryd.prog 34 #[.pointer (some ⟨a, 0, none⟩), .pointer (some ⟨u, 0, none⟩), .int .i64 n] w fun e w' => e = .returned (.bool true) ∧ Below w.heap.size w w' := by
  obtain ⟨P, ok, h69, h70⟩ : ∃ (P : Int) (ok : Bool), (Calls Tryd.prog 69 #[.pointer (some ⟨a, 0, none⟩), .int .i64 n] w fun e w' => e = .returned (.tuple #[.int .i64 P, .bool ok]) ∧ w = w') ∧ (Calls Tryd.prog 70 #[.pointer (some ⟨u, 0, none⟩), .int .i64 n] w fun e w' => e = .returned (.tuple #[.int .i64 P, .bool ok]) ∧ w = w') := by
    rcases Nat.eq_zero_or_pos n with h0 | h0
    · subst h0
      exact ⟨0, false, parent_zero a lo nd w, dparent_no u lo2 nd 0 w hU (by omega)⟩
    · obtain ⟨x, hx⟩ : ∃ x, nd[n]? = some x := ⟨_, List.getElem?_eq_getElem hn⟩
      exact ⟨x.1, true, parent_any a lo n nd x w hT h0 hx, dparent_any u lo2 n nd x w hU h0 hx⟩
  have K69 := Lib.hid h69
  have K70 := Lib.hid h70
  have K42 := Lib.hid (fun (W : World) (hT : Tr W lo a nd) => stack_any a lo n nd W hT hn hd)
  have K71 := Lib.hid (fun (W : World) (hb : Below w.heap.size w W) => dstack_any u lo2 n nd W (hU.below hb) hn hd)
  have K41 := Lib.hid (fun (W : World) (hb : Below w.heap.size w W) => depth_any a lo n nd W (hT.below hb) hn)
  have K72 := Lib.hid (fun (W : World) (hb : Below w.heap.size w W) => ddepth_any u lo2 n nd W (hU.below hb) hn)
  have HT := Lib.hid hT
  generalize stk nd n = R at *
  clear hT hU h69 h70
  go_enter Tryd.func34, Tryd.ntmps34
  go_wp2_with fail
  refine K69.out.mono ?_
  rintro e W1 ⟨rfl, hW⟩
  subst hW
  go_wp2_with fail
  refine K70.out.mono ?_
  rintro e W1 ⟨rfl, hW⟩
  subst hW
  go_wp2_with fail
  refine (K42.out _ HT.out).mono ?_
  rintro e W1 ⟨v1, rfl, o1, b1⟩
  go_wp2_with fail
  refine (K71.out _ b1).mono ?_
  rintro e W2 ⟨v2, rfl, o2, b2⟩
  have o1' := own_below o1 b2
  have b12 := b1.trans (b2.mono b1.size)
  obtain ⟨A1, c1, rfl, at1, _⟩ := own_form o1'
  obtain ⟨A2, c2, rfl, at2, _⟩ := own_form o2
  have H1 := Lib.hid (And.intro o1' at1)
  have H2 := Lib.hid (And.intro o2 at2)
  have hz1 := b1.size
  clear o1 o1' at1 at2 o2 b1 b2
  go_wp2_with fail
  refine (K41.out _ b12).mono ?_
  rintro e W3 ⟨rfl, hW⟩
  subst hW
  go_wp2_with fail
  refine (K72.out _ b12).mono ?_
  rintro e W3 ⟨rfl, hW⟩
  subst hW
  go_wp2_with fail
  refine (same_any A1 A2 c1 c2 R W2 H1.out.2 H2.out.2 (by omega)).mono ?_
  rintro e W3 ⟨rfl, m3, hW⟩
  have e3 : Below W2.heap.size W2 W3 := by rw [hW]; exact below_drewN _ _ _ (Nat.le_refl _)
  have b3 := b12.trans (e3.mono b12.size)
  have p1 := own_below H1.out.1 e3
  have p2 := own_below H2.out.1 e3
  have t3 := HT.out.below b3
  clear hW e3 b12
  go_wp2_with fail
  refine (spoil_any _ w.heap.size R.length (flat R) W3 p1 b3.size (by omega)).mono ?_
  rintro e W4 ⟨⟨v4, rfl⟩, hg4⟩
  have b4 : Below w.heap.size w W4 := Below.grown b3 hg4 b3.size (fun j hj => (p1.lt j hj).1)
  have t4 := t3.row p1 (by decide) (by decide) hg4
  have q2 := keep_other p2 p1 (by decide) hg4
  clear p1 p2 t3 b3 hg4
  go_wp2_with fail
  refine (K42.out _ t4).mono ?_
  rintro e W5 ⟨v5, rfl, o5, b5⟩
  have q5 := own_below q2 b5
  have b15 := b4.trans (b5.mono b4.size)
  obtain ⟨A5, c5, rfl, at5, _⟩ := own_form o5
  have at6 : At W5 A2 R := by
    obtain ⟨A6, c6, h6, at6, _⟩ := own_form q5
    simp only [Value.slice.injEq] at h6
    obtain ⟨rfl, _, _⟩ := h6
    exact at6
  have H5 := Lib.hid (And.intro at5 at6)
  clear o5 q5 q2 at5 at6 t4 b4 b5
  go_wp2_with fail
  refine (same_any A5 A2 c5 c2 R W5 H5.out.1 H5.out.2 (by omega)).mono ?_
  rintro e W6 ⟨rfl, m6, hW⟩
  go_wp2_with fail
  go_ret
  exact ⟨rfl, b15.trans (below_drewN _ _ _ b15.size)⟩
end Go.Proofs.YtocdinaomkmcbaaDoor

/-! The law, walked. -/
namespace Go.Proofs.YtocdinaomkmcbaaDoor
open Go.ChangeShapes Go.WideShapes Go.ChangeAt Go.RowKit Go.Shelf
set_option linter.unusedVariables false
attribute [local go_sem] Oper.semAt_some

set_option maxRecDepth 100000 in
set_option maxHeartbeats 8000000 in
theorem reads_any (s : ByteArray) (w : World) (hE : Env w) (h3 : 3 ≤ w.heap.size) :
    Calls Tryd.prog 7 #[.string s] w fun e w' => e = .returned (.bool true) ∧ Below w.heap.size w w' := by
  have K23 := Lib.hid (fun (W : World) (h1 : Below w.heap.size w W) => alive_any W (hE.below h1 (Nat.le_refl _)) (Nat.le_trans h3 h1.size))
  clear hE h3
  by_cases hx : ∃ nd, Wf nd ∧ Dp nd ∧ nd.length ≤ 4096 ∧ bts (told nd) = s
  · obtain ⟨nd, hwf, hdp, hfew, hs⟩ := hx
    have K31 := Lib.hid (from_any nd s w hwf hfew hdp hs.symm)
    have K32 := Lib.hid (fun (W : World) => dfrom_any nd s W hwf hfew hdp hs.symm)
    have HS := Lib.hid hs
    have HD := Lib.hid hdp
    have hpos := hwf.pos
    clear hs hdp hwf
    go_enter Tryd.func7, Tryd.ntmps7
    go_wp2_with fail
    refine K31.out.mono ?_
    rintro e W1 ⟨lo, a, rfl, hlo, hz1, hT1, b1⟩
    go_wp2_with fail
    refine (K32.out W1).mono ?_
    rintro e W2 ⟨lo2, u, rfl, hlo2, hz2, hU2, b2⟩
    have hT2 := hT1.below b2
    have b12 := b1.trans (b2.mono b1.size)
    have HT := Lib.hid hT2
    have HU := Lib.hid hU2
    have HB := Lib.hid b12
    have KL := Lib.hid (fun (W : World) (hb : Below W2.heap.size W2 W) => dlen_any u lo2 nd W (hU2.below hb))
    have KN := Lib.hid (fun (W : World) (hb : Below W2.heap.size W2 W) (n : Int) (hn : n < 0 ∨ (nd.length : Int) ≤ n) => looks_no a lo u lo2 nd n W (hT2.below hb) (hU2.below hb) hn)
    have KA := Lib.hid (fun (W : World) (hb : Below W2.heap.size W2 W) (n : Nat) (hn : n < nd.length) => looks_any a lo u lo2 n nd W (hT2.below hb) (hU2.below hb) hn (HD.out n hn))
    clear hT1 b1 b2 hT2 hU2 b12 hz1 hz2 hlo hlo2 K31 K32
    go_wp2_with fail
    go_loopw [7] (fun t wr => ∃ k : Nat, t = .int .i64 ((k : Int) - 1) ∧ k ≤ nd.length + 2 ∧ Below W2.heap.size W2 wr) (fun t _ => 5000 - (intOf t + 1).toNat)
    case atStart => exact ⟨0, rfl, by omega, Below.refl _ _⟩
    case round =>
      obtain ⟨k, rfl, hk, hb⟩ := hrel
      generalize hV : wr = V at *
      clear hV
      go_wp2_with fail
      refine (KL.out V hb).mono ?_
      rintro e W3 ⟨rfl, hW⟩
      subst hW
      by_cases hle : k ≤ nd.length + 1
      · have hle' : (k : Int) - 1 ≤ (nd.length : Int) := by omega
        have hlook : Calls Tryd.prog 34 #[.pointer (some ⟨a, 0, none⟩), .pointer (some ⟨u, 0, none⟩), .int .i64 ((k : Int) - 1)] V fun e w' => e = .returned (.bool true) ∧ Below V.heap.size V w' := by
          by_cases h0 : k = 0
          · subst h0
            exact KN.out V hb _ (by omega)
          · by_cases h1 : k = nd.length + 1
            · subst h1
              exact KN.out V hb _ (by omega)
            · have := KA.out V hb (k - 1) (by omega)
              rw [show ((k - 1 : Nat) : Int) = (k : Int) - 1 by omega] at this
              exact this
        have HL := Lib.hid hlook
        clear hlook
        go_wp2_with fail
        refine HL.out.mono ?_
        rintro e W4 ⟨rfl, hb4⟩
        go_wp2_with fail
        go_roundw
        case rel => exact ⟨k + 1, by go_num, by omega, hb.trans (hb4.mono hb.size)⟩
        case measure => simp [intOf]; omega
      · have hle' : ¬ (k : Int) - 1 ≤ (nd.length : Int) := by omega
        have K35 := Lib.hid (len_any a lo nd V (HT.out.below hb))
        have K33 := Lib.hid (KL.out V hb)
        have K36 := Lib.hid (told_any a lo nd V (HT.out.below hb))
        rw [HS.out] at K36
        have hbw : Below w.heap.size w V := HB.out.trans (hb.mono HB.out.size)
        go_wp2_with fail
        refine K35.out.mono ?_
        rintro e W4 ⟨rfl, hW⟩
        subst hW
        go_wp2_with fail
        refine K33.out.mono ?_
        rintro e W4 ⟨rfl, hW⟩
        subst hW
        go_wp2_with fail
        refine K36.out.mono ?_
        rintro e W4 ⟨rfl, hb4⟩
        have b4 := hbw.trans (hb4.mono hbw.size)
        go_wp2_with fail
        refine (K23.out W4 b4).mono ?_
        rintro e W5 ⟨rfl, hb5⟩
        go_wp2_with fail
        go_ret
        exact ⟨rfl, b4.trans (hb5.mono b4.size)⟩
  · have hno : ∀ nd, Wf nd → Dp nd → nd.length ≤ 4096 → bts (told nd) ≠ s := fun nd h1 h2 h3 h4 => hx ⟨nd, h1, h2, h3, h4⟩
    have K31 := Lib.hid (from_no s w hno)
    have K32 := Lib.hid (fun (W : World) => dfrom_no s W hno)
    clear hx hno
    go_enter Tryd.func7, Tryd.ntmps7
    go_wp2_with fail
    refine K31.out.mono ?_
    rintro e W1 ⟨rfl, b1⟩
    go_wp2_with fail
    refine (K32.out W1).mono ?_
    rintro e W2 ⟨rfl, b2⟩
    have b12 := b1.trans (b2.mono b1.size)
    go_wp2_with fail
    refine (K23.out W2 b12).mono ?_
    rintro e W3 ⟨rfl, b3⟩
    go_wp2_with fail
    go_ret
    exact ⟨rfl, b12.trans (b3.mono b12.size)⟩
end Go.Proofs.YtocdinaomkmcbaaDoor
