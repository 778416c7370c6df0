/-
  From of bytes that no tree has (program); the document's tree, its small questions, taken, short, Told, Stack.
-/
import Derived.Test.YtocdinaomkmcbaaDoorKB
import Derived.Deep.QuietTactic
import Derived.Test.YtocdinaomkmcbaaDoorW
/-! The reader at any bytes; Push of anything; From of bytes that no tree has. -/
namespace Go.Proofs.YtocdinaomkmcbaaDoor
open Go.ChangeShapes Go.WideShapes Go.ChangeAt Go.RowKit Go.Shelf
set_option linter.unusedVariables false
attribute [local go_sem] Oper.semAt_some

/-- A reader, bad or not. -/
def RdB (W : World) (r : Nat) (s : ByteArray) (b : Bool) : Prop := W.heap[r]? = some (.cells #[.string s, .bool b] 122 (0, 0))
theorem RdB.cells {W : World} {r : Nat} {s : ByteArray} {b : Bool} (h : RdB W r s b) : W.cell? ⟨r, 0, none⟩ = some (.string s) ∧ W.cell? ⟨r, 1, none⟩ = some (.bool b) ∧ W.frozen? ⟨r, 0, none⟩ = false ∧ W.frozen? ⟨r, 1, none⟩ = false := by
  unfold RdB at h
  exact ⟨Go.Joins.cell_of_block h 0, Go.Joins.cell_of_block h 1, by simp [World.frozen?, h], by simp [World.frozen?, h]⟩
theorem RdB.set {w : World} {r : Nat} {s : ByteArray} {b : Bool} (h : RdB w r s b) (s' : ByteArray) : RdB (w.setCell ⟨r, 0, none⟩ (.string s')) r s' b := Go.Joins.block_setCell (i := 0) h (.string s')
theorem RdB.bad {w : World} {r : Nat} {s : ByteArray} {b : Bool} (h : RdB w r s b) (b' : Bool) : RdB (w.setCell ⟨r, 1, none⟩ (.bool b')) r s b' := Go.Joins.block_setCell (i := 1) h (.bool b')
/-- What the reader's steps leave. -/
def RdT (r : Nat) (w w' : World) (b : Bool) : Prop := ∃ s b', RdB w' r s b' ∧ RdK r w w' ∧ (b = true → b' = true)

set_option maxRecDepth 100000 in
set_option maxHeartbeats 4000000 in
theorem take_more (r n : Nat) (s : ByteArray) (b : Bool) (w : World) (h : RdB w r s b) (hn : n < 4611686018427387904) (hs : s.size < n) :
    Calls Tryd.prog 63 #[.pointer (some ⟨r, 0, none⟩), .int .i64 n] w fun e w' => e = .returned (.string ByteArray.empty) ∧ RdB w' r s true ∧ RdK r w w' := by
  obtain ⟨c0, c1, f0, f1⟩ := h.cells
  have hn1 : ((s.size : Int) < (n : Int)) := by omega
  have HR := Lib.hid h
  clear h
  go_enter Tryd.func63, Tryd.ntmps63
  go_wp2_with fail
  go_ret
  exact ⟨rfl, HR.out.bad true, RdK.set r w 1 _⟩
set_option maxRecDepth 100000 in
set_option maxHeartbeats 4000000 in
theorem take_few (r n : Nat) (s : ByteArray) (b : Bool) (w : World) (h : RdB w r s b) (hn : n ≤ s.size) :
    Calls Tryd.prog 63 #[.pointer (some ⟨r, 0, none⟩), .int .i64 n] w fun e w' => e = .returned (.string (bts (s.data.toList.take n))) ∧ RdB w' r (bts (s.data.toList.drop n)) b ∧ RdK r w w' := by
  obtain ⟨c0, c1, f0, f1⟩ := h.cells
  have hn0 : (0 : Int) ≤ (n : Int) := by omega
  have hn1 : ¬ ((s.size : Int) < (n : Int)) := by omega
  have HP := Lib.hid (extract_bts s n)
  have HD := Lib.hid (ext_end s n)
  have HR := Lib.hid h
  clear h
  go_enter Tryd.func63, Tryd.ntmps63
  go_wp2_with fail
  go_ret
  refine ⟨by rw [← HP.out]; rfl, ?_, RdK.set r w 0 _⟩
  rw [← HD.out]
  exact HR.out.set _
/-- Taking something. -/
theorem take_tot (r n : Nat) (s : ByteArray) (b : Bool) (w : World) (h : RdB w r s b) (hn : n < 4611686018427387904) :
    Calls Tryd.prog 63 #[.pointer (some ⟨r, 0, none⟩), .int .i64 n] w fun e w' => ∃ t, e = .returned (.string t) ∧ RdT r w w' b := by
  by_cases hs : n ≤ s.size
  · exact (take_few r n s b w h hs).mono fun e w' ⟨h1, h2, h3⟩ => ⟨_, h1, _, b, h2, h3, id⟩
  · exact (take_more r n s b w h hn (by omega)).mono fun e w' ⟨h1, h2, h3⟩ => ⟨_, h1, _, true, h2, h3, fun _ => rfl⟩

/-- One byte taken: bad afterwards, or a byte. -/
def One (r : Nat) (w : World) (b : Bool) (e : Ending) (w' : World) : Prop := ∃ (t s : ByteArray) (b' : Bool), e = .returned (.string t) ∧ RdB w' r s b' ∧ RdK r w w' ∧ (b = true → b' = true) ∧ (b' = false → ∃ c : UInt8, t = bts [c])
theorem take_one (r : Nat) (s : ByteArray) (b : Bool) (w : World) (h : RdB w r s b) : Calls Tryd.prog 63 #[.pointer (some ⟨r, 0, none⟩), .int .i64 1] w (One r w b) := by
  by_cases hs : 1 ≤ s.size
  · refine (take_few r 1 s b w h hs).mono fun e w' ⟨h1, h2, h3⟩ => ⟨_, _, b, h1, h2, h3, id, fun _ => ?_⟩
    have hl : s.data.toList.length = s.size := by simp
    match hd : s.data.toList with
    | [] => rw [hd] at hl; simp at hl; omega
    | c :: tl => exact ⟨c, rfl⟩
  · exact (take_more r 1 s b w h (by decide) (by omega)).mono fun e w' ⟨h1, h2, h3⟩ => ⟨_, _, true, h1, h2, h3, fun _ => rfl, fun e => by cases e⟩

/-- A short number, or none. -/
def Short (r : Nat) (w : World) (b : Bool) (e : Ending) (w' : World) : Prop := ∃ n : Nat, e = .returned (.int .i64 n) ∧ n < 2097152 ∧ RdT r w w' b
set_option maxRecDepth 100000 in
set_option maxHeartbeats 8000000 in
theorem rshort_tot (r : Nat) (s : ByteArray) (b : Bool) (w : World) (h : RdB w r s b) :
    Calls Tryd.prog 62 #[.pointer (some ⟨r, 0, none⟩)] w (Short r w b) := by
  have HT := Lib.hid (fun (s' : ByteArray) (b' : Bool) (W : World) (h' : RdB W r s' b') => take_one r s' b' W h')
  have HR := Lib.hid h
  clear h
  go_enter Tryd.func62, Tryd.ntmps62
  go_wp2_with fail
  go_loopw [3, 6] (fun t3 t6 wr => ∃ (i acc : Nat) (s' : ByteArray) (b' : Bool), t6 = .int .i64 i ∧ t3 = .int .i64 acc ∧ ((i = 0 ∧ acc = 0) ∨ (i = 1 ∧ acc < 128) ∨ (i = 2 ∧ acc < 16384) ∨ (i = 3 ∧ acc < 2097152)) ∧ Hid (RdB wr r s' b' ∧ RdK r w wr ∧ (b = true → b' = true))) (fun _ t _ => 3 - (intOf t).toNat)
  case atStart => exact ⟨0, 0, s, b, rfl, rfl, .inl ⟨rfl, rfl⟩, Lib.hid ⟨HR.out, RdK.refl _ _, id⟩⟩
  case round =>
    obtain ⟨i, acc, s', b', rfl, rfl, hcs, HW⟩ := hrel
    obtain ⟨hA, hK, hB⟩ := HW.out
    have H14 := Lib.hid (HT.out s' b' wr hA)
    have HCS := Lib.hid hcs
    have hi3 : i = 0 ∨ i = 1 ∨ i = 2 ∨ i = 3 := by omega
    obtain ⟨c0, c1, f0, f1⟩ := hA.cells
    clear hA hcs hB hK HT
    rcases hi3 with rfl | rfl | rfl | rfl
    · clear c0 c1 f0 f1
      go_wp2_with fail
      refine H14.out.mono ?_
      rintro e W ⟨t, s2, b2, rfl, hA2, hK2, hbb, hone⟩
      obtain ⟨e0, e1, _⟩ := hA2.cells
      have HA2 := Lib.hid hA2
      clear hA2
      cases b2
      · obtain ⟨c, rfl⟩ := hone rfl
        obtain ⟨S, hS⟩ : ∃ S, bts [c] = S := ⟨_, rfl⟩
        have hS0 : 0 < S.size := by rw [← hS, bts_size]; simp
        have hSI : (0 : Int) < (S.size : Int) := by omega
        have hSc : S[0]'hS0 = c := by subst hS; rfl
        rw [hS]
        obtain ⟨d, hd⟩ : ∃ d, c.toNat % 128 = d := ⟨_, rfl⟩
        have hd1 : d < 128 := by omega
        have hand : bits .and .u8 (c.toNat : Int) 127 = (d : Int) := by
          have := and127 ⟨c.toNat, c.toNat_lt⟩
          simp only at this
          rw [this, hd]
        have x1 := HCS.out
        have hor : bits .or .i64 (acc : Int) (d : Int) = ((acc + d : Nat) : Int) := by
          have := or_low (a := acc) (d := d) (i := 0) (by omega) (by decide) hd1
          simpa using this
        obtain ⟨acc', hacc⟩ : ∃ x, acc + d = x := ⟨_, rfl⟩
        rw [hacc] at hor
        have HA := Lib.hid hacc
        clear hacc x1 hS hd
        by_cases hlt : (c.toNat : Int) < 128
        · go_wp2_with fail
          go_ret
          have x1 := HCS.out
          have x3 := HA.out
          exact ⟨acc', rfl, by omega, _, _, HA2.out, HW.out.2.1.trans hK2, fun e => hbb (HW.out.2.2 e)⟩
        · go_wp2_with fail
          have x1 := HCS.out
          have x3 := HA.out
          go_roundw
          case rel => exact ⟨1, acc', s2, false, rfl, rfl, by omega, Lib.hid ⟨HA2.out, HW.out.2.1.trans hK2, fun e => hbb (HW.out.2.2 e)⟩⟩
          case measure => simp [intOf]
      · go_wp2_with fail
        go_ret
        exact ⟨0, rfl, by omega, _, _, HA2.out, HW.out.2.1.trans hK2, fun _ => rfl⟩
    · clear c0 c1 f0 f1
      go_wp2_with fail
      refine H14.out.mono ?_
      rintro e W ⟨t, s2, b2, rfl, hA2, hK2, hbb, hone⟩
      obtain ⟨e0, e1, _⟩ := hA2.cells
      have HA2 := Lib.hid hA2
      clear hA2
      cases b2
      · obtain ⟨c, rfl⟩ := hone rfl
        obtain ⟨S, hS⟩ : ∃ S, bts [c] = S := ⟨_, rfl⟩
        have hS0 : 0 < S.size := by rw [← hS, bts_size]; simp
        have hSI : (0 : Int) < (S.size : Int) := by omega
        have hSc : S[0]'hS0 = c := by subst hS; rfl
        rw [hS]
        obtain ⟨d, hd⟩ : ∃ d, c.toNat % 128 = d := ⟨_, rfl⟩
        have hd1 : d < 128 := by omega
        have hand : bits .and .u8 (c.toNat : Int) 127 = (d : Int) := by
          have := and127 ⟨c.toNat, c.toNat_lt⟩
          simp only at this
          rw [this, hd]
        have x1 := HCS.out
        have hor : bits .or .i64 (acc : Int) ((d : Int) * 128) = ((acc + d * 128 : Nat) : Int) := by
          have := or_low (a := acc) (d := d) (i := 7) (by omega) (by decide) hd1
          simpa using this
        obtain ⟨acc', hacc⟩ : ∃ x, acc + d * 128 = x := ⟨_, rfl⟩
        rw [hacc] at hor
        have HA := Lib.hid hacc
        clear hacc x1 hS hd
        by_cases hlt : (c.toNat : Int) < 128
        · go_wp2_with fail
          go_ret
          have x1 := HCS.out
          have x3 := HA.out
          exact ⟨acc', rfl, by omega, _, _, HA2.out, HW.out.2.1.trans hK2, fun e => hbb (HW.out.2.2 e)⟩
        · go_wp2_with fail
          have x1 := HCS.out
          have x3 := HA.out
          go_roundw
          case rel => exact ⟨2, acc', s2, false, rfl, rfl, by omega, Lib.hid ⟨HA2.out, HW.out.2.1.trans hK2, fun e => hbb (HW.out.2.2 e)⟩⟩
          case measure => simp [intOf]
      · go_wp2_with fail
        go_ret
        exact ⟨0, rfl, by omega, _, _, HA2.out, HW.out.2.1.trans hK2, fun _ => rfl⟩
    · clear c0 c1 f0 f1
      go_wp2_with fail
      refine H14.out.mono ?_
      rintro e W ⟨t, s2, b2, rfl, hA2, hK2, hbb, hone⟩
      obtain ⟨e0, e1, _⟩ := hA2.cells
      have HA2 := Lib.hid hA2
      clear hA2
      cases b2
      · obtain ⟨c, rfl⟩ := hone rfl
        obtain ⟨S, hS⟩ : ∃ S, bts [c] = S := ⟨_, rfl⟩
        have hS0 : 0 < S.size := by rw [← hS, bts_size]; simp
        have hSI : (0 : Int) < (S.size : Int) := by omega
        have hSc : S[0]'hS0 = c := by subst hS; rfl
        rw [hS]
        obtain ⟨d, hd⟩ : ∃ d, c.toNat % 128 = d := ⟨_, rfl⟩
        have hd1 : d < 128 := by omega
        have hand : bits .and .u8 (c.toNat : Int) 127 = (d : Int) := by
          have := and127 ⟨c.toNat, c.toNat_lt⟩
          simp only at this
          rw [this, hd]
        have x1 := HCS.out
        have hor : bits .or .i64 (acc : Int) ((d : Int) * 16384) = ((acc + d * 16384 : Nat) : Int) := by
          have := or_low (a := acc) (d := d) (i := 14) (by omega) (by decide) hd1
          simpa using this
        obtain ⟨acc', hacc⟩ : ∃ x, acc + d * 16384 = x := ⟨_, rfl⟩
        rw [hacc] at hor
        have HA := Lib.hid hacc
        clear hacc x1 hS hd
        by_cases hlt : (c.toNat : Int) < 128
        · go_wp2_with fail
          go_ret
          have x1 := HCS.out
          have x3 := HA.out
          exact ⟨acc', rfl, by omega, _, _, HA2.out, HW.out.2.1.trans hK2, fun e => hbb (HW.out.2.2 e)⟩
        · go_wp2_with fail
          have x1 := HCS.out
          have x3 := HA.out
          go_roundw
          case rel => exact ⟨3, acc', s2, false, rfl, rfl, by omega, Lib.hid ⟨HA2.out, HW.out.2.1.trans hK2, fun e => hbb (HW.out.2.2 e)⟩⟩
          case measure => simp [intOf]
      · go_wp2_with fail
        go_ret
        exact ⟨0, rfl, by omega, _, _, HA2.out, HW.out.2.1.trans hK2, fun _ => rfl⟩
    · go_wp2_with fail
      go_ret
      exact ⟨0, rfl, by omega, s', true, RdB.bad (HW.out.1) true, HW.out.2.1.trans (RdK.set r wr 1 _), fun _ => rfl⟩
end Go.Proofs.YtocdinaomkmcbaaDoor

/-! Push of anything; From of bytes that no tree has. -/
namespace Go.Proofs.YtocdinaomkmcbaaDoor
open Go.ChangeShapes Go.WideShapes Go.ChangeAt Go.RowKit Go.Shelf
set_option linter.unusedVariables false
attribute [local go_sem] Oper.semAt_some

set_option maxRecDepth 100000 in
set_option maxHeartbeats 4000000 in
/-- A node that is none. -/
theorem push_no (a lo : Nat) (n : Int) (nd : List Nd) (p : Pl) (w : World) (hT : Tr w lo a nd) (hn : (nd.length : Int) ≤ n ∨ n < 0) :
    Calls Tryd.prog 64 #[.pointer (some ⟨a, 0, none⟩), .int .i64 n, .agg #[.string p.1, .int .i64 p.2]] w fun e w' => e = .returned (.tuple #[.int .i64 0, .int .i64 1]) ∧ Below w.heap.size w w' := by
  have K74 := Lib.hid (fun (W : World) (hb : Below w.heap.size w W) => by
    have := has_any a lo nd n W (hT.below hb)
    rw [decide_eq_false (by omega)] at this
    exact this)
  clear hT hn
  have b1 : Below w.heap.size w (w.alloc (.cells #[.string p.1, .int .i64 p.2] 48)) := (Below.refl _ w).alloc (Nat.le_refl _) _
  have B1 := Lib.hid b1
  clear b1
  go_enter Tryd.func64, Tryd.ntmps64
  go_wp2_with fail
  refine (K74.out _ B1.out).mono ?_
  rintro e W1 ⟨rfl, hW1⟩
  subst hW1
  go_wp2_with fail
  go_ret2
  exact ⟨rfl, B1.out⟩
set_option maxRecDepth 100000 in
set_option maxHeartbeats 4000000 in
/-- A place that may not be. -/
theorem push_bad (a lo n : Nat) (nd : List Nd) (p : Pl) (w : World) (hT : Tr w lo a nd) (hn : n < nd.length) (hm : may p = false) :
    Calls Tryd.prog 64 #[.pointer (some ⟨a, 0, none⟩), .int .i64 n, .agg #[.string p.1, .int .i64 p.2]] w fun e w' => e = .returned (.tuple #[.int .i64 0, .int .i64 30]) ∧ Below w.heap.size w w' := by
  have K74 := Lib.hid (fun (W : World) (hb : Below w.heap.size w W) => by
    have := has_any a lo nd n W (hT.below hb)
    rw [decide_eq_true ⟨by omega, by omega⟩] at this
    exact this)
  have K50 := Lib.hid (fun (W : World) => by
    have := mayBe_any p W
    rw [hm] at this
    exact this)
  clear hT hn
  have b1 : Below w.heap.size w (w.alloc (.cells #[.string p.1, .int .i64 p.2] 48)) := (Below.refl _ w).alloc (Nat.le_refl _) _
  have B1 := Lib.hid b1
  have hz : (w.alloc (.cells #[.string p.1, .int .i64 p.2] 48)).heap.size = w.heap.size + 1 := by simp
  have HZ := Lib.hid hz
  clear b1 hz
  go_enter Tryd.func64, Tryd.ntmps64
  go_wp2_with fail
  refine (K74.out _ B1.out).mono ?_
  rintro e W1 ⟨rfl, hW1⟩
  subst hW1
  go_wp2_with fail
  refine (K50.out _).mono ?_
  rintro e W2 ⟨rfl, b2⟩
  go_wp2_with fail
  go_ret2
  exact ⟨rfl, B1.out.trans (b2.mono (by rw [HZ.out]; omega))⟩
set_option maxRecDepth 100000 in
set_option maxHeartbeats 4000000 in
/-- A stack that is as high as may be. -/
theorem push_deep (a lo n : Nat) (nd : List Nd) (p : Pl) (w : World) (hT : Tr w lo a nd) (hn : n < nd.length) (hm : may p = true) (hd : (stk nd n).length = 64) :
    Calls Tryd.prog 64 #[.pointer (some ⟨a, 0, none⟩), .int .i64 n, .agg #[.string p.1, .int .i64 p.2]] w fun e w' => e = .returned (.tuple #[.int .i64 0, .int .i64 31]) ∧ Below w.heap.size w w' := by
  have K74 := Lib.hid (fun (W : World) (hb : Below w.heap.size w W) => by
    have := has_any a lo nd n W (hT.below hb)
    rw [decide_eq_true ⟨by omega, by omega⟩] at this
    exact this)
  have K50 := Lib.hid (fun (W : World) => by
    have := mayBe_any p W
    rw [hm] at this
    exact this)
  have K41 := Lib.hid (fun (W : World) (hb : Below w.heap.size w W) => by
    have := depth_any a lo n nd W (hT.below hb) hn
    rw [hd] at this
    exact (this : Calls Tryd.prog 41 #[.pointer (some ⟨a, 0, none⟩), .int .i64 n] W fun e w' => e = .returned (.int .i64 64) ∧ W = w'))
  clear hT hn
  have b1 : Below w.heap.size w (w.alloc (.cells #[.string p.1, .int .i64 p.2] 48)) := (Below.refl _ w).alloc (Nat.le_refl _) _
  have B1 := Lib.hid b1
  have hz : (w.alloc (.cells #[.string p.1, .int .i64 p.2] 48)).heap.size = w.heap.size + 1 := by simp
  have HZ := Lib.hid hz
  clear b1 hz
  go_enter Tryd.func64, Tryd.ntmps64
  go_wp2_with fail
  refine (K74.out _ B1.out).mono ?_
  rintro e W1 ⟨rfl, hW1⟩
  subst hW1
  go_wp2_with fail
  refine (K50.out _).mono ?_
  rintro e W2 ⟨rfl, b2⟩
  have B2 := Lib.hid (B1.out.trans (b2.mono (by rw [HZ.out]; omega)))
  clear b2
  go_wp2_with fail
  refine (K41.out _ B2.out).mono ?_
  rintro e W3 ⟨rfl, hW3⟩
  subst hW3
  go_wp2_with fail
  go_ret2
  exact ⟨rfl, B2.out⟩
set_option maxRecDepth 100000 in
set_option maxHeartbeats 4000000 in
/-- A full tree. -/
theorem push_full (a lo n : Nat) (nd : List Nd) (p : Pl) (w : World) (hT : Tr w lo a nd) (hn : n < nd.length) (hm : may p = true) (hd : (stk nd n).length < 64) (hs : seekN nd (n, p) = none) (hl : nd.length = 4096) :
    Calls Tryd.prog 64 #[.pointer (some ⟨a, 0, none⟩), .int .i64 n, .agg #[.string p.1, .int .i64 p.2]] w fun e w' => e = .returned (.tuple #[.int .i64 0, .int .i64 3]) ∧ Below w.heap.size w w' := by
  have K74 := Lib.hid (fun (W : World) (hb : Below w.heap.size w W) => by
    have := has_any a lo nd n W (hT.below hb)
    rw [decide_eq_true ⟨by omega, by omega⟩] at this
    exact this)
  have K50 := Lib.hid (fun (W : World) => by
    have := mayBe_any p W
    rw [hm] at this
    exact this)
  have K41 := Lib.hid (fun (W : World) (hb : Below w.heap.size w W) => depth_any a lo n nd W (hT.below hb) hn)
  have HT := Lib.hid hT
  obtain ⟨gn, cn, bm, D, y1, y2, y3, x4, x5⟩ := hT.ex
  have HX := Lib.hid (TX.mk y1 y2 y3)
  clear y1 y2 y3
  have hdi : ¬ ((stk nd n).length : Int) = 64 := by omega
  have hdd : decide ((stk nd n).length = 64) = false := decide_eq_false (by omega)
  have hdb : (((stk nd n).length : Int) == 64) = false := beq_eq_false_iff_ne.2 hdi
  generalize (stk nd n).length = dd at *
  clear hT
  go_enter Tryd.func64, Tryd.ntmps64
  have b1 : Below w.heap.size w (w.alloc (.cells #[.string p.1, .int .i64 p.2] 48)) := (Below.refl _ w).alloc (Nat.le_refl _) _
  go_wp2_with fail
  refine (K74.out _ b1).mono ?_
  rintro e W1 ⟨rfl, hW1⟩
  subst hW1
  go_wp2_with fail
  refine (K50.out _).mono ?_
  rintro e W2 ⟨rfl, b2⟩
  have b12 := b1.trans (b2.mono (by simp))
  go_wp2_with fail
  refine (K41.out _ b12).mono ?_
  rintro e W3 ⟨rfl, hW3⟩
  subst hW3
  have hq0 : W2.cell? ⟨w.heap.size, 0, none⟩ = some (.string p.1) := cell_below (w := w.alloc (.cells #[.string p.1, .int .i64 p.2] 48)) (by simp) b2 (Nat.le_refl _)
  have hq1 : W2.cell? ⟨w.heap.size, 1, none⟩ = some (.int .i64 p.2) := cell_below (w := w.alloc (.cells #[.string p.1, .int .i64 p.2] 48)) (by simp) b2 (Nat.le_refl _)
  have hzq : w.heap.size < W2.heap.size := by have := b2.size; simp at this; omega
  go_wp2_with fail
  have b13 : Below w.heap.size w (W2.alloc (.cells #[.int .i64 (n : Int), .string p.1, .int .i64 p.2] 140)) := b12.alloc b12.size _
  have hT3 := HT.out.below b13
  obtain ⟨x1, x2, x3⟩ := HX.out.below b13
  have hsn := seek_none hs
  have hkl := keyL_is n p (by have := hT3.few; omega) hm
  have hhas := x4.2.2 n p (by have := hT3.few; omega) hm (fun i hi => hsn i hi)
  have hce : ∀ W : World, (zeroValue 3).run Tryd.prog W = .ok (.int .i64 0) W := fun W => by rfl
  have hlook : Hid (∀ k : Nat, (Instr.lookup 135 (.map (some bm)) (.agg #[.int .i64 (n : Int), .string p.1, .int .i64 p.2]) true).run Tryd.prog ((W2.alloc (.cells #[.int .i64 (n : Int), .string p.1, .int .i64 p.2] 140)).drewN k) = .ok (.tuple #[.int .i64 0, .bool false]) ((W2.alloc (.cells #[.int .i64 (n : Int), .string p.1, .int .i64 p.2] 140)).drewN k)) := Lib.hid (fun k => by
    have x3' : ((W2.alloc (.cells #[.int .i64 (n : Int), .string p.1, .int .i64 p.2] 140)).drewN k).ownsMap Tryd.prog 140 (plainElem Tryd.prog 3) bm nd.length D := x3
    obtain ⟨v, ps, hrun, hv⟩ := x3'.look_ok keyed140 Tryd.underlying135 (hce _) (plainElem_int Tryd.underlying3 (by decide : (Lit.int .i64 0).wf = true)) hkl
    rw [Maps.atKey_of_not_has hhas] at hv
    obtain ⟨c, rfl, hc, _⟩ := plainElem_int_inv Tryd.underlying3 hv
    rw [hhas] at hrun
    simp only [Prod.mk.injEq, DataW.lit.injEq, Lit.int.injEq, true_and] at hc
    rw [hc.1]
    exact hrun)
  have cm : (W2.alloc (.cells #[.int .i64 (n : Int), .string p.1, .int .i64 p.2] 140)).cell? ⟨a, 1, none⟩ = some (.map (some bm)) := by rw [cell_of_row _ a 1 _ 137 (0, 0) x1]; rfl
  have ca : (W2.alloc (.cells #[.int .i64 (n : Int), .string p.1, .int .i64 p.2] 140)).cell? ⟨a, 0, none⟩ = some (.slice (some ⟨gn, 0, none⟩) nd.length cn) := by rw [cell_of_row _ a 0 _ 137 (0, 0) x1]; rfl
  have q0 : (W2.alloc (.cells #[.int .i64 (n : Int), .string p.1, .int .i64 p.2] 140)).cell? ⟨w.heap.size, 0, none⟩ = some (.string p.1) := cell_below hq0 ((Below.refl _ W2).alloc (Nat.le_refl _) _) (Nat.le_refl _)
  have k0 : (W2.alloc (.cells #[.int .i64 (n : Int), .string p.1, .int .i64 p.2] 140)).ownsRow W2.heap.size 140 3 (.slice (some ⟨W2.heap.size, 0, none⟩) 1 1) 1 [.int .i64 (n : Int), .string p.1, .int .i64 p.2] :=
    ⟨rfl, .inr ⟨W2.heap.size, 1, #[.int .i64 (n : Int), .string p.1, .int .i64 p.2], rfl, Nat.le_refl _, heap_alloc_new W2 _, Nat.le_refl _, by decide, rfl, rfl⟩⟩
  have HLK := hlook.out
  have hmbw : w.heap.size < W2.heap.size := hzq
  clear hlook x1 x2 x3 hT3 b1 b2 b12 hq0 hq1 hce
  generalize hW3 : W2.alloc (.cells #[.int .i64 (n : Int), .string p.1, .int .i64 p.2] 140) = W3 at *
  clear hW3
  generalize W2.heap.size = mb at *
  have m0 : W3.cell? ⟨mb, 0, none⟩ = some (.int .i64 (n : Int)) := k0.cellAt 0 (by omega)
  have m1 : W3.cell? ⟨mb, 1, none⟩ = some (.string p.1) := k0.cellAt 1 (by omega)
  have m2 : W3.cell? ⟨mb, 2, none⟩ = some (.int .i64 p.2) := k0.cellAt 2 (by omega)
  go_quiet (fail)
  clear HLK m0 m1 m2
  have e4 := below_drewN W3.heap.size W3 nq (Nat.le_refl _)
  have k4 := own_below k0 e4
  have b14 := b13.trans (e4.mono b13.size)
  have ca4 := cell_below ca e4 (Nat.le_refl _)
  have q04 := cell_below q0 e4 (Nat.le_refl _)
  have hgoal : True := trivial
  clear k0 b13 ca cm q0 e4
  generalize W3.drewN nq = W4 at *
  rw [hl] at ca4
  have B14 := Lib.hid b14
  clear b14 q04 k4
  go_wp2_with fail
  go_ret2
  exact ⟨rfl, B14.out⟩

/-- What Push leaves. -/
def Pushed (a lo : Nat) (w : World) (e : Ending) (w' : World) : Prop := ∃ (i c : Int) (nd' : List Nd), e = .returned (.tuple #[.int .i64 i, .int .i64 c]) ∧ Tr w' lo a nd' ∧ Dp nd' ∧ Below lo w w'
theorem push_tot (a lo : Nat) (n : Int) (nd : List Nd) (p : Pl) (w : World) (hT : Tr w lo a nd) (hD : Dp nd) (hlo : lo ≤ w.heap.size) :
    Calls Tryd.prog 64 #[.pointer (some ⟨a, 0, none⟩), .int .i64 n, .agg #[.string p.1, .int .i64 p.2]] w (Pushed a lo w) := by
  have low : ∀ (c : Int), (Calls Tryd.prog 64 #[.pointer (some ⟨a, 0, none⟩), .int .i64 n, .agg #[.string p.1, .int .i64 p.2]] w fun e w' => e = .returned (.tuple #[.int .i64 0, .int .i64 c]) ∧ Below w.heap.size w w') → Calls Tryd.prog 64 #[.pointer (some ⟨a, 0, none⟩), .int .i64 n, .agg #[.string p.1, .int .i64 p.2]] w (Pushed a lo w) :=
    fun c h => h.mono fun e w' ⟨h1, h2⟩ => ⟨0, c, nd, h1, hT.below h2, hD, h2.mono hlo⟩
  by_cases hn : (nd.length : Int) ≤ n ∨ n < 0
  · exact low _ (push_no a lo n nd p w hT hn)
  · obtain ⟨m, rfl⟩ : ∃ m : Nat, n = (m : Int) := ⟨n.toNat, by omega⟩
    have hm : m < nd.length := by omega
    cases hmay : may p
    · exact low _ (push_bad a lo m nd p w hT hm hmay)
    · have h64 := hD m hm
      by_cases hd : (stk nd m).length = 64
      · exact low _ (push_deep a lo m nd p w hT hm hmay hd)
      · have hd2 : (stk nd m).length < 64 := by omega
        have hfew := hT.few
        have any : nd.length ≤ 4095 → _ := fun hl => (push_any a lo m nd p w hT hm hmay hd2 hl hlo).mono fun e w' ⟨h1, h2, _, h4⟩ => (⟨_, 0, _, h1, h2, ins_dp hT.wf hD hm hmay hd2, h4⟩ : Pushed a lo w e w')
        by_cases hl : nd.length ≤ 4095
        · exact any hl
        · cases hs : seekN nd (m, p) with
          | none => exact low _ (push_full a lo m nd p w hT hm hmay hd2 hs (by omega))
          | some i => exact (push_old a lo m i nd p w hT hm hmay hd2 hs hlo).mono fun e w' ⟨h1, h2⟩ => ⟨_, 0, nd, h1, hT.below h2, hD, h2.mono hlo⟩

set_option maxRecDepth 100000 in
set_option maxHeartbeats 8000000 in
/-- Bytes that no tree has. -/
theorem from_no (s : ByteArray) (w : World) (hno : ∀ nd, Wf nd → Dp nd → nd.length ≤ 4096 → bts (told nd) ≠ s) :
    Calls Tryd.prog 31 #[.string s] w fun e w' => e = .returned (.tuple #[.pointer none, .int .i64 4]) ∧ Below w.heap.size w w' := by
  have HNO := Lib.hid hno
  clear hno
  go_enter Tryd.func31, Tryd.ntmps31
  go_wp2_with fail
  obtain ⟨r, hr⟩ : ∃ r, w.heap.size = r := ⟨_, rfl⟩
  have hA0 : RdB (w.alloc (.cells #[.string s, .bool false] 122)) r s false := by rw [← hr]; exact World.alloc_heap_new w _
  have b0 : Below w.heap.size w (w.alloc (.cells #[.string s, .bool false] 122)) := (Below.refl _ w).alloc (Nat.le_refl _) _
  have hzA : (w.alloc (.cells #[.string s, .bool false] 122)).heap.size = r + 1 := by rw [← hr]; simp
  generalize w.alloc (.cells #[.string s, .bool false] 122) = WA at *
  rw [hr] at b0 ⊢
  have HR := Lib.hid hr
  clear hr
  refine (new_any WA).mono ?_
  rintro e W1 ⟨u, rfl, hT1, hb1⟩
  rw [hzA] at hT1 hb1
  have hA1 : RdB W1 r s false := (hb1.block r (by omega)).trans hA0
  have b1 := b0.trans (hb1.mono (Nat.le_succ r))
  go_wp2_with fail
  refine (rshort_tot r s false W1 hA1).mono ?_
  rintro e W2 ⟨m, rfl, hm, s2, f2, hA2, hK2, _⟩
  have hT2 := hT1.rd hK2 (Nat.lt_succ_self r)
  have b2 := b1.trans (hK2.below (Nat.le_refl r))
  have hz2 : r + 1 ≤ W2.heap.size := by have := hb1.size; have := hK2.size; omega
  clear hA0 hA1 hT1 hK2 hb1 b1 b0
  go_wp2_with fail
  go_loopw [6] (fun t wr => ∃ (l : Nat) (s' : ByteArray) (f' : Bool) (nd : List Nd), t = .int .i64 l ∧ l < 2097152 ∧ r + 1 ≤ wr.heap.size ∧ Hid (RdB wr r s' f' ∧ Tr wr (r + 1) u nd ∧ Dp nd ∧ Below r w wr)) (fun t _ => (intOf t).toNat)
  case atStart => exact ⟨m, s2, f2, rootN, rfl, hm, hz2, Lib.hid ⟨hA2, hT2, dp_root, b2⟩⟩
  case round =>
    obtain ⟨l, s', f', nd, rfl, hl, hzr, HW⟩ := hrel
    obtain ⟨hA, hT, hDp, hb⟩ := HW.out
    obtain ⟨_, cb, _⟩ := hA.cells
    generalize hV : wr = V at *
    clear hV
    have HDp := Lib.hid hDp
    clear hDp
    by_cases hgo : 0 < l ∧ f' = false
    · obtain ⟨hlt, rfl⟩ := hgo
      have hlt' : (0 : Int) < (l : Int) := by omega
      have h35 := len_any u (r + 1) nd V hT
      have hfew := hT.few
      go_wp2_with fail
      refine h35.mono ?_
      rintro e Wq ⟨rfl, hWq⟩
      subst hWq
      clear h35
      go_wp2_with fail
      refine (rshort_tot r s' false V hA).mono ?_
      rintro e W3 ⟨q, rfl, hq, s3, f3, hA3, hK3, _⟩
      have hT3 := hT.rd hK3 (Nat.lt_succ_self r)
      have b3 := hb.trans (hK3.below (Nat.le_refl r))
      have z3 : r + 1 ≤ W3.heap.size := by rw [hK3.size]; exact hzr
      clear hA hT hb hK3 cb
      go_wp2_with fail
      refine (rshort_tot r s3 f3 W3 hA3).mono ?_
      rintro e W4 ⟨q2, rfl, hq2, s4, f4, hA4, hK4, _⟩
      have hT4 := hT3.rd hK4 (Nat.lt_succ_self r)
      have b4 := b3.trans (hK4.below (Nat.le_refl r))
      have z4 : r + 1 ≤ W4.heap.size := by rw [hK4.size]; exact z3
      clear hA3 hT3 b3 hK4
      go_wp2_with fail
      refine (take_tot r q2 s4 f4 W4 hA4 (by omega)).mono ?_
      rintro e W5 ⟨nm, rfl, s5, f5, hA5, hK5, _⟩
      have hT5 := hT4.rd hK5 (Nat.lt_succ_self r)
      have b5 := b4.trans (hK5.below (Nat.le_refl r))
      have z5 : r + 1 ≤ W5.heap.size := by rw [hK5.size]; exact z4
      clear hA4 hT4 b4 hK5
      go_wp2_with fail
      refine (rshort_tot r s5 f5 W5 hA5).mono ?_
      rintro e W6 ⟨c, rfl, hc, s6, f6, hA6, hK6, _⟩
      have hT6 := hT5.rd hK6 (Nat.lt_succ_self r)
      have b6 := b5.trans (hK6.below (Nat.le_refl r))
      have z6 : r + 1 ≤ W6.heap.size := by rw [hK6.size]; exact z5
      clear hA5 hT5 b5 hK6
      go_wp2_with fail
      refine (push_tot u (r + 1) _ nd (nm, (c : Int)) W6 hT6 HDp.out z6).mono ?_
      rintro e W7 ⟨i7, c7, nd7, rfl, hT7, hD7, hb7⟩
      have hA7 : RdB W7 r s6 f6 := (hb7.block r (Nat.lt_succ_self r)).trans hA6
      have b7 := b6.trans (hb7.mono (Nat.le_succ r))
      have z7 : r + 1 ≤ W7.heap.size := Nat.le_trans z6 hb7.size
      obtain ⟨_, _, g0, g1⟩ := hA7.cells
      have HX := Lib.hid (And.intro hA7 (And.intro hT7 (And.intro hD7 b7)))
      clear hA6 hT6 b6 hb7 hA7 hT7 hD7 b7 HDp
      simp only
      by_cases h7 : c7 = 0
      · subst h7
        go_wp2_with fail
        go_roundw
        case rel => exact ⟨l - 1, s6, f6, nd7, by go_num, by omega, z7, HX⟩
        case measure => simp [intOf]; omega
      · have h7b : (c7 != 0) = true := by simp [bne, h7]
        go_wp2_with fail
        go_roundw
        case rel => exact ⟨l - 1, s6, true, nd7, by go_num, by omega, by rw [size_setCell]; exact z7, Lib.hid ⟨HX.out.1.bad true, HX.out.2.1.rd (RdK.set r W7 1 _) (Nat.lt_succ_self r), HX.out.2.2.1, HX.out.2.2.2.trans ((RdK.set r W7 1 _).below (Nat.le_refl r))⟩⟩
        case measure => simp [intOf]; omega
    · have fin : ∀ (g : Bool), RdB V r s' g → g = f' → True := fun _ _ _ => trivial
      have hTT := told_any u (r + 1) nd V hT
      have hne : ¬ bts (told nd) = s := HNO.out nd hT.wf HDp.out hT.few
      obtain ⟨y, hy⟩ : ∃ y, bts (told nd) = y := ⟨_, rfl⟩
      rw [hy] at hTT hne
      have hs2 : ¬ y.toList = s.toList := fun h => hne (by rw [Lib.toList_data, Lib.toList_data] at h; exact ByteArray.ext (Array.toList_inj.1 h))
      have hs3 : (y.toList == s.toList) = false := beq_eq_false_iff_ne.2 hs2
      have HTT := Lib.hid hTT
      have HB := Lib.hid hb
      have HZ := Lib.hid (And.intro hzr HR.out)
      clear hTT hT hb hy HDp hA fin
      cases f'
      · have hlt' : ¬ (0 : Int) < (l : Int) := by
          intro h
          exact hgo ⟨by omega, rfl⟩
        clear hgo
        go_wp2_with fail
        refine HTT.out.mono ?_
        rintro e W9 ⟨rfl, hb9⟩
        go_wp2_with fail
        go_ret2
        exact ⟨rfl, by rw [HZ.out.2]; exact HB.out.trans (hb9.mono (by have := HZ.out.1; omega))⟩
      · clear hgo
        by_cases hlt' : (0 : Int) < (l : Int)
        · go_wp2_with fail
          go_ret2
          exact ⟨rfl, by rw [HZ.out.2]; exact HB.out⟩
        · go_wp2_with fail
          go_ret2
          exact ⟨rfl, by rw [HZ.out.2]; exact HB.out⟩
end Go.Proofs.YtocdinaomkmcbaaDoor

/-! The document's tree: what it has, its small questions. -/
namespace Go.Proofs.YtocdinaomkmcbaaDoor
open Go.ChangeShapes Go.WideShapes Go.ChangeAt Go.RowKit Go.Shelf
set_option linter.unusedVariables false
attribute [local go_sem] Oper.semAt_some

/-- The document's tree at a place of the heap: the nodes behind the first. -/
structure Td (W : World) (lo a : Nat) (nd : List Nd) : Prop where
  wf : Wf nd
  few : nd.length ≤ 4096
  ex : ∃ v, W.heap[a]? = some (.cells #[v] 130 (0, 0)) ∧ W.ownsRow lo 155 3 v (nd.length - 1) (flatN nd.tail)
  lo : lo ≤ a
theorem Td.lt {W : World} {lo a : Nat} {nd : List Nd} (h : Td W lo a nd) : a < W.heap.size := by
  obtain ⟨v, h1, _⟩ := h.ex
  exact (Array.getElem?_eq_some_iff.1 h1).1
theorem Td.below {W W' : World} {lo a : Nat} {nd : List Nd} (h : Td W lo a nd) (hb : Below W.heap.size W W') : Td W' lo a nd := by
  have hlt := h.lt
  obtain ⟨h1, h2, ⟨v, x1, x2⟩, h3⟩ := h
  exact ⟨h1, h2, ⟨v, by rw [hb.block a hlt]; exact x1, own_below x2 hb⟩, h3⟩
/-- The cells that reading it reads. -/
theorem Td.cells {W : World} {lo a : Nat} {nd : List Nd} (h : Td W lo a nd) : ∃ A c, W.cell? ⟨a, 0, none⟩ = some (.slice A ((nd.length - 1 : Nat) : Nat) c) ∧ ∀ (i : Nat) (x : Nd), nd[i + 1]? = some x → ∃ g, A = some ⟨g, 0, none⟩ ∧ W.cell? ⟨g, i * 3, none⟩ = some (.int .i64 (x.1 : Int)) ∧ W.cell? ⟨g, i * 3 + 1, none⟩ = some (.string x.2.1) ∧ W.cell? ⟨g, i * 3 + 2, none⟩ = some (.int .i64 x.2.2) := by
  obtain ⟨h1, h2, ⟨v, x1, x2⟩, h3⟩ := h
  have hc : W.cell? ⟨a, 0, none⟩ = some v := by rw [cell_of_row W a 0 _ 130 (0, 0) x1]; rfl
  have hx2 := x2
  rcases x2.2 with ⟨rfl, h0⟩ | ⟨g, cap, cur, rfl, _⟩
  · refine ⟨none, 0, by rw [hc, h0], fun i x hx => ?_⟩
    have := (List.getElem?_eq_some_iff.1 hx).1
    omega
  · refine ⟨some ⟨g, 0, none⟩, cap, hc, fun i x hx => ⟨g, rfl, ?_⟩⟩
    have hi := (List.getElem?_eq_some_iff.1 hx).1
    have hx' : nd.tail[i]? = some x := by rw [List.getElem?_tail]; exact hx
    obtain ⟨f0, f1, f2⟩ := flatN_get nd.tail i x hx'
    exact ⟨(hx2.cellAt _ (by omega)).trans f0, (hx2.cellAt _ (by omega)).trans f1, (hx2.cellAt _ (by omega)).trans f2⟩

set_option maxRecDepth 100000 in
theorem dnew_any (w : World) : Calls Tryd.prog 66 #[] w fun e w' => ∃ a, e = .returned (.pointer (some ⟨a, 0, none⟩)) ∧ Td w' w.heap.size a rootN ∧ Below w.heap.size w w' := by
  have hT : Td (w.alloc (.cells #[.slice none 0 0] 130)) w.heap.size w.heap.size rootN := ⟨root_wf, by decide, ⟨.slice none 0 0, World.alloc_heap_new w _, World.ownsRow_nil _ _ _ _⟩, Nat.le_refl _⟩
  have hb : Below w.heap.size w (w.alloc (.cells #[.slice none 0 0] 130)) := (Below.refl _ w).alloc (Nat.le_refl _) _
  have HT := Lib.hid (And.intro hT hb)
  clear hT hb
  go_enter Tryd.func66, Tryd.ntmps66
  go_wp2_with fail
  go_ret
  exact ⟨_, rfl, HT.out.1, HT.out.2⟩
theorem dlen_any (a lo : Nat) (nd : List Nd) (w : World) (hT : Td w lo a nd) :
    Calls Tryd.prog 33 #[.pointer (some ⟨a, 0, none⟩)] w fun e w' => e = .returned (.int .i64 nd.length) ∧ w = w' := by
  obtain ⟨A, c, c0, _⟩ := hT.cells
  have hpos := hT.wf.pos
  have hfew := hT.few
  obtain ⟨m, hm⟩ : ∃ m, nd.length - 1 = m := ⟨_, rfl⟩
  have e1 : ((nd.length : Nat) : Int) = (m : Int) + 1 := by omega
  have hm2 : m ≤ 4095 := by omega
  rw [hm] at c0
  have HE := Lib.hid e1
  clear hT e1 hm
  go_enter Tryd.func33, Tryd.ntmps33
  go_wp2_with fail
  go_ret
  exact ⟨by rw [HE.out]; rfl, rfl⟩
theorem dhas_any (a lo : Nat) (nd : List Nd) (n : Int) (w : World) (hT : Td w lo a nd) :
    Calls Tryd.prog 87 #[.pointer (some ⟨a, 0, none⟩), .int .i64 n] w fun e w' => e = .returned (.bool (decide (0 ≤ n ∧ n < nd.length))) ∧ w = w' := by
  obtain ⟨A, c, c0, _⟩ := hT.cells
  have hpos := hT.wf.pos
  obtain ⟨m, hm⟩ : ∃ m, nd.length - 1 = m := ⟨_, rfl⟩
  have hm2 : (nd.length : Int) = (m : Int) + 1 := by omega
  rw [hm] at c0
  clear hT hm
  by_cases h0 : 0 ≤ n
  · by_cases h1 : n ≤ (m : Int)
    · have HD : Hid (decide (0 ≤ n ∧ n < nd.length) = true) := Lib.hid (decide_eq_true ⟨h0, by omega⟩)
      generalize decide (0 ≤ n ∧ n < (nd.length : Int)) = d at *
      clear hm2 hpos
      go_enter Tryd.func87, Tryd.ntmps87
      go_wp2_with fail
      go_ret
      exact ⟨by rw [HD.out]; rfl, rfl⟩
    · have HD : Hid (decide (0 ≤ n ∧ n < nd.length) = false) := Lib.hid (decide_eq_false (fun h => h1 (by omega)))
      have h2 : decide (n ≤ (m : Int)) = false := decide_eq_false h1
      clear h1
      generalize decide (0 ≤ n ∧ n < (nd.length : Int)) = d at *
      clear hm2 hpos
      go_enter Tryd.func87, Tryd.ntmps87
      go_wp2_with fail
      go_ret
      exact ⟨by rw [HD.out]; rfl, rfl⟩
  · have HD : Hid (decide (0 ≤ n ∧ n < nd.length) = false) := Lib.hid (decide_eq_false (fun h => h0 h.1))
    generalize decide (0 ≤ n ∧ n < (nd.length : Int)) = d at *
    clear hm2 hpos
    go_enter Tryd.func87, Tryd.ntmps87
    go_wp2_with fail
    go_ret
    exact ⟨by rw [HD.out]; rfl, rfl⟩
theorem dparent_no (a lo : Nat) (nd : List Nd) (n : Int) (w : World) (hT : Td w lo a nd) (hn : n ≤ 0 ∨ (nd.length : Int) ≤ n) :
    Calls Tryd.prog 70 #[.pointer (some ⟨a, 0, none⟩), .int .i64 n] w fun e w' => e = .returned (.tuple #[.int .i64 0, .bool false]) ∧ w = w' := by
  have hh := dhas_any a lo nd n w hT
  by_cases h0 : n = 0
  · subst h0
    rw [decide_eq_true ⟨by omega, by have := hT.wf.pos; omega⟩] at hh
    have H := Lib.hid hh
    clear hh hT hn
    go_enter Tryd.func70, Tryd.ntmps70
    go_wp2_with fail
    refine H.out.mono ?_
    rintro e w1 ⟨rfl, rfl⟩
    go_wp2_with fail
    go_ret2
    exact ⟨rfl, rfl⟩
  · rw [decide_eq_false (by omega)] at hh
    have H := Lib.hid hh
    clear hh hT hn
    go_enter Tryd.func70, Tryd.ntmps70
    go_wp2_with fail
    refine H.out.mono ?_
    rintro e w1 ⟨rfl, rfl⟩
    go_wp2_with fail
    go_ret2
    exact ⟨rfl, rfl⟩
theorem dparent_any (a lo n : Nat) (nd : List Nd) (x : Nd) (w : World) (hT : Td w lo a nd) (hn : 1 ≤ n) (hx : nd[n]? = some x) :
    Calls Tryd.prog 70 #[.pointer (some ⟨a, 0, none⟩), .int .i64 n] w fun e w' => e = .returned (.tuple #[.int .i64 x.1, .bool true]) ∧ w = w' := by
  have hh := dhas_any a lo nd n w hT
  have hlt := (List.getElem?_eq_some_iff.1 hx).1
  have hfew := hT.few
  rw [decide_eq_true ⟨by omega, by omega⟩] at hh
  have H := Lib.hid hh
  obtain ⟨A, c, c0, hc⟩ := hT.cells
  obtain ⟨m, rfl⟩ : ∃ m, n = m + 1 := ⟨n - 1, by omega⟩
  obtain ⟨g, rfl, c1, c2, c3⟩ := hc m x hx
  obtain ⟨k, hk⟩ : ∃ k, nd.length - 1 = k := ⟨_, rfl⟩
  rw [hk] at c0
  obtain ⟨n1, hn1⟩ : ∃ z : Int, ((m + 1 : Nat) : Int) = z := ⟨_, rfl⟩
  rw [hn1] at H ⊢
  have h0 : (0 : Int) ≤ (m : Int) := by omega
  have h1 : (m : Int) < (k : Int) := by omega
  have h2 : ¬ n1 = 0 := by omega
  have h3 : (n1 == 0) = false := beq_eq_false_iff_ne.2 h2
  have h5 : n1 - 1 = (m : Int) := by omega
  have h6 : IntKind.i64.wrap (n1 - 1) = (m : Int) := by rw [IntKind.wrap_i64]; omega
  have h7 : (m : Int) ≤ 4096 := by omega
  have h8 : k ≤ 4096 := by omega
  clear hh hT hc hx hlt hk hn1 hn
  go_enter Tryd.func70, Tryd.ntmps70
  go_wp2_with fail
  refine H.out.mono ?_
  rintro e w1 ⟨rfl, rfl⟩
  go_wp2_with fail
  go_ret2
  exact ⟨rfl, rfl⟩
end Go.Proofs.YtocdinaomkmcbaaDoor

/-! The document's tree: Depth, short numbers. -/
namespace Go.Proofs.YtocdinaomkmcbaaDoor
open Go.ChangeShapes Go.WideShapes Go.ChangeAt Go.RowKit Go.Shelf
set_option linter.unusedVariables false
attribute [local go_sem] Oper.semAt_some

set_option maxHeartbeats 1000000 in
theorem ddepth_any (a lo n : Nat) (nd : List Nd) (w : World) (hT : Td w lo a nd) (hn : n < nd.length) :
    Calls Tryd.prog 72 #[.pointer (some ⟨a, 0, none⟩), .int .i64 n] w fun e w' => e = .returned (.int .i64 (stk nd n).length) ∧ w = w' := by
  have hwf := hT.wf
  have hfew := hT.few
  have hh := dhas_any a lo nd n w hT
  rw [decide_eq_true ⟨by omega, by omega⟩] at hh
  have H := Lib.hid hh
  have HWF := Lib.hid hwf
  have hsl := stk_len hwf n hn
  obtain ⟨A, c, c0, hc⟩ := hT.cells
  obtain ⟨k, hk⟩ : ∃ k, nd.length - 1 = k := ⟨_, rfl⟩
  rw [hk] at c0
  have hkl : nd.length = k + 1 := by have := hwf.pos; omega
  have HK := Lib.hid hkl
  have HC := Lib.hid hc
  have hk2 : k ≤ 4096 := by omega
  have hnk : n ≤ k := by omega
  clear hT hwf hh hk hc hkl hn hfew
  go_enter Tryd.func72, Tryd.ntmps72
  go_wp2_with fail
  refine H.out.mono ?_
  rintro e w1 ⟨rfl, hw1⟩
  subst hw1
  go_wp2_with fail
  go_loop [1, 5] (fun t1 t5 => ∃ m d : Nat, t1 = .int .i64 m ∧ t5 = .int .i64 d ∧ m ≤ k ∧ Hid (d + (stk nd m).length = (stk nd n).length)) (fun t1 _ => (intOf t1).toNat)
  case atStart => exact ⟨n, 0, rfl, rfl, hnk, Lib.hid (by omega)⟩
  case round =>
    obtain ⟨m, d, rfl, rfl, hm, HD⟩ := hrel
    by_cases h0 : m = 0
    · subst h0
      have HF : Hid ((stk nd n).length = d) := Lib.hid (by have := HD.out; rw [stk_zero] at this; simp at this; omega)
      go_wp2_with fail
      go_ret
      exact ⟨by rw [HF.out]; rfl, rfl⟩
    · obtain ⟨j, rfl⟩ : ∃ j, m = j + 1 := ⟨m - 1, by omega⟩
      obtain ⟨x, hx⟩ : ∃ x, nd[j + 1]? = some x := ⟨_, List.getElem?_eq_getElem (by rw [HK.out]; omega)⟩
      have hu := HWF.out.up (j + 1) x (by omega) hx
      obtain ⟨g, rfl, c1, c2, c3⟩ := HC.out j x hx
      have HN : Hid (d + 1 + (stk nd x.1).length = (stk nd n).length) := Lib.hid (by have := HD.out; rw [stk_step HWF.out (by omega) hx] at this; simp at this; omega)
      have hd : d ≤ 4096 := by have := HD.out; omega
      obtain ⟨z, hz⟩ : ∃ z : Int, ((j + 1 : Nat) : Int) = z := ⟨_, rfl⟩
      rw [hz]
      have z1 : (0 : Int) < z := by omega
      have z2 : z - 1 = (j : Int) := by omega
      have z3 : (j : Int) < (k : Int) := by omega
      have z4 : (0 : Int) ≤ (j : Int) := by omega
      have z5 : (j : Int) ≤ 4096 := by omega
      clear hx HD hz h0
      generalize x.1 = y at *
      go_wp2_with fail
      go_round
      case rel => exact ⟨y, d + 1, rfl, by go_num, by omega, HN⟩
      case measure => simp [intOf]; omega
end Go.Proofs.YtocdinaomkmcbaaDoor

/-! The document's 'taken', at any bytes. -/
namespace Go.Proofs.YtocdinaomkmcbaaDoor
open Go.ChangeShapes Go.WideShapes Go.ChangeAt Go.RowKit Go.Shelf
set_option linter.unusedVariables false
attribute [local go_sem] Oper.semAt_some

/-- What it takes. -/
def tkn : List UInt8 → Nat × List UInt8
  | [] => (0, [])
  | a :: r => if a.toNat < 128 then (a.toNat, r) else match r with
    | [] => (0, [])
    | b :: r => if b.toNat < 128 then (a.toNat % 128 + b.toNat * 128, r) else match r with
      | [] => (0, [])
      | c :: r => if c.toNat < 128 then (a.toNat % 128 + b.toNat % 128 * 128 + c.toNat * 16384, r) else (0, [])

set_option maxRecDepth 100000 in
set_option maxHeartbeats 8000000 in
theorem tkn_0  (w : World) : Calls Tryd.prog 65 #[.string (bts ([]))] w fun e w' => e = .returned (.tuple #[.int .i64 ((0 : Nat) : Int), .string (bts [])]) ∧ Below w.heap.size w w' := by
  obtain ⟨S, hS⟩ : ∃ S, bts ([]) = S := ⟨_, rfl⟩
  have hsz : S.size = 0 := by rw [← hS, bts_size]; rfl
  have iend : ¬ ((0 : Int) < (S.size : Int)) := by omega
  have HX : Hid (ByteArray.empty = S) := Lib.hid (by rw [← hS]; rfl)
  rw [hS]
  clear hS hsz 
  go_enter Tryd.func65, Tryd.ntmps65
  go_wp2_with fail
  refine wp_loop_rounds 1 ?_
  simp only [rounds_succ]
  go_wp2_with fail
  go_ret2
  exact ⟨by rw [← HX.out]; rfl, Below.refl _ _⟩
set_option maxRecDepth 100000 in
set_option maxHeartbeats 8000000 in
theorem tkn_a (a : UInt8) (r : List UInt8) (ha : a.toNat < 128) (w : World) : Calls Tryd.prog 65 #[.string (bts (a :: r))] w fun e w' => e = .returned (.tuple #[.int .i64 ((a.toNat : Nat) : Int), .string (bts r)]) ∧ Below w.heap.size w w' := by
  obtain ⟨S, hS⟩ : ∃ S, bts (a :: r) = S := ⟨_, rfl⟩
  have hsz : S.size = r.length + 1 := by rw [← hS, bts_size]; rfl
  have p0 : 0 < S.size := by omega
  have e0 : S[0]'p0 = a := by subst hS; rfl
  have i0 : (0 : Int) < (S.size : Int) := by omega
  have HX : Hid (S.extract 1 S.size = bts r) := Lib.hid (by rw [ext_end, ← hS, bts_list]; rfl)
  obtain ⟨da, hda⟩ : ∃ d : Nat, a.toNat % 128 = d := ⟨_, rfl⟩
  have ga : da < 128 := by omega
  have ka : (a.toNat : Int) % 128 = (da : Int) := by omega
  have la : (a.toNat : Int) < 128 := by omega
  have HV : Hid (((a.toNat : Nat) : Int) = ((da : Nat) : Int)) := Lib.hid (by omega)
  rw [HV.out, hS]
  clear HV
  clear hS hsz hda ha
  go_enter Tryd.func65, Tryd.ntmps65
  go_wp2_with fail
  refine wp_loop_rounds 1 ?_
  simp only [rounds_succ]
  go_wp2_with fail
  have ile : (1 : Int) ≤ (S.size : Int) := by omega
  clear i0
  go_quiet (fail)
  go_wp2_with fail
  go_ret2
  exact ⟨by rw [← HX.out]; first | rfl | (simp; try omega), below_drewN _ _ _ (Nat.le_refl _)⟩
set_option maxRecDepth 100000 in
set_option maxHeartbeats 8000000 in
theorem tkn_1 (a : UInt8) (ha : ¬ a.toNat < 128) (w : World) : Calls Tryd.prog 65 #[.string (bts (a :: []))] w fun e w' => e = .returned (.tuple #[.int .i64 ((0 : Nat) : Int), .string (bts [])]) ∧ Below w.heap.size w w' := by
  obtain ⟨S, hS⟩ : ∃ S, bts (a :: []) = S := ⟨_, rfl⟩
  have hsz : S.size = 1 := by rw [← hS, bts_size]; rfl
  have p0 : 0 < S.size := by omega
  have e0 : S[0]'p0 = a := by subst hS; rfl
  have i0 : (0 : Int) < (S.size : Int) := by omega
  have iend : ¬ ((1 : Int) < (S.size : Int)) := by omega
  have HX : Hid (ByteArray.empty = bts []) := Lib.hid rfl
  obtain ⟨da, hda⟩ : ∃ d : Nat, a.toNat % 128 = d := ⟨_, rfl⟩
  have ga : da < 128 := by omega
  have ka : (a.toNat : Int) % 128 = (da : Int) := by omega
  have la : ¬ (a.toNat : Int) < 128 := by omega
  rw [hS]
  clear hS hsz hda ha
  go_enter Tryd.func65, Tryd.ntmps65
  go_wp2_with fail
  refine wp_loop_rounds 2 ?_
  simp only [rounds_succ]
  go_wp2_with fail
  simp only [rounds_succ]
  go_wp2_with fail
  go_ret2
  exact ⟨by rw [← HX.out]; rfl, Below.refl _ _⟩
set_option maxRecDepth 100000 in
set_option maxHeartbeats 8000000 in
theorem tkn_b (a : UInt8) (b : UInt8) (r : List UInt8) (ha : ¬ a.toNat < 128) (hb : b.toNat < 128) (w : World) : Calls Tryd.prog 65 #[.string (bts (a :: b :: r))] w fun e w' => e = .returned (.tuple #[.int .i64 ((a.toNat % 128 + b.toNat * 128 : Nat) : Int), .string (bts r)]) ∧ Below w.heap.size w w' := by
  obtain ⟨S, hS⟩ : ∃ S, bts (a :: b :: r) = S := ⟨_, rfl⟩
  have hsz : S.size = r.length + 2 := by rw [← hS, bts_size]; rfl
  have p0 : 0 < S.size := by omega
  have e0 : S[0]'p0 = a := by subst hS; rfl
  have i0 : (0 : Int) < (S.size : Int) := by omega
  have p1 : 1 < S.size := by omega
  have e1 : S[1]'p1 = b := by subst hS; rfl
  have i1 : (1 : Int) < (S.size : Int) := by omega
  have HX : Hid (S.extract 2 S.size = bts r) := Lib.hid (by rw [ext_end, ← hS, bts_list]; rfl)
  obtain ⟨da, hda⟩ : ∃ d : Nat, a.toNat % 128 = d := ⟨_, rfl⟩
  have ga : da < 128 := by omega
  have ka : (a.toNat : Int) % 128 = (da : Int) := by omega
  have la : ¬ (a.toNat : Int) < 128 := by omega
  obtain ⟨db, hdb⟩ : ∃ d : Nat, b.toNat % 128 = d := ⟨_, rfl⟩
  have gb : db < 128 := by omega
  have kb : (b.toNat : Int) % 128 = (db : Int) := by omega
  have lb : (b.toNat : Int) < 128 := by omega
  have HV : Hid (((a.toNat % 128 + b.toNat * 128 : Nat) : Int) = ((da + db * 128 : Nat) : Int)) := Lib.hid (by omega)
  rw [HV.out, hS]
  clear HV
  clear hS hsz hda ha hdb hb
  go_enter Tryd.func65, Tryd.ntmps65
  go_wp2_with fail
  refine wp_loop_rounds 2 ?_
  simp only [rounds_succ]
  go_wp2_with fail
  simp only [rounds_succ]
  go_wp2_with fail
  have ile : (2 : Int) ≤ (S.size : Int) := by omega
  clear i0 i1
  go_quiet (fail)
  go_wp2_with fail
  go_ret2
  exact ⟨by rw [← HX.out]; first | rfl | (simp; try omega), below_drewN _ _ _ (Nat.le_refl _)⟩
set_option maxRecDepth 100000 in
set_option maxHeartbeats 8000000 in
theorem tkn_2 (a : UInt8) (b : UInt8) (ha : ¬ a.toNat < 128) (hb : ¬ b.toNat < 128) (w : World) : Calls Tryd.prog 65 #[.string (bts (a :: b :: []))] w fun e w' => e = .returned (.tuple #[.int .i64 ((0 : Nat) : Int), .string (bts [])]) ∧ Below w.heap.size w w' := by
  obtain ⟨S, hS⟩ : ∃ S, bts (a :: b :: []) = S := ⟨_, rfl⟩
  have hsz : S.size = 2 := by rw [← hS, bts_size]; rfl
  have p0 : 0 < S.size := by omega
  have e0 : S[0]'p0 = a := by subst hS; rfl
  have i0 : (0 : Int) < (S.size : Int) := by omega
  have p1 : 1 < S.size := by omega
  have e1 : S[1]'p1 = b := by subst hS; rfl
  have i1 : (1 : Int) < (S.size : Int) := by omega
  have iend : ¬ ((2 : Int) < (S.size : Int)) := by omega
  have HX : Hid (ByteArray.empty = bts []) := Lib.hid rfl
  obtain ⟨da, hda⟩ : ∃ d : Nat, a.toNat % 128 = d := ⟨_, rfl⟩
  have ga : da < 128 := by omega
  have ka : (a.toNat : Int) % 128 = (da : Int) := by omega
  have la : ¬ (a.toNat : Int) < 128 := by omega
  obtain ⟨db, hdb⟩ : ∃ d : Nat, b.toNat % 128 = d := ⟨_, rfl⟩
  have gb : db < 128 := by omega
  have kb : (b.toNat : Int) % 128 = (db : Int) := by omega
  have lb : ¬ (b.toNat : Int) < 128 := by omega
  rw [hS]
  clear hS hsz hda ha hdb hb
  go_enter Tryd.func65, Tryd.ntmps65
  go_wp2_with fail
  refine wp_loop_rounds 3 ?_
  simp only [rounds_succ]
  go_wp2_with fail
  simp only [rounds_succ]
  go_wp2_with fail
  simp only [rounds_succ]
  go_wp2_with fail
  go_ret2
  exact ⟨by rw [← HX.out]; rfl, Below.refl _ _⟩
set_option maxRecDepth 100000 in
set_option maxHeartbeats 8000000 in
theorem tkn_c (a : UInt8) (b : UInt8) (c : UInt8) (r : List UInt8) (ha : ¬ a.toNat < 128) (hb : ¬ b.toNat < 128) (hc : c.toNat < 128) (w : World) : Calls Tryd.prog 65 #[.string (bts (a :: b :: c :: r))] w fun e w' => e = .returned (.tuple #[.int .i64 ((a.toNat % 128 + b.toNat % 128 * 128 + c.toNat * 16384 : Nat) : Int), .string (bts r)]) ∧ Below w.heap.size w w' := by
  obtain ⟨S, hS⟩ : ∃ S, bts (a :: b :: c :: r) = S := ⟨_, rfl⟩
  have hsz : S.size = r.length + 3 := by rw [← hS, bts_size]; rfl
  have p0 : 0 < S.size := by omega
  have e0 : S[0]'p0 = a := by subst hS; rfl
  have i0 : (0 : Int) < (S.size : Int) := by omega
  have p1 : 1 < S.size := by omega
  have e1 : S[1]'p1 = b := by subst hS; rfl
  have i1 : (1 : Int) < (S.size : Int) := by omega
  have p2 : 2 < S.size := by omega
  have e2 : S[2]'p2 = c := by subst hS; rfl
  have i2 : (2 : Int) < (S.size : Int) := by omega
  have HX : Hid (S.extract 3 S.size = bts r) := Lib.hid (by rw [ext_end, ← hS, bts_list]; rfl)
  obtain ⟨da, hda⟩ : ∃ d : Nat, a.toNat % 128 = d := ⟨_, rfl⟩
  have ga : da < 128 := by omega
  have ka : (a.toNat : Int) % 128 = (da : Int) := by omega
  have la : ¬ (a.toNat : Int) < 128 := by omega
  obtain ⟨db, hdb⟩ : ∃ d : Nat, b.toNat % 128 = d := ⟨_, rfl⟩
  have gb : db < 128 := by omega
  have kb : (b.toNat : Int) % 128 = (db : Int) := by omega
  have lb : ¬ (b.toNat : Int) < 128 := by omega
  obtain ⟨dc, hdc⟩ : ∃ d : Nat, c.toNat % 128 = d := ⟨_, rfl⟩
  have gc : dc < 128 := by omega
  have kc : (c.toNat : Int) % 128 = (dc : Int) := by omega
  have lc : (c.toNat : Int) < 128 := by omega
  have HV : Hid (((a.toNat % 128 + b.toNat % 128 * 128 + c.toNat * 16384 : Nat) : Int) = ((da + db * 128 + dc * 16384 : Nat) : Int)) := Lib.hid (by omega)
  rw [HV.out, hS]
  clear HV
  clear hS hsz hda ha hdb hb hdc hc
  go_enter Tryd.func65, Tryd.ntmps65
  go_wp2_with fail
  refine wp_loop_rounds 3 ?_
  simp only [rounds_succ]
  go_wp2_with fail
  simp only [rounds_succ]
  go_wp2_with fail
  simp only [rounds_succ]
  go_wp2_with fail
  have ile : (3 : Int) ≤ (S.size : Int) := by omega
  clear i0 i1 i2
  go_quiet (fail)
  go_wp2_with fail
  go_ret2
  exact ⟨by rw [← HX.out]; first | rfl | (simp; try omega), below_drewN _ _ _ (Nat.le_refl _)⟩
set_option maxRecDepth 100000 in
set_option maxHeartbeats 8000000 in
theorem tkn_3 (a : UInt8) (b : UInt8) (c : UInt8) (r : List UInt8) (ha : ¬ a.toNat < 128) (hb : ¬ b.toNat < 128) (hc : ¬ c.toNat < 128) (w : World) : Calls Tryd.prog 65 #[.string (bts (a :: b :: c :: r))] w fun e w' => e = .returned (.tuple #[.int .i64 ((0 : Nat) : Int), .string (bts [])]) ∧ Below w.heap.size w w' := by
  obtain ⟨S, hS⟩ : ∃ S, bts (a :: b :: c :: r) = S := ⟨_, rfl⟩
  have hsz : S.size = r.length + 3 := by rw [← hS, bts_size]; rfl
  have p0 : 0 < S.size := by omega
  have e0 : S[0]'p0 = a := by subst hS; rfl
  have i0 : (0 : Int) < (S.size : Int) := by omega
  have p1 : 1 < S.size := by omega
  have e1 : S[1]'p1 = b := by subst hS; rfl
  have i1 : (1 : Int) < (S.size : Int) := by omega
  have p2 : 2 < S.size := by omega
  have e2 : S[2]'p2 = c := by subst hS; rfl
  have i2 : (2 : Int) < (S.size : Int) := by omega
  have HX : Hid (ByteArray.empty = bts []) := Lib.hid rfl
  obtain ⟨da, hda⟩ : ∃ d : Nat, a.toNat % 128 = d := ⟨_, rfl⟩
  have ga : da < 128 := by omega
  have ka : (a.toNat : Int) % 128 = (da : Int) := by omega
  have la : ¬ (a.toNat : Int) < 128 := by omega
  obtain ⟨db, hdb⟩ : ∃ d : Nat, b.toNat % 128 = d := ⟨_, rfl⟩
  have gb : db < 128 := by omega
  have kb : (b.toNat : Int) % 128 = (db : Int) := by omega
  have lb : ¬ (b.toNat : Int) < 128 := by omega
  obtain ⟨dc, hdc⟩ : ∃ d : Nat, c.toNat % 128 = d := ⟨_, rfl⟩
  have gc : dc < 128 := by omega
  have kc : (c.toNat : Int) % 128 = (dc : Int) := by omega
  have lc : ¬ (c.toNat : Int) < 128 := by omega
  rw [hS]
  clear hS hsz hda ha hdb hb hdc hc
  by_cases i3 : (3 : Int) < (S.size : Int)
  all_goals
    go_enter Tryd.func65, Tryd.ntmps65
    go_wp2_with fail
    refine wp_loop_rounds 4 ?_
    simp only [rounds_succ]
    go_wp2_with fail
    simp only [rounds_succ]
    go_wp2_with fail
    simp only [rounds_succ]
    go_wp2_with fail
    simp only [rounds_succ]
    go_wp2_with fail
    go_ret2
    exact ⟨by rw [← HX.out]; rfl, Below.refl _ _⟩

theorem taken_any (l : List UInt8) (w : World) : Calls Tryd.prog 65 #[.string (bts l)] w fun e w' => e = .returned (.tuple #[.int .i64 (tkn l).1, .string (bts (tkn l).2)]) ∧ Below w.heap.size w w' := by
  match l with
  | [] => exact tkn_0 w
  | a :: r =>
    by_cases ha : a.toNat < 128
    · rw [show tkn (a :: r) = (a.toNat, r) by simp [tkn, ha]]
      exact tkn_a a r ha w
    · match r with
      | [] => rw [show tkn [a] = (0, []) by simp [tkn, ha]]; exact tkn_1 a ha w
      | b :: r =>
        by_cases hb : b.toNat < 128
        · rw [show tkn (a :: b :: r) = (a.toNat % 128 + b.toNat * 128, r) by simp [tkn, ha, hb]]
          exact tkn_b a b r ha hb w
        · match r with
          | [] => rw [show tkn [a, b] = (0, []) by simp [tkn, ha, hb]]; exact tkn_2 a b ha hb w
          | c :: r =>
            by_cases hc : c.toNat < 128
            · rw [show tkn (a :: b :: c :: r) = (a.toNat % 128 + b.toNat % 128 * 128 + c.toNat * 16384, r) by simp [tkn, ha, hb, hc]]
              exact tkn_c a b c r ha hb hc w
            · rw [show tkn (a :: b :: c :: r) = (0, []) by simp [tkn, ha, hb, hc]]
              exact tkn_3 a b c r ha hb hc w
theorem tkn_lt (l : List UInt8) : (tkn l).1 < 2097152 := by
  have m : ∀ x : UInt8, x.toNat < 256 := fun x => x.toNat_lt
  unfold tkn
  split
  · decide
  · split
    · omega
    · split
      · decide
      · split
        · omega
        · split
          · decide
          · split
            · simp only; omega
            · decide
theorem tkn_len (l : List UInt8) : (tkn l).2.length ≤ l.length := by
  unfold tkn
  split
  · simp
  · split
    · simp
    · split
      · simp
      · split
        · simp; omega
        · split
          · simp
          · split
            · simp; omega
            · simp
/-- What a short number is told by is what is taken. -/
theorem tkn_sh (n : Nat) (h : n < 2097152) (more : List UInt8) : tkn (sh n ++ more) = (n, more) := by
  have lo : ∀ k, k < 256 → (UInt8.ofNat k).toNat = k := fun k hk => by rw [UInt8.toNat_ofNat']; omega
  by_cases h1 : n < 128
  · rw [sh_small h1]
    have := lo n (by omega)
    simp [tkn, this, h1]
  · rw [sh_step (by omega) h]
    have t1 := lo (n % 128 + 128) (by omega)
    by_cases h2 : n / 128 < 128
    · rw [sh_small h2]
      have t2 := lo (n / 128) (by omega)
      have x1 : ¬ n % 128 + 128 < 128 := by omega
      simp only [List.cons_append, List.nil_append, tkn, t1, t2, if_neg x1, if_pos h2, Prod.mk.injEq, and_true]
      omega
    · rw [sh_step (by omega) (by omega)]
      have t2 := lo (n / 128 % 128 + 128) (by omega)
      have h3 : n / 128 / 128 < 128 := by omega
      rw [sh_small h3]
      have t3 := lo (n / 128 / 128) (by omega)
      have x1 : ¬ n % 128 + 128 < 128 := by omega
      have x2 : ¬ n / 128 % 128 + 128 < 128 := by omega
      simp only [List.cons_append, List.nil_append, tkn, t1, t2, t3, if_neg x1, if_neg x2, if_pos h3, Prod.mk.injEq, and_true]
      omega
end Go.Proofs.YtocdinaomkmcbaaDoor

/-! The document's short numbers, and what a tree is told by. -/
namespace Go.Proofs.YtocdinaomkmcbaaDoor
open Go.ChangeShapes Go.WideShapes Go.ChangeAt Go.RowKit Go.Shelf
set_option linter.unusedVariables false
attribute [local go_sem] Oper.semAt_some

theorem conv_own (w : World) (D : Nat) (v : Value) (out : List UInt8) (n : Nat) (h : w.ownsRow D 5 1 v n (out.map cB)) (hn : out.length = n) : (convert 91 9 v).run Tryd.prog w = .ok (.string (bts out)) w := by
  subst hn
  rcases h.2 with ⟨rfl, h0⟩ | ⟨g, cap, cur, rfl, h1⟩
  · have : out = [] := List.eq_nil_of_length_eq_zero h0
    subst this
    rw [run_convert_bytes_string w 91 9 5 none 0 0 Tryd.underlying91 Tryd.underlying5 Tryd.underlying9]
    rfl
  · refine run_convert_bytes_back w 91 9 5 ⟨g, 0, none⟩ cap out Tryd.underlying91 Tryd.underlying5 Tryd.underlying9 (fun j hj => ?_)
    exact h.cells rfl j _ (by rw [List.getElem?_map, List.getElem?_eq_getElem hj]; rfl)

set_option maxRecDepth 100000 in
set_option maxHeartbeats 4000000 in
theorem dshort_any (n : Nat) (hn : n < 2097152) (w : World) :
    Calls Tryd.prog 88 #[.int .i64 n] w fun e w' => e = .returned (.string (bts (sh n))) ∧ Below w.heap.size w w' := by
  obtain ⟨i5, hi5, hy0, hy1, hy2⟩ := info_parts info5
  obtain ⟨R, hR⟩ : ∃ R, sh n = R := ⟨_, rfl⟩
  have HR0 : Hid ([] ++ sh n = R) := Lib.hid hR
  have HRL : Hid (R.length ≤ 3) := Lib.hid (by rw [← hR]; exact sh_len n)
  rw [hR]
  clear hR
  obtain ⟨B, hB⟩ : ∃ B, w.heap.size = B := ⟨_, rfl⟩
  rw [hB]
  go_enter Tryd.func88, Tryd.ntmps88
  go_wp2_with fail
  go_loopw [0, 3] (fun t vb wr => ∃ (k : Nat) (bs : List UInt8), t = .int .i64 k ∧ k < 2097152 ∧ Hid (bs ++ sh k = R) ∧ bs.length ≤ 3 ∧ Hid (Below B w wr) ∧ B ≤ wr.heap.size ∧ wr.ownsRow B 5 1 vb bs.length (bs.map cB)) (fun t _ _ => (intOf t).toNat)
  case atStart => exact ⟨n, [], rfl, hn, HR0, by simp, Lib.hid (Below.refl _ _), Nat.le_of_eq hB.symm, World.ownsRow_nil _ _ _ _⟩
  case round =>
    obtain ⟨k, bs, rfl, hk, HE, hbs, HW, hz, ob⟩ := hrel
    have hk0 : (0 : Int) ≤ (k : Int) := Int.natCast_nonneg _
    generalize hV : wr = V at *
    clear hV hB
    by_cases hlt : 128 ≤ k
    · have hlt' : (128 : Int) ≤ (k : Int) := by omega
      obtain ⟨x, hx⟩ : ∃ x, UInt8.ofNat (k % 128 + 128) = x := ⟨_, rfl⟩
      have hxv : (x.toNat : Int) = (k : Int) % 128 + 128 := by rw [← hx, UInt8.toNat_ofNat']; omega
      have HN : Hid ((bs ++ [x]) ++ sh (k / 128) = R) := Lib.hid (by rw [← HE.out, sh_step hlt hk, hx, List.append_assoc]; rfl)
      have HLN : Hid ((bs ++ [x]).length ≤ 3) := Lib.hid (by
        have := congrArg List.length HN.out
        have h3 := HRL.out
        rw [List.length_append] at this
        omega)
      have HM : Hid ((bs ++ [x]).map cB = bs.map cB ++ [.int .u8 ((k : Int) % 128 + 128)]) := Lib.hid (by rw [← hxv]; simp [cB])
      have HL : Hid ((bs ++ [x]).length = bs.length + 1) := Lib.hid (by simp)
      clear hx hxv
      generalize bs.map cB = cs at *
      generalize hbl : bs.length = m at *
      clear hbl
      go_wp2_with (at_builtin; refine wpList_append_lies _ rfl _ _ _ rfl B 5 i5 _ 1 1 Tryd.underlying91 hi5 hy0 hy1 hy2 rfl (by omega) u3 m cs rfl (ob.alloc _) ⟨V.heap.size, 0, none⟩ 1 1 [.int .u8 ((k : Int) % 128 + 128)] rfl rfl (World.news_of_block (cs := #[.int .u8 ((k : Int) % 128 + 128)]) (t := 5) (fr := (0, 0)) (heap_alloc_new V _)) (by simp [Value.oneCell']) (by omega) (by unfold maxLen; omega) (by omega) (by simp; omega) (V.heap.size + 1) (by simp) ?_; intro gg cap' w1 hown1 hgrow hat hlt1)
      have hb1' := Below.grown (((Below.refl B V)).alloc hz (.cells #[.int .u8 ((k : Int) % 128 + 128)] 5)) hgrow (by simp; omega) (fun j hj => (ob.lt j hj).1)
      have hz1 : B ≤ w1.heap.size := Nat.le_trans hz hb1'.size
      go_wp2_with fail
      go_roundw
      case rel => exact ⟨k / 128, bs ++ [x], by go_num, by omega, HN, HLN.out, Lib.hid (HW.out.trans hb1'), hz1, by rw [HL.out, HM.out]; exact hown1⟩
      case measure => simp [intOf]; omega
    · have hlt' : ¬ (128 : Int) ≤ (k : Int) := by omega
      have HR : Hid (R = bs ++ [UInt8.ofNat k]) := Lib.hid (by rw [← HE.out, sh_small (by omega)])
      have HM : Hid ((bs ++ [UInt8.ofNat k]).map cB = bs.map cB ++ [.int .u8 (k : Int)]) := Lib.hid (by rw [List.map_append, List.map_singleton, cB_low (by omega)])
      have HL : Hid ((bs ++ [UInt8.ofNat k]).length = bs.length + 1) := Lib.hid (by simp)
      generalize bs.map cB = cs at *
      generalize hbl : bs.length = m at *
      clear hbl
      go_wp2_with (at_builtin; refine wpList_append_lies _ rfl _ _ _ rfl B 5 i5 _ 1 1 Tryd.underlying91 hi5 hy0 hy1 hy2 rfl (by omega) u3 m cs rfl (ob.alloc _) ⟨V.heap.size, 0, none⟩ 1 1 [.int .u8 ((k : Int))] rfl rfl (World.news_of_block (cs := #[.int .u8 ((k : Int))]) (t := 5) (fr := (0, 0)) (heap_alloc_new V _)) (by simp [Value.oneCell']) (by omega) (by unfold maxLen; omega) (by omega) (by simp; omega) (V.heap.size + 1) (by simp) ?_; intro gg cap' w1 hown1 hgrow hat hlt1)
      have hb1' := Below.grown (((Below.refl B V)).alloc hz (.cells #[.int .u8 ((k : Int))] 5)) hgrow (by simp; omega) (fun j hj => (ob.lt j hj).1)
      have hz1 : B ≤ w1.heap.size := Nat.le_trans hz hb1'.size
      have hcv1 := conv_own w1 B _ R (m + 1) (by rw [HR.out, HM.out]; exact hown1) (by rw [HR.out]; exact HL.out)
      go_wp2_with fail
      rw [hcv1]
      go_wp2_with fail
      go_ret
      exact ⟨rfl, HW.out.trans hb1'⟩
end Go.Proofs.YtocdinaomkmcbaaDoor

/-! What the document's tree is told by. -/
namespace Go.Proofs.YtocdinaomkmcbaaDoor
open Go.ChangeShapes Go.WideShapes Go.ChangeAt Go.RowKit Go.Shelf
set_option linter.unusedVariables false
attribute [local go_sem] Oper.semAt_some

theorem wr_small (z : Int) (h0 : -9000 ≤ z) (h1 : z ≤ 9000) : IntKind.i64.wrap z = z := by rw [IntKind.wrap_i64]; omega
theorem wr_node (k par q : Nat) (hk : k ≤ 4096) (hp : par ≤ k + 1) (hq : k + 1 - par = q) : IntKind.i64.wrap (IntKind.i64.wrap ((k : Int) + 1) - (par : Int)) = (q : Int) := by
  rw [wr_small ((k : Int) + 1) (by omega) (by omega), wr_small _ (by omega) (by omega)]
  omega
/-- What is in hand while a node is told. -/
def Bx3 (w : World) (B : Nat) (par : Int) (nm : ByteArray) (ln : Int) (W : World) : Prop := W.cell? ⟨B, 0, none⟩ = some (.int .i64 par) ∧ W.cell? ⟨B, 1, none⟩ = some (.string nm) ∧ W.cell? ⟨B, 2, none⟩ = some (.int .i64 ln) ∧ Below w.heap.size w W

set_option maxRecDepth 100000 in
set_option maxHeartbeats 8000000 in
theorem dtold_any (a lo : Nat) (nd : List Nd) (w : World) (hT : Td w lo a nd) :
    Calls Tryd.prog 68 #[.pointer (some ⟨a, 0, none⟩)] w fun e w' => e = .returned (.string (bts (told nd))) ∧ Below w.heap.size w w' := by
  have hwf := hT.wf
  have hfew := hT.few
  have hpos := hwf.pos
  obtain ⟨A, c, c0, hc⟩ := hT.cells
  have HC := Lib.hid hc
  have HWF := Lib.hid hwf
  have HTL : Hid (bts (sh (nd.length - 1) ++ tlS nd 0 (nd.length - 1)) = bts (told nd)) := Lib.hid rfl
  have HLEN := Lib.hid (told_len hwf)
  obtain ⟨m, hm⟩ : ∃ m, nd.length = m + 1 := ⟨nd.length - 1, by omega⟩
  rw [hm, Nat.add_sub_cancel] at c0 HTL
  have HM := Lib.hid hm
  have hm2 : m ≤ 4095 := by omega
  clear hT hc hwf hpos hm hfew
  go_enter Tryd.func68, Tryd.ntmps68
  go_wp2_with fail
  refine (dshort_any m (by omega) w).mono ?_
  rintro e W1 ⟨rfl, hb1⟩
  go_wp2_with fail
  go_loopw [3, 4] (fun vs t wr => ∃ (k : Nat) (S : ByteArray), vs = .string S ∧ t = .int .i64 k ∧ k ≤ m ∧ Hid (S = bts (sh m ++ tlS nd 0 k)) ∧ Below w.heap.size w wr) (fun _ t _ => m - (intOf t).toNat)
  case atStart => exact ⟨0, _, rfl, rfl, Nat.zero_le _, Lib.hid (by rw [tlS_zero, List.append_nil]), hb1⟩
  case round =>
    obtain ⟨k, S, rfl, rfl, hk, HS, hb⟩ := hrel
    generalize hV : wr = V at *
    clear hV hb1
    have ca := cell_below c0 hb (Nat.le_refl _)
    by_cases hlt : k < m
    · have hlt' : (k : Int) < (m : Int) := by omega
      obtain ⟨x, hx⟩ : ∃ x, nd[k + 1]? = some x := ⟨_, List.getElem?_eq_getElem (by rw [HM.out]; omega)⟩
      have hup := HWF.out.up (k + 1) x (by omega) hx
      have hmay := HWF.out.good (k + 1) x (by omega) hx
      obtain ⟨m1, m2, m3, m4⟩ := may_bounds hmay
      obtain ⟨g, rfl, c1, c2, c3⟩ := HC.out k x hx
      have d1 := cell_below c1 hb (Nat.le_refl _)
      have d2 := cell_below c2 hb (Nat.le_refl _)
      have d3 := cell_below c3 hb (Nat.le_refl _)
      have hk0 : (0 : Int) ≤ (k : Int) := by omega
      have HN : Hid (S ++ bts (sh (k + 1 - x.1)) ++ bts (sh x.2.1.size) ++ x.2.1 ++ bts (sh x.2.2.toNat) = bts (sh m ++ tlS nd 0 (k + 1))) := Lib.hid (by
        rw [HS.out, tlS_snoc, Nat.zero_add, tlJ_at hx, tlP]
        apply ByteArray.ext
        simp [bts])
      have hsz : S.size ≤ 3 + 129 * 4096 := by
        rw [HS.out, bts_size, List.length_append]
        have h1 := sh_len m
        have h2 := HLEN.out k (by rw [HM.out]; omega)
        omega
      obtain ⟨par, nm, ln⟩ := x
      simp only at hup hmay m1 m2 m3 m4 c1 c2 c3 d1 d2 d3 HN
      obtain ⟨l, rfl⟩ : ∃ l : Nat, ln = (l : Int) := ⟨ln.toNat, by omega⟩
      rw [Int.toNat_natCast] at HN
      obtain ⟨q, hq⟩ : ∃ q, k + 1 - par = q := ⟨_, rfl⟩
      rw [hq] at HN
      have hq2 : ((k : Int) + 1 - (par : Int)) = (q : Int) := by omega
      have hq3 : q < 2097152 := by omega
      obtain ⟨B, hB⟩ : ∃ B, V.heap.size = B := ⟨_, rfl⟩
      have HA : ∀ (n : Nat) (t : ByteArray), n < 2097152 → bts (sh n) = t → Hid (∀ W, Bx3 w B par nm l W → Calls Tryd.prog 88 #[.int .i64 n] W fun e w' => e = .returned (.string t) ∧ Bx3 w B par nm l w') := fun n t hn ht => Lib.hid (fun W ⟨k0, k1, k2, k3⟩ => (dshort_any n hn W).mono fun e w' ⟨he, hb'⟩ => ⟨by rw [he, ht], cell_below k0 hb' (Nat.le_refl _), cell_below k1 hb' (Nat.le_refl _), cell_below k2 hb' (Nat.le_refl _), k3.trans (hb'.mono k3.size)⟩)
      obtain ⟨t1, ht1⟩ : ∃ t, bts (sh q) = t := ⟨_, rfl⟩
      obtain ⟨t2, ht2⟩ : ∃ t, bts (sh nm.size) = t := ⟨_, rfl⟩
      obtain ⟨t3, ht3⟩ : ∃ t, bts (sh l) = t := ⟨_, rfl⟩
      have H1 := HA q t1 hq3 ht1
      have hw1 : IntKind.i64.wrap (IntKind.i64.wrap ((k : Int) + 1) - (par : Int)) = (q : Int) := wr_node k par q (by omega) (by omega) hq
      rw [← hw1] at H1
      have H2 := HA nm.size t2 (by omega) ht2
      have H3 := HA l t3 (by omega) ht3
      have z1 : t1.size ≤ 3 := by rw [← ht1, bts_size]; exact sh_len q
      have z2 : t2.size ≤ 3 := by rw [← ht2, bts_size]; exact sh_len _
      have z3 : t3.size ≤ 3 := by rw [← ht3, bts_size]; exact sh_len l
      rw [ht1, ht2, ht3] at HN
      have no1 : ¬ (S.size + t1.size > 9223372036854775807) := by omega
      have no2 : ¬ (S.size + t1.size + t2.size > 9223372036854775807) := by omega
      have no3 : ¬ (S.size + t1.size + t2.size + nm.size > 9223372036854775807) := by omega
      have no4 : ¬ (S.size + t1.size + t2.size + nm.size + t3.size > 9223372036854775807) := by omega
      have hdrew : Bx3 w B par nm l ((V.alloc (.cells #[.int .i64 (par : Int), .string nm, .int .i64 (l : Int)] 155)).drew) := by
        have hbb : Below w.heap.size w (V.alloc (.cells #[.int .i64 (par : Int), .string nm, .int .i64 (l : Int)] 155)) := hb.alloc hb.size _
        subst hB
        exact ⟨World.cell?_alloc_new V _ 155 0, World.cell?_alloc_new V _ 155 1, World.cell?_alloc_new V _ 155 2, hbb.drew⟩
      have HDR := Lib.hid hdrew
      have HBA := Lib.hid hb
      clear HA hw1 hq2 hq3 ht1 ht2 ht3 z1 z2 z3 hx hq hup hmay hsz hdrew c1 c2 c3
      go_wp2_with fail
      obtain ⟨y0, y1, y2, y3⟩ := HDR.out
      unfold Bx3 at H1 H2 H3
      clear HDR
      go_region_held3 (fun w' => w'.cell? ⟨B, 0, none⟩ = some (.int .i64 (par : Int)) ∧ w'.cell? ⟨B, 1, none⟩ = some (.string nm) ∧ w'.cell? ⟨B, 2, none⟩ = some (.int .i64 (l : Int)) ∧ Below w.heap.size w w')
        (first | go_keep | ((refine ⟨?_, ?_, ?_, ?_⟩) <;> assumption))
        (first | (go_at_call 88; (with_reducible refine (H1.out _ ?_).mono ?_); (· (first | assumption | (go_split_ands; (refine ⟨?_, ?_, ?_, ?_⟩) <;> assumption))); rintro e w1 ⟨rfl, k0, k1, k2, k3⟩) | (go_at_call 88; (with_reducible refine (H2.out _ ?_).mono ?_); (· (first | assumption | (go_split_ands; (refine ⟨?_, ?_, ?_, ?_⟩) <;> assumption))); rintro e w1 ⟨rfl, k0, k1, k2, k3⟩) | (go_at_call 88; (with_reducible refine (H3.out _ ?_).mono ?_); (· (first | assumption | (go_split_ands; (refine ⟨?_, ?_, ?_, ?_⟩) <;> assumption))); rintro e w1 ⟨rfl, k0, k1, k2, k3⟩))
      go_wp2_with fail
      go_roundw
      case rel => exact ⟨k + 1, _, by rw [← HN.out], by go_num, by omega, Lib.hid rfl, k3⟩
      case measure => simp [intOf]; omega
    · have hkm : k = m := by omega
      subst hkm
      have hlt' : ¬ (k : Int) < (k : Int) := by omega
      have HE : Hid (S = bts (told nd)) := Lib.hid (by rw [HS.out]; exact HTL.out)
      go_wp2_with fail
      go_ret
      exact ⟨by rw [← HE.out]; rfl, hb⟩
end Go.Proofs.YtocdinaomkmcbaaDoor

/-! The document's Stack. -/
namespace Go.Proofs.YtocdinaomkmcbaaDoor
open Go.ChangeShapes Go.WideShapes Go.ChangeAt Go.RowKit Go.Shelf
set_option linter.unusedVariables false
attribute [local go_sem] Oper.semAt_some

theorem dstack_no (a lo : Nat) (n : Int) (nd : List Nd) (w : World) (hT : Td w lo a nd) (hn : (nd.length : Int) ≤ n ∨ n < 0) :
    Calls Tryd.prog 71 #[.pointer (some ⟨a, 0, none⟩), .int .i64 n] w fun e w' => e = .returned (.tuple #[.slice none 0 0, .int .i64 1]) ∧ w = w' := by
  have hh := dhas_any a lo nd n w hT
  rw [decide_eq_false (by omega)] at hh
  have H := Lib.hid hh
  clear hT hh hn
  go_enter Tryd.func71, Tryd.ntmps71
  go_wp2_with fail
  refine H.out.mono ?_
  rintro e w1 ⟨rfl, rfl⟩
  go_wp2_with fail
  go_ret2
  exact ⟨rfl, rfl⟩
set_option maxRecDepth 100000 in
set_option maxHeartbeats 8000000 in
theorem dstack_any (a lo n : Nat) (nd : List Nd) (w : World) (hT : Td w lo a nd) (hn : n < nd.length) (hd : (stk nd n).length ≤ 64) :
    Calls Tryd.prog 71 #[.pointer (some ⟨a, 0, none⟩), .int .i64 n] w fun e w' => ∃ v, e = .returned (.tuple #[v, .int .i64 0]) ∧ w'.ownsRow w.heap.size 102 2 v (stk nd n).length (flat (stk nd n)) ∧ Below w.heap.size w w' := by
  obtain ⟨i0, hi0, hz0, hz1, hz2⟩ := info_parts info102
  have hwf := hT.wf
  have hfew := hT.few
  have hh := dhas_any a lo nd n w hT
  rw [decide_eq_true ⟨by omega, by omega⟩] at hh
  have H := Lib.hid hh
  have HWF := Lib.hid hwf
  obtain ⟨A, c, c0, hc⟩ := hT.cells
  obtain ⟨k, hk⟩ : ∃ k, nd.length - 1 = k := ⟨_, rfl⟩
  rw [hk] at c0
  have hkl : nd.length = k + 1 := by have := hwf.pos; omega
  have HK := Lib.hid hkl
  have HC := Lib.hid hc
  have hk2 : k ≤ 4096 := by omega
  have hnk : n ≤ k := by omega
  obtain ⟨R, hR⟩ : ∃ R, stk nd n = R := ⟨_, rfl⟩
  have HR := Lib.hid hR
  rw [hR] at hd ⊢
  clear hT hwf hh hk hc hkl hn hfew hR
  obtain ⟨B, hB⟩ : ∃ B, w.heap.size = B := ⟨_, rfl⟩
  have HB := Lib.hid hB
  rw [hB]
  clear hB
  go_enter Tryd.func71, Tryd.ntmps71
  go_wp2_with fail
  refine H.out.mono ?_
  rintro e w1 ⟨rfl, hw1⟩
  subst hw1
  go_wp2_with fail
  go_loopw [1, 6] (fun t1 t6 wr => ∃ (m : Nat) (L : List Pl), t1 = .int .i64 m ∧ m ≤ k ∧ Hid (stk nd m ++ L = R) ∧ L.length ≤ 64 ∧ B ≤ wr.heap.size ∧ Hid (wr.ownsRow B 102 2 t6 L.length (flat L) ∧ Below B w wr)) (fun t1 _ _ => (intOf t1).toNat)
  case atStart => exact ⟨n, [], rfl, hnk, Lib.hid (by rw [List.append_nil]; exact HR.out), by simp, Nat.le_of_eq HB.out.symm, Lib.hid ⟨World.ownsRow_nil _ _ _ _, Below.refl _ _⟩⟩
  case round =>
    obtain ⟨m, L, rfl, hm, HL, hL, hz, HW⟩ := hrel
    generalize hV : wr = V at *
    clear hV
    by_cases h0 : m = 0
    · subst h0
      have HF : Hid (L = R) := Lib.hid (by have := HL.out; rw [stk_zero] at this; exact this)
      go_wp2_with fail
      go_ret2
      exact ⟨_, rfl, HF.out ▸ HW.out.1, HW.out.2⟩
    · obtain ⟨j, rfl⟩ : ∃ j, m = j + 1 := ⟨m - 1, by omega⟩
      obtain ⟨x, hx⟩ : ∃ x, nd[j + 1]? = some x := ⟨_, List.getElem?_eq_getElem (by rw [HK.out]; omega)⟩
      have hu := HWF.out.up (j + 1) x (by omega) hx
      obtain ⟨g, rfl, c1, c2, c3⟩ := HC.out j x hx
      obtain ⟨ho, hb⟩ := HW.out
      have hgl : g < B := by rw [← HB.out]; exact World.block_lt_of_cell? w _ c1
      have hal : a < B := by rw [← HB.out]; exact World.block_lt_of_cell? w _ c0
      have d0 := (hb.cell (p := ⟨a, 0, none⟩) hal).trans c0
      have d1 := (hb.cell (p := ⟨g, j * 3, none⟩) hgl).trans c1
      have d2 := (hb.cell (p := ⟨g, j * 3 + 1, none⟩) hgl).trans c2
      have d3 := (hb.cell (p := ⟨g, j * 3 + 2, none⟩) hgl).trans c3
      obtain ⟨A6, c6, rfl, h06, hc6⟩ := row_src ho
      have HN : Hid (stk nd x.1 ++ (x.2 :: L) = R) := Lib.hid (by have := HL.out; rw [stk_step HWF.out (by omega) hx, List.append_assoc] at this; exact this)
      have HNL : Hid ((x.2 :: L).length ≤ 64) := Lib.hid (by have := congrArg List.length HN.out; rw [List.length_append] at this; omega)
      have HFL : Hid (flat (x.2 :: L) = [.string x.2.1, .int .i64 x.2.2] ++ flat L) := Lib.hid (by simp [flat, cel])
      obtain ⟨z, hz'⟩ : ∃ z : Int, ((j + 1 : Nat) : Int) = z := ⟨_, rfl⟩
      rw [hz']
      have z1 : (0 : Int) < z := by omega
      have z2 : z - 1 = (j : Int) := by omega
      have z3 : (j : Int) < (k : Int) := by omega
      have z4 : (0 : Int) ≤ (j : Int) := by omega
      have z5 : (j : Int) ≤ 4096 := by omega
      have H06 := Lib.hid h06
      have HC6 := Lib.hid hc6
      have HB2 := Lib.hid hb
      obtain ⟨y, s, q⟩ := x
      simp only at hu d1 d2 d3 HN HNL HFL
      clear hx HL hz' h0 ho hb h06 hc6 c1 c2 c3 HW
      have hown1 : (V.alloc (.cells #[.string s, .int .i64 q] 102)).ownsRow B 102 2 (.slice (some ⟨V.heap.size, 0, none⟩) 1 1) 1 [.string s, .int .i64 q] :=
        ⟨rfl, .inr ⟨V.heap.size, 1, #[.string s, .int .i64 q], rfl, hz, heap_alloc_new V _, Nat.le_refl _, by decide, rfl, rfl⟩⟩
      have hval : Below B V (V.alloc (.cells #[.string s, .int .i64 q] 102)) := (Below.refl B V).alloc hz _
      have HBV := Lib.hid (And.intro hown1 hval)
      clear hown1 hval
      go_wp2_with (at_builtin; refine append_src rfl _ _ 29 rfl B 102 i0 _ 2 24 Tryd.underlying29 hi0 hz0 hz1 hz2 rfl (by decide) (.slice (some ⟨V.heap.size, 0, none⟩) 1 1) 1 [.string s, .int .i64 q] rfl HBV.out.1 A6 L.length c6 (flat L) rfl (by rw [flat_length]) H06.out (fun ad had j u hu => cell_below (HC6.out ad had j u hu) ((Below.refl _ V).alloc (Nat.le_refl _) _) (Nat.le_refl _)) (flat_one L) (by unfold maxLen; omega) (by omega) (by simp; omega) ?_; intro v7 w7 ho7 hg7; have hb7 := Below.grown HBV.out.2 hg7 (by simp; omega) (fun j hj => (HBV.out.1.lt j hj).1); have e0 := (hb7.cell (p := ⟨a, 0, none⟩) hal).trans d0; have e1 := (hb7.cell (p := ⟨g, j * 3, none⟩) hgl).trans d1)
      rw [← HFL.out] at ho7
      go_roundw
      case rel => exact ⟨y, (s, q) :: L, rfl, by omega, HN, HNL.out, Nat.le_trans hz hb7.size, Lib.hid ⟨by rw [List.length_cons, Nat.add_comm]; exact ho7, HB2.out.trans hb7⟩⟩
      case measure => simp [intOf]; omega
end Go.Proofs.YtocdinaomkmcbaaDoor
