/-
  The library's variables; a place's text; Atoi.
-/
import Derived.Test.YtocdinaomkmcbaaDoorJ
import Derived.Lib.UnsafeStr
namespace Go.Proofs.YtocdinaomkmcbaaDoor
open Go.ChangeShapes Go.WideShapes Go.ChangeAt Go.RowKit Go.Shelf
set_option linter.unusedVariables false

/-- What the library's variables hold. -/
structure Env (w : World) : Prop where
  tab : Lib.TabIs Tryd.prog w "internal/strconv.uint64pow10" .u64 Lib.pow10Tab
  len : ∃ m, w.cell? ⟨2, 0, none⟩ = some (.int .i64 m)
  syn : ∃ ev, w.cell? ⟨3, 0, none⟩ = some ev ∧ (ev = .nilIface ∨ ∃ te pe, ev = .iface te pe)
  rng : ∃ ev, w.cell? ⟨4, 0, none⟩ = some ev ∧ (ev = .nilIface ∨ ∃ te pe, ev = .iface te pe)
theorem tab_below {w w' : World} {B : Nat} {name : String} {k : IntKind} {zs : List Int} (h : Lib.TabIs Tryd.prog w name k zs) (hb : Below B w w') (hB : w.heap.size ≤ B) : Lib.TabIs Tryd.prog w' name k zs := by
  unfold Lib.TabIs World.var? at *
  cases hg : Tryd.prog.globalNamed name with
  | none => simp [hg] at h
  | some g =>
    simp only [hg, Option.bind_some] at h ⊢
    have hlt : g < w.heap.size := by
      rcases Nat.lt_or_ge g w.heap.size with h' | h'
      · exact h'
      · rw [Array.getElem?_eq_none h'] at h; simp at h
    rw [hb.block g (by omega)]
    exact h
theorem cell_below {w w' : World} {B : Nat} {a : Addr} {v : Value} (h : w.cell? a = some v) (hb : Below B w w') (hB : w.heap.size ≤ B) : w'.cell? a = some v :=
  (hb.cell (p := a) (by have := World.block_lt_of_cell? w _ h; omega)).trans h
theorem Env.below {w w' : World} {B : Nat} (h : Env w) (hb : Below B w w') (hB : w.heap.size ≤ B) : Env w' where
  tab := tab_below h.tab hb hB
  len := h.len.elim fun m hm => ⟨m, cell_below hm hb hB⟩
  syn := h.syn.elim fun m hm => ⟨m, cell_below hm.1 hb hB, hm.2⟩
  rng := h.rng.elim fun m hm => ⟨m, cell_below hm.1 hb hB, hm.2⟩

/-- A list of bytes as a text. -/
def bts (l : List UInt8) : ByteArray := ⟨l.toArray⟩
theorem bts_list (l : List UInt8) : (bts l).data.toList = l := by simp [bts]
theorem bts_size (l : List UInt8) : (bts l).size = l.length := by simp [bts, ByteArray.size]
theorem bts_back (s : ByteArray) : bts s.data.toList = s := by cases s; simp [bts]
theorem bts_inj {l m : List UInt8} (h : bts l = bts m) : l = m := by rw [← bts_list l, h, bts_list]
theorem ba_ext {a b : ByteArray} (h : a.data.toList = b.data.toList) : a = b := by
  apply ByteArray.ext; exact Array.toList_inj.1 h

theorem grow_below (w : World) (k : Nat) (os : Array Obj) : Below w.heap.size w (Go.Sort.grow (w.drewN k) os) := by
  refine ⟨rfl, rfl, rfl, ?_, fun j hj => ?_⟩
  · simp [Go.Sort.grow, World.drewN]
  · simp [Go.Sort.grow, World.drewN, Array.getElem?_append, hj]
theorem itoa_any (n : Int) (w : World) (h : Env w) (h0 : 0 ≤ n) (h1 : n ≤ 1048576) :
    Calls Tryd.prog 77 #[.int .i64 n] w fun e w' => e = .returned (.string (bts (Lib.itoa n))) ∧ Below w.heap.size w w' :=
  (Tryd.strconv_Itoa n (by omega) (by omega) w h.tab).mono fun e w' ⟨he, k, os, hw⟩ => ⟨he, by rw [hw]; exact grow_below w k os⟩

theorem add_str (W : World) (a b : ByteArray) (ha : (a.size : Int) ≤ 8388608) (hb : (b.size : Int) ≤ 8388608) : (binOp .add 9 (.string a) (.string b)).run Tryd.prog W = .ok (.string (a ++ b)) W := by simp [binOp, run_string_add, *]
set_option maxRecDepth 100000 in
set_option maxHeartbeats 1000000 in
theorem textOf_any (p : Pl) (w : World) (h : Env w) (hm : may p = true) :
    Calls Tryd.prog 47 #[.agg #[.string p.1, .int .i64 p.2]] w fun e w' => e = .returned (.string (bts (txP p))) ∧ Below w.heap.size w w' := by
  obtain ⟨_, hs, h0, h1, _⟩ := may_iff.1 hm
  have hi8 : ((bts (Lib.itoa p.2)).size : Int) ≤ 8388608 := by
    have := Lib.itoa_length_le p.2 (by omega) (by omega)
    rw [bts_size]; omega
  have H1 : Hid (∀ W : World, W.cell? ⟨w.heap.size, 0, none⟩ = some (.string p.1) ∧ W.cell? ⟨w.heap.size, 1, none⟩ = some (.int .i64 p.2) ∧ Below w.heap.size w W →
      Calls Tryd.prog 77 #[.int .i64 p.2] W fun e w' => e = .returned (.string (bts (Lib.itoa p.2))) ∧ w'.cell? ⟨w.heap.size, 0, none⟩ = some (.string p.1) ∧ w'.cell? ⟨w.heap.size, 1, none⟩ = some (.int .i64 p.2) ∧ Below w.heap.size w w') :=
    Lib.hid (fun W ⟨c0, c1, hb⟩ => (itoa_any p.2 W (h.below hb (Nat.le_refl _)) h0 h1).mono fun e w' ⟨he, hb'⟩ => ⟨he, cell_below c0 hb' (Nat.le_refl _), cell_below c1 hb' (Nat.le_refl _), hb.trans (hb'.mono hb.size)⟩)
  have HF : Hid (p.1 ++ ⟨#[58]⟩ ++ bts (Lib.itoa p.2) = bts (txP p)) := Lib.hid (by
    apply ba_ext; rw [bts_list]; unfold txP; simp [bts])
  generalize bts (txP p) = r at *
  generalize bts (Lib.itoa p.2) = t at *
  obtain ⟨s, n⟩ := p
  dsimp only at H1 HF hs ⊢
  have hno1 : ¬ (s.size + 1 > 9223372036854775807) := by omega
  have hno2 : ¬ (s.size + 1 + t.size > 9223372036854775807) := by omega
  clear h h0 h1 hm hs hi8
  have hB0 : Below w.heap.size w (w.alloc (.cells #[.string s, .int .i64 n] 48)).drew := ((Below.refl _ w).alloc (Nat.le_refl _) _).drew
  go_enter Tryd.func47, Tryd.ntmps47
  go_wp2_with fail
  go_region_held3 (fun w' => w'.cell? ⟨w.heap.size, 0, none⟩ = some (.string s) ∧ w'.cell? ⟨w.heap.size, 1, none⟩ = some (.int .i64 n) ∧ Below w.heap.size w w')
    (first | go_keep | ((refine ⟨?_, ?_, ?_⟩) <;> assumption))
    ((go_at_call 77; (with_reducible refine (H1.out _ ?_).mono ?_); (· (first | assumption | (go_split_ands; (refine ⟨?_, ?_, ?_⟩) <;> assumption))); rintro e w1 ⟨rfl, k0, k1, hb⟩))
  go_wp2
  go_ret
  exact ⟨by rw [← HF.out]; rfl, hb⟩

set_option maxRecDepth 100000 in
theorem sclone_any (s : ByteArray) (w : World) (hs : s.size ≤ 281474976710656) :
    Calls Tryd.prog 83 #[.string s] w fun e w' => e = .returned (.string s) ∧ Below w.heap.size w w' := by
  have H := Lib.hid (Tryd.stringslite_Clone s w hs)
  clear hs
  go_enter Tryd.func83, Tryd.ntmps83
  go_wp2_with fail
  refine H.out.mono ?_
  rintro e W ⟨rfl, hb⟩
  go_wp2
  go_ret
  exact ⟨rfl, hb⟩

theorem bytesWorld_below (w : World) (T : TypeId) (t : ByteArray) : Below w.heap.size w (Lib.bytesWorld w T t) := by
  unfold Lib.bytesWorld
  exact Lib.below_freeze (((Below.refl _ w).drew).alloc (Nat.le_refl _) _) (Nat.le_refl _) 1
/-- Atoi, whatever the text. -/
theorem atoi_any (s : ByteArray) (w : World) (h : Env w) (hs : s.size ≤ 281474976710656) :
    Calls Tryd.prog 82 #[.string s] w fun e w' => (∃ v ev, e = .returned (.tuple #[.int .i64 v, ev]) ∧ ((Lib.atoiAll s.data.toList = .ok v ∧ ev = .nilIface) ∨ ((∀ u, Lib.atoiAll s.data.toList ≠ .ok u) ∧ ∃ N, ev = .iface 169 (.pointer (some ⟨N, 0, none⟩))))) ∧ Below w.heap.size w w' := by
  cases hv : Lib.atoiAll s.data.toList with
  | ok v =>
    refine (Tryd.strconv_Atoi_ok s (by omega) v hv w).mono fun e w' ⟨he, hw⟩ => ⟨⟨v, .nilIface, he, .inl ⟨rfl, rfl⟩⟩, ?_⟩
    rcases hw with rfl | ⟨t, rfl⟩
    · exact Below.refl _ _
    · exact bytesWorld_below _ _ _
  | «syntax» =>
    obtain ⟨ev, h1, h2⟩ := h.syn
    exact (Tryd.strconv_Atoi_syntax s hs hv ev w h1 h2).mono fun e w' ⟨N, he, _, _, hb⟩ => ⟨⟨0, _, he, .inr ⟨(fun u h => by cases h), N, rfl⟩⟩, hb⟩
  | range =>
    obtain ⟨ev, h1, h2⟩ := h.rng
    exact (Tryd.strconv_Atoi_range s hs hv ev w h1 h2).mono fun e w' ⟨N, he, _, _, hb⟩ => ⟨⟨_, _, he, .inr ⟨(fun u h => by cases h), N, rfl⟩⟩, hb⟩
end Go.Proofs.YtocdinaomkmcbaaDoor
