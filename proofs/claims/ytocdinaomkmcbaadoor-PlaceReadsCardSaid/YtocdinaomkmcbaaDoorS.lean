/-
  The iterator of strings.SplitSeq at the three bytes between.
-/
import Derived.Test.YtocdinaomkmcbaaDoorLT
import Derived.Lib.IndexBytes
namespace Go.Proofs.YtocdinaomkmcbaaDoor
open Go.ChangeShapes Go.WideShapes Go.ChangeAt Go.RowKit Go.Shelf
set_option linter.unusedVariables false
attribute [local go_sem] Oper.semAt_some

def encS (x : ByteArray) : Array Value := #[.string x]
/-- The parts of a text. -/
def prt (s : ByteArray) : List ByteArray := (spl s.data.toList).map bts
/-- What a round that goes on keeps: what lay below n₀, and the iterator's three blocks. -/
def Kr (n₀ Bs : Nat) (A B : World) : Prop := Below n₀ A B ∧ Same Bs (Bs + 3) A B
theorem Kr_t {n₀ Bs : Nat} {A B C : World} (h : Kr n₀ Bs A B) (k : Kr n₀ Bs B C) : Kr n₀ Bs A C := ⟨h.1.trans k.1, h.2.trans k.2⟩
theorem Kr_refl (n₀ Bs : Nat) (A : World) : Kr n₀ Bs A A := ⟨Below.refl _ _, Same.refl _ _ _⟩
theorem Kr_b {n₀ Bs : Nat} {w : World} (hn : n₀ ≤ w.heap.size) (hs : Bs + 3 ≤ w.heap.size) (W : World) (l : Nat) (o o' : Obj) (hl : w.heap.size ≤ l) (h : W.heap[l]? = some o) (hc : o.isCells = false) (hw : o.isWalk = false) : Kr n₀ Bs W (W.putObj l o') :=
  ⟨belowK_b hn W l o o' hl h hc hw, fun j h1 h2 => World.putObj_heap_other (by omega)⟩
theorem Kr.of_below {n₀ Bs : Nat} {A B : World} (h : Below A.heap.size A B) (hn : n₀ ≤ A.heap.size) (hs : Bs + 3 ≤ A.heap.size) : Kr n₀ Bs A B := ⟨h.mono hn, Same.of_below h hs⟩
/-- What the iterator does between two rounds: it writes its text. -/
def Tn (Bs : Nat) (A B : World) : Prop := ∃ y : ByteArray, B = A.setCell ⟨Bs, 0, none⟩ (.string y)
/-- The text that the iterator has in hand. -/
def inHand (Bs : Nat) (W : World) : Nat := match W.cell? ⟨Bs, 0, none⟩ with
  | some (.string y) => y.size
  | _ => 0
theorem inHand_of {Bs : Nat} {W : World} {y : ByteArray} (h : Boxed W Bs 9 (.string y)) : inHand Bs W = y.size := by unfold inHand; rw [h.cell]
theorem extract_bts (y : ByteArray) (i : Nat) : y.extract 0 i = bts (y.data.toList.take i) := by
  apply ba_ext; rw [bts_list]; simp
theorem extract_drop (y : ByteArray) (i : Nat) : (y.extract i y.size).data.toList = y.data.toList.drop i := Lib.extract_to_end y i
theorem boxed_set {W : World} {B : Nat} {t : TypeId} {v : Value} (h : Boxed W B t v) (u : Value) : Boxed (W.setCell ⟨B, 0, none⟩ u) B t u := by
  exact heap_setCell_same W B 0 #[v] t u h

set_option maxRecDepth 100000 in
set_option maxHeartbeats 4000000 in
theorem sp_in (n : Nat) (hn : 1 ≤ n) (l Bs n₀ : Nat) (s : ByteArray) (J Jx : List ByteArray → World → Prop) (W : World)
    (hJT : ∀ pre A B, J pre A → Tn Bs A B → J pre B)
    (hY : ∀ pre x W1, J pre W1 → pre ++ [x] <+: prt s → W.heap.size + 0 ≤ W1.heap.size → NoB W.heap.size (W.heap.size + 0) W1 → YieldAt Fence.wide (n - 1) Tryd.prog l (encS x) W1 fun e W' =>
      (e = .returned (.bool true) ∧ J (pre ++ [x]) W' ∧ Kr n₀ Bs W1 W' ∧ Same W.heap.size (W.heap.size + 0) W1 W') ∨ (e = .returned (.bool false) ∧ Jx (pre ++ [x]) W' ∧ Same W.heap.size (W.heap.size + 0) W1 W'))
    (hBs : Bs + 3 ≤ W.heap.size) (hn₀ : n₀ ≤ Bs) (h3 : 3 ≤ n₀) (m : Int) (hm : W.cell? ⟨2, 0, none⟩ = some (.int .i64 m)) (hs : Boxed W Bs 9 (.string s)) (hq : Boxed W (Bs + 1) 9 (.string ⟨#[32, 60, 32]⟩)) (hv : Boxed W (Bs + 2) 3 (.int .i64 0)) (hsz : s.size < 4294967281) (h0 : J [] W) :
    CallsIn Fence.wide n Tryd.prog 92 #[.func (.yield l) #[] #[], .pointer (some ⟨Bs + 1, 0, none⟩), .pointer (some ⟨Bs, 0, none⟩), .pointer (some ⟨Bs + 2, 0, none⟩)] W fun e W' => (∃ v, e = .returned v) ∧
      ((∃ ys, ys = prt s ∧ J ys W') ∨ (∃ pre, pre <+: prt s ∧ Jx pre W')) := by
  have cq := hq.cell
  refine callsIn_of_wp Tryd.func92 rfl trivial ?_ rfl
  simp only [Tryd.ntmps92, List.size_toArray, List.length_cons, List.length_nil, Nat.reduceAdd, Nat.reduceSub, Array.replicate_succ, Array.replicate_zero, List.push_toArray, List.append_toArray, List.nil_append, List.cons_append]
  gi_wp2
  gi_loopw [7] (fun _ wr => ∃ (y : ByteArray) (pre : List ByteArray), Boxed wr Bs 9 (.string y) ∧ y.size ≤ s.size ∧ J pre wr ∧ Below n₀ W wr ∧ Same (Bs + 1) (Bs + 3) W wr ∧ Hid (pre ++ prt y = prt s)) (fun _ wr => inHand Bs wr)
  case atStart => exact ⟨s, [], hs, Nat.le_refl _, h0, Below.refl _ _, Same.refl _ _ _, Lib.hid rfl⟩
  case round =>
    obtain ⟨y, pre, bY, hy, hJr, hB, hS, HG⟩ := hrel
    have cY := bY.cell
    have fY := bY.frozen
    have cq' : wr.cell? ⟨Bs + 1, 0, none⟩ = some (.string ⟨#[32, 60, 32]⟩) := (hS.boxed hq (Nat.le_refl _) (by omega)).cell
    have cv' : wr.cell? ⟨Bs + 2, 0, none⟩ = some (.int .i64 0) := (hS.boxed hv (by omega) (by omega)).cell
    have hzr := hB.size
    have hc := Tryd.strings_Index y ⟨#[32, 60, 32]⟩ m wr (by omega) ((hB.cell (p := ⟨2, 0, none⟩) (by simp; omega)).trans hm)
    have hm0 : inHand Bs wr = y.size := inHand_of bY
    by_cases hi : 0 ≤ Lib.index y.data.toList sepL
    · obtain ⟨hp1, hp2⟩ := index_parts hi
      have HP := Lib.hid (show prt y = bts (y.data.toList.take (Lib.index y.data.toList sepL).toNat) :: prt (y.extract ((Lib.index y.data.toList sepL).toNat + 3) y.size) by
        unfold prt; rw [extract_drop, spl_more hi]; rfl)
      have hyl : y.data.toList.length = y.size := by simp
      have hii : Lib.index y.data.toList (⟨#[32, 60, 32]⟩ : ByteArray).data.toList = ((Lib.index y.data.toList sepL).toNat : Int) := (Int.toNat_of_nonneg hi).symm
      rw [hii] at hc
      generalize (Lib.index y.data.toList sepL).toNat = i at *
      have HC := Lib.hid hc
      have hi1 : (i : Int) + 3 ≤ (y.size : Int) := by omega
      have hi0 : (0 : Int) ≤ (i : Int) := Int.natCast_nonneg _
      have hx1 : pre ++ [bts (y.data.toList.take i)] <+: prt s := pre_next (by rw [← HG.out, HP.out])
      obtain ⟨fn, tmps, assign, body, hyy, hR⟩ := hY pre (bts (y.data.toList.take i)) wr hJr hx1 (by omega) (NoB.none _ _)
      dsimp only [encS] at hyy
      rw [← extract_bts] at hyy
      have HR := Lib.hid hR
      clear hp1 hp2 hi hii hc hyl hx1 hR
      gi_wp2_with fail
      refine ⟨trivial, ?_⟩
      refine (callsIn_wide.2 HC.out).mono ?_
      rintro e w' ⟨rfl, rfl⟩
      gi_wp2_with fail
      refine HR.out.mono ?_
      rintro e W3 (⟨rfl, hJ3, hk3, hs3⟩ | ⟨rfl, hJx3, hs3⟩)
      · have bY3 := hk3.2.boxed bY (Nat.le_refl _) (by omega)
        have cY3 := bY3.cell
        have fY3 := bY3.frozen
        have cq3 := (hk3.2.boxed (hS.boxed hq (Nat.le_refl _) (by omega)) (by omega) (by omega)).cell
        have hT : Tn Bs W3 (W3.setCell ⟨Bs, 0, none⟩ (.string (y.extract (i + 3) y.size))) := ⟨_, rfl⟩
        have hJ4 := hJT _ _ _ hJ3 hT
        have bY4 : Boxed (W3.setCell ⟨Bs, 0, none⟩ (.string (y.extract (i + 3) y.size))) Bs 9 (.string (y.extract (i + 3) y.size)) := boxed_set bY3 _
        have hB4 : Below n₀ W (W3.setCell ⟨Bs, 0, none⟩ (.string (y.extract (i + 3) y.size))) := (hB.trans hk3.1).setCell (p := ⟨Bs, 0, none⟩) hn₀ _
        have hS4 : Same (Bs + 1) (Bs + 3) W (W3.setCell ⟨Bs, 0, none⟩ (.string (y.extract (i + 3) y.size))) := (hS.trans (hk3.2.mono (by omega) (Nat.le_refl _))).trans (Same.setCell _ _ _ (.inl (by simp)))
        have hm4 := inHand_of bY4
        have HZ : Hid ((y.extract (i + 3) y.size).size = y.size - (i + 3)) := Lib.hid (by simp)
        clear hJ3 hk3 hs3 hT hB hS hJr bY bY3
        gi_wp2
        go_roundw
        case rel => exact ⟨_, pre ++ [bts (y.data.toList.take i)], bY4, by rw [HZ.out]; omega, hJ4, hB4, hS4, Lib.hid (by rw [List.append_assoc, ← HG.out, HP.out]; rfl)⟩
        case measure => rw [hm4, hm0, HZ.out]; omega
      · gi_wp2
        refine bodyPost_ret (results_none rfl _ _ _) rfl ?_
        exact ⟨⟨_, rfl⟩, .inr ⟨pre ++ [bts (y.data.toList.take i)], pre_next (by rw [← HG.out, HP.out]), hJx3⟩⟩
    · have hneg : Lib.index y.data.toList (⟨#[32, 60, 32]⟩ : ByteArray).data.toList < 0 := by
        show Lib.index y.data.toList sepL < 0
        omega
      have HP : Hid (prt y = [y]) := Lib.hid (by unfold prt; rw [spl_last hneg]; simp [bts_back])
      have HC := Lib.hid hc
      generalize Lib.index y.data.toList (⟨#[32, 60, 32]⟩ : ByteArray).data.toList = j at *
      have hx1 : pre ++ [y] = prt s := by rw [← HG.out, HP.out]
      obtain ⟨fn, tmps, assign, body, hyy, hR⟩ := hY pre y wr hJr ⟨[], by rw [hx1]; simp⟩ (by omega) (NoB.none _ _)
      dsimp only [encS] at hyy
      have HR := Lib.hid hR
      have HX := Lib.hid hx1
      clear hR hx1 hc hi
      gi_wp2_with fail
      refine ⟨trivial, ?_⟩
      refine (callsIn_wide.2 HC.out).mono ?_
      rintro e w' ⟨rfl, rfl⟩
      gi_wp2_with fail
      refine HR.out.mono ?_
      rintro e W3 (⟨rfl, hJ3, hk3, hs3⟩ | ⟨rfl, hJx3, hs3⟩)
      · gi_wp2
        go_end0
        exact ⟨⟨_, rfl⟩, .inl ⟨_, HX.out, hJ3⟩⟩
      · gi_wp2
        go_end0
        exact ⟨⟨_, rfl⟩, .inr ⟨_, ⟨[], by rw [HX.out]; simp⟩, hJx3⟩⟩

theorem sp_w (n : Nat) (hn : 1 ≤ n) (Bs n₀ : Nat) (s : ByteArray) (w : World) (hBs : Bs + 3 ≤ w.heap.size) (hn₀ : n₀ ≤ Bs) (h3 : 3 ≤ n₀) (m : Int) (hm : w.cell? ⟨2, 0, none⟩ = some (.int .i64 m)) (hs : Boxed w Bs 9 (.string s)) (hq : Boxed w (Bs + 1) 9 (.string ⟨#[32, 60, 32]⟩)) (hv : Boxed w (Bs + 2) 3 (.int .i64 0)) (hsz : s.size < 4294967281) :
    SeqT Fence.wide n Tryd.prog 92 #[.pointer (some ⟨Bs + 1, 0, none⟩), .pointer (some ⟨Bs, 0, none⟩), .pointer (some ⟨Bs + 2, 0, none⟩)] encS 0 (Kr n₀ Bs) (Tn Bs) (fun xs => xs = prt s) (fun pre => pre <+: prt s) w := by
  intro l J Jx W hb hJ hJT hJx hY h0
  exact sp_in n hn l Bs n₀ s J Jx W hJT hY (Nat.le_trans hBs hb.size) hn₀ h3 m (cell_below hm hb (Nat.le_refl _)) ((hb.block _ (by omega)).trans hs) ((hb.block _ (by omega)).trans hq) ((hb.block _ (by omega)).trans hv) hsz h0

theorem split_any (s : ByteArray) (w : World) :
    Calls Tryd.prog 52 #[.string s, .string ⟨#[32, 60, 32]⟩] w fun e w' => e = .returned (.func (.func 92) #[] #[.pointer (some ⟨w.heap.size + 1, 0, none⟩), .pointer (some ⟨w.heap.size, 0, none⟩), .pointer (some ⟨w.heap.size + 2, 0, none⟩)]) ∧
      w' = ((w.alloc (.cells #[.string s] 9)).alloc (.cells #[.string ⟨#[32, 60, 32]⟩] 9)).alloc (.cells #[.int .i64 0] 3) := by
  have H : ∀ w : World, Calls Tryd.prog 80 #[.string s, .string ⟨#[32, 60, 32]⟩, .int .i64 0] w fun e w' => e = .returned (.func (.func 92) #[] #[.pointer (some ⟨w.heap.size + 1, 0, none⟩), .pointer (some ⟨w.heap.size, 0, none⟩), .pointer (some ⟨w.heap.size + 2, 0, none⟩)]) ∧
      w' = ((w.alloc (.cells #[.string s] 9)).alloc (.cells #[.string ⟨#[32, 60, 32]⟩] 9)).alloc (.cells #[.int .i64 0] 3) := fun w => by
    go_enter Tryd.func80, Tryd.ntmps80
    go_wp2
    go_ret
    exact ⟨by simp, rfl⟩
  have H1 := Lib.hid H
  clear H
  go_enter Tryd.func52, Tryd.ntmps52
  go_wp2_with fail
  refine (H1.out _).mono ?_
  rintro e w' ⟨rfl, rfl⟩
  go_wp2
  go_ret
  exact ⟨rfl, rfl⟩
end Go.Proofs.YtocdinaomkmcbaaDoor
