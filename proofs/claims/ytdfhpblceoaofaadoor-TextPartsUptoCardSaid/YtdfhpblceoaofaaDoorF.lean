/-
  The contract of text.breaks, of text.Runes and of the iterator that it hands out.
-/
import Derived.RangeFuncNested
import Derived.RangeFuncBound
import Derived.RangeFuncCalls
import Derived.RangeFuncLeaves
import Derived.Shelf.Abstract
import Derived.WalkKit
import Derived.OwnWalkIn
import Derived.TacticsInMore
import Derived.LoopNIn
import Derived.LoopIn
import Derived.Test.YtdfhpblceoaofaaDoorE
import Derived.Test.YtdfhpblceoaofaaDoorShelf
namespace Go.Proofs.YtdfhpblceoaofaaDoor
open Go.ChangeShapes Go.WideShapes Go.ChangeAt Go.RowKit Go.Shelf
set_option linter.unusedVariables false
attribute [local go_sem] Oper.semAt_some

theorem get_cut (s : ByteArray) (i j : Nat) : (s.extract i s.size).get! j = s.get! (i + j) := by
  rw [get_at, get_at, Lib.extract_data]
  rw [List.getD_eq_getElem?_getD, List.getD_eq_getElem?_getD, List.getElem?_take, List.getElem?_drop]
  split
  · rfl
  · rw [List.getElem?_eq_none (by simp; omega)]
theorem decodeGo_cut (s : ByteArray) (i : Nat) (h : i < s.size) : Lib.decodeGo (s.extract i s.size) = Utf8.decode s i := by
  unfold Lib.decodeGo
  have h1 : (s.extract i s.size).size = s.size - i := by simp
  rw [if_neg (by omega), Lib.decode_at, Lib.decode_at, h1]
  simp only [get_cut, Nat.sub_zero, Nat.zero_add, Nat.add_zero]

theorem breaks_any (s : ByteArray) (i : Nat) (w : World) (h : i < s.size) (hT : Lib.Utf8Tabs 0 1 w) :
    Calls Tryd.prog 34 #[.string (s.extract i s.size)] w fun e w' => e = .returned (.bool (((Utf8.decode s i).2 : Int) == 1)) ∧ Below w.heap.size w w' := by
  have hc := Tryd.utf8_DecodeRuneInString (s.extract i s.size) w hT
  rw [decodeGo_cut s i h] at hc
  have HC := Lib.hid hc
  clear hc
  go_enter Tryd.func34, Tryd.ntmps34
  go_wp2_with fail
  refine HC.out.mono ?_
  rintro e w1 ⟨rfl, hb⟩
  go_wp2
  go_ret
  exact ⟨rfl, hb⟩

theorem tabs_below {n₀ : Nat} {w w' : World} (h : Lib.Utf8Tabs 0 1 w) (hb : Below n₀ w w') (h2 : 2 ≤ n₀) : Lib.Utf8Tabs 0 1 w' :=
  ⟨fun c hc => (hb.cell (p := ⟨0, c, none⟩) (by show 0 < n₀; omega)).trans (h.1 c hc),
   fun i hi => ⟨(hb.cell (p := ⟨1, 2 * i, none⟩) (by show 1 < n₀; omega)).trans (h.2 i hi).1, (hb.cell (p := ⟨1, 2 * i + 1, none⟩) (by show 1 < n₀; omega)).trans (h.2 i hi).2⟩⟩

/-- What a round is handed. -/
def encR (p : Pc) : Array Value := #[.int .i64 (p.at_ : Int), .int .i32 p.r]
/-- What lay below n₀ stands, and block Bs, too. -/
def Stay (n₀ Bs : Nat) (A B : World) : Prop := Below n₀ A B ∧ B.heap[Bs]? = A.heap[Bs]?
theorem Stay.trans {n₀ Bs : Nat} {A B C : World} (h : Stay n₀ Bs A B) (k : Stay n₀ Bs B C) : Stay n₀ Bs A C := ⟨h.1.trans k.1, k.2.trans h.2⟩
theorem Stay.of_below {n₀ Bs : Nat} {A B : World} (h : Below A.heap.size A B) (hn : n₀ ≤ A.heap.size) (hb : Bs < A.heap.size) : Stay n₀ Bs A B := ⟨h.mono hn, h.block _ hb⟩
theorem Stay.cell {n₀ Bs : Nat} {A B : World} {v : Value} (h : Stay n₀ Bs A B) (hc : A.cell? ⟨Bs, 0, none⟩ = some v) : B.cell? ⟨Bs, 0, none⟩ = some v :=
  (World.cell?_of_block (a := ⟨Bs, 0, none⟩) h.2).trans hc
/-- What a round that goes on keeps. -/
def Kp (n₀ Bs : Nat) (A B : World) : Prop := Stay n₀ Bs A B ∧ KeepsWalks A B
theorem Kp_t {n₀ Bs : Nat} {A B C : World} (h : Kp n₀ Bs A B) (k : Kp n₀ Bs B C) : Kp n₀ Bs A C := ⟨h.1.trans k.1, h.2.trans k.2⟩
theorem Kp_b {n₀ Bs : Nat} {w : World} (hn : n₀ ≤ w.heap.size) (hb : Bs < w.heap.size) (W : World) (l : Nat) (o o' : Obj) (hl : w.heap.size ≤ l) (h : W.heap[l]? = some o) (hc : o.isCells = false) (hw : o.isWalk = false) : Kp n₀ Bs W (W.putObj l o') :=
  ⟨⟨belowK_b hn W l o o' hl h hc hw, World.putObj_heap_other (by omega)⟩, walksK_b W l o o' hl h hc hw⟩

theorem grownBy_iterAt (w : World) (k : Nat) (s : ByteArray) (p : Nat) : w.grownBy (w.iterAt k s p) (some k) :=
  ⟨rfl, rfl, rfl, by rw [Lib.iterAt_size]; exact Nat.le_refl _, fun j _ hj => Lib.iterAt_other _ _ _ _ _ (fun e => hj (by rw [e]))⟩
theorem grownBy_below {w w' : World} (h : Below w.heap.size w w') : w.grownBy w' none := ⟨h.os, h.tape, h.output, h.size, fun k hk _ => h.block k hk⟩
theorem iterPos_of {w : World} {k : Nat} {s : ByteArray} {p : Nat} (h : w.heap[k]? = some (.stringIter s p)) : w.iterPos k = p := by simp [World.iterPos, h]
theorem fffd_of {s : ByteArray} {i : Nat} (h : (Utf8.decode s i).1 = 65533) (h' : ¬ Utf8.decode s i = (65533, 1)) : ¬ (Utf8.decode s i).2 = 1 := fun e => h' (by rw [← h, ← e])

set_option maxRecDepth 100000 in
set_option maxHeartbeats 2000000 in
theorem runes1_in (n : Nat) (hn : 1 ≤ n) (l Bs n₀ : Nat) (s : ByteArray) (J Jx : List Pc → World → Prop) (W : World) (hJ : AbidesFrom W.heap.size J)
    (hY : ∀ pre x W1, J pre W1 → pre.length < (G s 0).length → YieldAt Fence.wide (n - 1) Tryd.prog l (encR x) W1 fun e W' =>
      (e = .returned (.bool true) ∧ J (pre ++ [x]) W' ∧ Kp n₀ Bs W1 W') ∨ (e = .returned (.bool false) ∧ Jx (pre ++ [x]) W'))
    (hBs : Bs < W.heap.size) (hn₀ : n₀ ≤ W.heap.size) (h2 : 2 ≤ n₀) (hs : W.cell? ⟨Bs, 0, none⟩ = some (.string s)) (hT : Lib.Utf8Tabs 0 1 W) (hsz : s.size ≤ 1099511627776) (h0 : J [] W) :
    CallsIn Fence.wide n Tryd.prog 33 #[.func (.yield l) #[] #[], .pointer (some ⟨Bs, 0, none⟩)] W fun e W' => (∃ v, e = .returned v) ∧
      ((∃ ys, ys = G s 0 ∧ J ys W') ∨ (∃ pre, pre <+: G s 0 ∧ Jx pre W')) := by
  refine callsIn_of_wp Tryd.func33 rfl trivial ?_ rfl
  simp only [Tryd.ntmps33, List.size_toArray, List.length_cons, List.length_nil, Nat.reduceAdd, Nat.reduceSub, Array.replicate_succ, Array.replicate_zero, List.push_toArray, List.append_toArray, List.nil_append, List.cons_append]
  gi_wp2
  gi_loopw [3] (fun _ wr => ∃ (i : Nat) (pre : List Pc), wr.heap[W.heap.size]? = some (.stringIter s i) ∧ i ≤ s.size ∧ J pre wr ∧ Stay n₀ Bs W wr ∧ Hid (pre ++ G s i = G s 0)) (fun _ wr => s.size - wr.iterPos W.heap.size)
  case atStart =>
    exact ⟨0, [], World.iter_heap W s 0, by omega, hJ _ _ _ none h0 (World.grownBy_alloc W _ none) (fun r e => by cases e), Stay.of_below ((Below.refl _ _).alloc (Nat.le_refl _) _) hn₀ hBs, Lib.hid rfl⟩
  case round =>
    obtain ⟨i, pre, hit, hi, hJr, hB, HG⟩ := hrel
    have hpos0 := iterPos_of hit
    by_cases hlt : i < s.size
    · obtain ⟨d1, d2, d3, d4⟩ := dec_bd s i hlt
      have HC := Lib.hid (G_cons hlt)
      have hlen : pre.length < (G s 0).length := by rw [← HG.out, HC.out]; simp
      have hnx : ∀ ty, (Instr.next (.pointer (some ⟨W.heap.size, 0, none⟩)) true ty).run Tryd.prog wr = _ := fun ty => Lib.run_next_any_at wr W.heap.size s i ty hit hlt
      have hit2 := Lib.iterAt_heap wr W.heap.size s i (i + (Utf8.decode s i).2) hit
      have hB2 : Stay n₀ Bs W (wr.iterAt W.heap.size s (i + (Utf8.decode s i).2)) := ⟨Lib.below_iterAt hB.1 (k := W.heap.size) hn₀ s _, (Lib.iterAt_other _ _ _ _ _ (by omega)).trans hB.2⟩
      have hJ2 : J pre (wr.iterAt W.heap.size s (i + (Utf8.decode s i).2)) := hJ _ _ _ (some W.heap.size) hJr (grownBy_iterAt _ _ _ _) (fun r e => by cases e; exact ⟨Nat.le_refl _, _, hit, rfl⟩)
      obtain ⟨W1, hW1⟩ : ∃ W1, W1 = wr.iterAt W.heap.size s (i + (Utf8.decode s i).2) := ⟨_, rfl⟩
      rw [← hW1] at hnx hit2 hB2 hJ2
      have hT2 := tabs_below hT hB2.1 h2
      have hs2 : W1.cell? ⟨Bs, 0, none⟩ = some (.string s) := hB2.cell hs
      clear hW1 hit hJr hB
      have hlt' : (i : Int) < (s.size : Int) := by omega
      by_cases hbrk : Utf8.decode s i = (65533, 1)
      · have HP := Lib.hid (pc_break hbrk)
        have hr : (((Utf8.decode s i).1 : Int) == 65533) = true := by rw [hbrk]; rfl
        have hm : (((Utf8.decode s i).2 : Int) == 1) = true := by rw [hbrk]; rfl
        clear hbrk
        gi_wp2_with fail
        refine ⟨trivial, ?_⟩
        refine (callsIn_wide.2 (breaks_any s i _ hlt hT2)).mono ?_
        rintro e W2 ⟨rfl, hb⟩
        have JW2 := hJ _ _ _ none hJ2 (grownBy_below hb) (fun r e => by cases e)
        have BW2 := hB2.trans (Stay.of_below hb (Nat.le_trans hn₀ hB2.1.size) (Nat.lt_of_lt_of_le hBs hB2.1.size))
        have IT2 : W2.heap[W.heap.size]? = some (.stringIter s (i + (Utf8.decode s i).2)) := (hb.block _ (Array.getElem?_eq_some_iff.1 hit2).1).trans hit2
        clear hb hit2 hB2 hJ2 hT2 hs2
        obtain ⟨fn, tmps, assign, body, hy, hR⟩ := hY pre (pc s i) W2 JW2 hlen
        rw [HP.out] at hy
        dsimp only [encR] at hy
        gi_wp2
        refine hR.mono ?_
        rintro e W3 (⟨rfl, hJ3, hk3, hk4⟩ | ⟨rfl, hJx3⟩)
        · have hit3 := hk4.same _ _ IT2 rfl
          have hB3 := BW2.trans hk3
          gi_wp2
          go_roundw
          case rel => exact ⟨_, pre ++ [pc s i], hit3, d3, hJ3, hB3, Lib.hid (by rw [List.append_assoc, ← HG.out, HC.out]; rfl)⟩
          case measure => rw [iterPos_of hit3, hpos0]; omega
        · gi_wp2
          refine bodyPost_ret (results_none rfl _ _ _) rfl ?_
          exact ⟨⟨_, rfl⟩, .inr ⟨pre ++ [pc s i], ⟨G s (i + (Utf8.decode s i).2), by rw [List.append_assoc, ← HG.out, HC.out]; rfl⟩, hJx3⟩⟩
      · have HP := Lib.hid (pc_rune hbrk)
        by_cases hf : (Utf8.decode s i).1 = 65533
        · have hr : (((Utf8.decode s i).1 : Int) == 65533) = true := by rw [hf]; rfl
          have hm : (((Utf8.decode s i).2 : Int) == 1) = false := by have := fffd_of hf hbrk; simp; omega
          clear hbrk hf
          gi_wp2_with fail
          refine ⟨trivial, ?_⟩
          refine (callsIn_wide.2 (breaks_any s i _ hlt hT2)).mono ?_
          rintro e W2 ⟨rfl, hb⟩
          have JW2 := hJ _ _ _ none hJ2 (grownBy_below hb) (fun r e => by cases e)
          have BW2 := hB2.trans (Stay.of_below hb (Nat.le_trans hn₀ hB2.1.size) (Nat.lt_of_lt_of_le hBs hB2.1.size))
          have IT2 : W2.heap[W.heap.size]? = some (.stringIter s (i + (Utf8.decode s i).2)) := (hb.block _ (Array.getElem?_eq_some_iff.1 hit2).1).trans hit2
          clear hb hit2 hB2 hJ2 hT2 hs2
          obtain ⟨fn, tmps, assign, body, hy, hR⟩ := hY pre (pc s i) W2 JW2 hlen
          rw [HP.out] at hy
          dsimp only [encR] at hy
          gi_wp2
          refine hR.mono ?_
          rintro e W3 (⟨rfl, hJ3, hk3, hk4⟩ | ⟨rfl, hJx3⟩)
          · have hit3 := hk4.same _ _ IT2 rfl
            have hB3 := BW2.trans hk3
            gi_wp2
            go_roundw
            case rel => exact ⟨_, pre ++ [pc s i], hit3, d3, hJ3, hB3, Lib.hid (by rw [List.append_assoc, ← HG.out, HC.out]; rfl)⟩
            case measure => rw [iterPos_of hit3, hpos0]; omega
          · gi_wp2
            refine bodyPost_ret (results_none rfl _ _ _) rfl ?_
            exact ⟨⟨_, rfl⟩, .inr ⟨pre ++ [pc s i], ⟨G s (i + (Utf8.decode s i).2), by rw [List.append_assoc, ← HG.out, HC.out]; rfl⟩, hJx3⟩⟩
        · have hr : (((Utf8.decode s i).1 : Int) == 65533) = false := by simp; omega
          clear hbrk hf
          obtain ⟨fn, tmps, assign, body, hy, hR⟩ := hY pre (pc s i) W1 hJ2 hlen
          rw [HP.out] at hy
          dsimp only [encR] at hy
          gi_wp2
          refine ⟨trivial, ?_⟩
          gi_wp2
          refine hR.mono ?_
          rintro e W3 (⟨rfl, hJ3, hk3, hk4⟩ | ⟨rfl, hJx3⟩)
          · have hit3 := hk4.same _ _ hit2 rfl
            have hB3 := hB2.trans hk3
            gi_wp2
            go_roundw
            case rel => exact ⟨_, pre ++ [pc s i], hit3, d3, hJ3, hB3, Lib.hid (by rw [List.append_assoc, ← HG.out, HC.out]; rfl)⟩
            case measure => rw [iterPos_of hit3, hpos0]; omega
          · gi_wp2
            refine bodyPost_ret (results_none rfl _ _ _) rfl ?_
            exact ⟨⟨_, rfl⟩, .inr ⟨pre ++ [pc s i], ⟨G s (i + (Utf8.decode s i).2), by rw [List.append_assoc, ← HG.out, HC.out]; rfl⟩, hJx3⟩⟩
    · have hnx : ∀ ty, (Instr.next (.pointer (some ⟨W.heap.size, 0, none⟩)) true ty).run Tryd.prog wr = _ := fun ty => Lib.run_next_end_at wr W.heap.size s i ty hit hlt
      gi_wp2
      go_end0
      exact ⟨⟨_, rfl⟩, .inl ⟨pre, by rw [← HG.out, G_end (by omega), List.append_nil], hJr⟩⟩

/-- **Runes(s)**: the text is boxed; the function value captures the box. -/
theorem runes_any (s : ByteArray) (w : World) :
    Calls Tryd.prog 10 #[.string s] w fun e w' => e = .returned (.func (.func 33) #[] #[.pointer (some ⟨w.heap.size, 0, none⟩)]) ∧ w' = w.alloc (.cells #[.string s] 9) := by
  go_enter Tryd.func10, Tryd.ntmps10
  go_wp2
  go_ret
  exact ⟨rfl, rfl⟩

/-- **The iterator's contract.** -/
theorem runes_stops (n : Nat) (hn : 1 ≤ n) (Bs n₀ : Nat) (s : ByteArray) (w : World) (hBs : Bs < w.heap.size) (hn₀ : n₀ ≤ w.heap.size) (h2 : 2 ≤ n₀) (hs : w.cell? ⟨Bs, 0, none⟩ = some (.string s)) (hT : Lib.Utf8Tabs 0 1 w) (hsz : s.size ≤ 1099511627776) :
    SeqStopsK Fence.wide n Tryd.prog 33 #[.pointer (some ⟨Bs, 0, none⟩)] encR (Kp n₀ Bs) (fun ys => ys = G s 0) (fun pre => pre <+: G s 0) (G s 0).length w := fun l J Jx W hW hJ hJx hY h0 =>
  runes1_in n hn l Bs n₀ s J Jx W hJ hY (Nat.lt_of_lt_of_le hBs hW.size) (Nat.le_trans hn₀ hW.size) h2 ((hW.cell (p := ⟨Bs, 0, none⟩) hBs).trans hs) (tabs_below hT (hW.mono hn₀) h2) hsz h0
end Go.Proofs.YtdfhpblceoaofaaDoor
