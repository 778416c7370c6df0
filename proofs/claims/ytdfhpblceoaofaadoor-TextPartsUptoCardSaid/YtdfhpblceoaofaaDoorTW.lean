/-
  The iterator of Runes under the wider law: a round is told that what has come is a beginning of what is to come.
-/
import Derived.Test.YtdfhpblceoaofaaDoorTA
import Derived.Test.YtdfhpblceoaofaaDoorLW
namespace Go.Proofs.YtdfhpblceoaofaaDoor
open Go.ChangeShapes Go.WideShapes Go.ChangeAt Go.RowKit Go.Shelf
set_option linter.unusedVariables false
attribute [local go_sem] Oper.semAt_some

theorem nob_iter {W : World} {k i : Nat} {s : ByteArray} (h : W.heap[k]? = some (.stringIter s i)) : NoB k (k + 1) W := fun j h1 h2 => by
  obtain rfl : j = k := by omega
  exact ⟨_, h, fun c fz e => by cases e⟩
set_option maxRecDepth 100000 in
set_option maxHeartbeats 2000000 in
theorem runes1_w {α : Type} (encs : α → Array Value) (s : ByteArray) (f : (i : Nat) → i < s.size → α) (henc : ∀ i h, encs (f i h) = encR (pc s i)) (L : Nat → List α) (hLc : ∀ i (h : i < s.size), L i = f i h :: L (i + (Utf8.decode s i).2)) (hLe : ∀ i, s.size ≤ i → L i = []) (n : Nat) (hn : 1 ≤ n) (l Bs n₀ : Nat) (J Jx : List α → World → Prop) (W : World) (hJ : OwnFrom W.heap.size J)
    (hY : ∀ pre x W1, J pre W1 → pre ++ [x] <+: L 0 → W.heap.size + 1 ≤ W1.heap.size → NoB W.heap.size (W.heap.size + 1) W1 → YieldAt Fence.wide (n - 1) Tryd.prog l (encs x) W1 fun e W' =>
      (e = .returned (.bool true) ∧ J (pre ++ [x]) W' ∧ Stay n₀ Bs W1 W' ∧ Same W.heap.size (W.heap.size + 1) W1 W') ∨ (e = .returned (.bool false) ∧ Jx (pre ++ [x]) W' ∧ Same W.heap.size (W.heap.size + 1) W1 W'))
    (hBs : Bs < W.heap.size) (hn₀ : n₀ ≤ W.heap.size) (h2 : 2 ≤ n₀) (hs : W.cell? ⟨Bs, 0, none⟩ = some (.string s)) (hT : Lib.Utf8Tabs 0 1 W) (hsz : s.size ≤ 1099511627776) (h0 : J [] W) :
    CallsIn Fence.wide n Tryd.prog 33 #[.func (.yield l) #[] #[], .pointer (some ⟨Bs, 0, none⟩)] W fun e W' => (∃ v, e = .returned v) ∧
      ((∃ ys, ys = L 0 ∧ J ys W') ∨ (∃ pre, pre <+: L 0 ∧ Jx pre W')) := by
  refine callsIn_of_wp Tryd.func33 rfl trivial ?_ rfl
  simp only [Tryd.ntmps33, List.size_toArray, List.length_cons, List.length_nil, Nat.reduceAdd, Nat.reduceSub, Array.replicate_succ, Array.replicate_zero, List.push_toArray, List.append_toArray, List.nil_append, List.cons_append]
  gi_wp2
  gi_loopw [3] (fun _ wr => ∃ (i : Nat) (pre : List α), wr.heap[W.heap.size]? = some (.stringIter s i) ∧ i ≤ s.size ∧ J pre wr ∧ Stay n₀ Bs W wr ∧ Hid (pre ++ L i = L 0)) (fun _ wr => s.size - wr.iterPos W.heap.size)
  case atStart =>
    exact ⟨0, [], World.iter_heap W s 0, by omega, hJ _ _ _ none h0 (World.grownBy_alloc W _ none) (fun r e => by cases e), Stay.of_below ((Below.refl _ _).alloc (Nat.le_refl _) _) hn₀ hBs, Lib.hid rfl⟩
  case round =>
    obtain ⟨i, pre, hit, hi, hJr, hB, HG⟩ := hrel
    have hpos0 := iterPos_of hit
    by_cases hlt : i < s.size
    · obtain ⟨d1, d2, d3, d4⟩ := dec_bd s i hlt
      have HC := Lib.hid (hLc i hlt)
      have hlen : pre ++ [f i hlt] <+: L 0 := ⟨L (i + (Utf8.decode s i).2), by rw [List.append_assoc, ← HG.out, HC.out]; rfl⟩
      have hnx : ∀ ty, (Instr.next (.pointer (some ⟨W.heap.size, 0, none⟩)) true ty).run Tryd.prog wr = _ := fun ty => Lib.run_next_any_at wr W.heap.size s i ty hit hlt
      have hit2 := Lib.iterAt_heap wr W.heap.size s i (i + (Utf8.decode s i).2) hit
      have hB2 : Stay n₀ Bs W (wr.iterAt W.heap.size s (i + (Utf8.decode s i).2)) := ⟨Lib.below_iterAt hB.1 (k := W.heap.size) hn₀ s _, (Lib.iterAt_other _ _ _ _ _ (by omega)).trans hB.2⟩
      have hJ2 : J pre (wr.iterAt W.heap.size s (i + (Utf8.decode s i).2)) := hJ _ _ _ (some W.heap.size) hJr (grownBy_iterAt _ _ _ _) (fun r e => by cases e; exact ⟨Nat.le_refl _, _, hit, rfl⟩)
      obtain ⟨W1, hW1⟩ : ∃ W1, W1 = wr.iterAt W.heap.size s (i + (Utf8.decode s i).2) := ⟨_, rfl⟩
      rw [← hW1] at hnx hit2 hB2 hJ2
      have hT2 := tabs_below hT hB2.1 h2
      have hs2 : W1.cell? ⟨Bs, 0, none⟩ = some (.string s) := hB2.cell hs
      clear hW1 hit hJr hB
      have hlt' : (i : Int) < (s.size : Int) := by omega
      by_cases hbrk : Utf8.decode s i = (65533, 1)
      · have HP := Lib.hid (pc_break hbrk)
        have hr : (((Utf8.decode s i).1 : Int) == 65533) = true := by rw [hbrk]; rfl
        have hm : (((Utf8.decode s i).2 : Int) == 1) = true := by rw [hbrk]; rfl
        clear hbrk
        gi_wp2_with fail
        refine ⟨trivial, ?_⟩
        refine (callsIn_wide.2 (breaks_any s i _ hlt hT2)).mono ?_
        rintro e W2 ⟨rfl, hb⟩
        have JW2 := hJ _ _ _ none hJ2 (grownBy_below hb) (fun r e => by cases e)
        have BW2 := hB2.trans (Stay.of_below hb (Nat.le_trans hn₀ hB2.1.size) (Nat.lt_of_lt_of_le hBs hB2.1.size))
        have IT2 : W2.heap[W.heap.size]? = some (.stringIter s (i + (Utf8.decode s i).2)) := (hb.block _ (Array.getElem?_eq_some_iff.1 hit2).1).trans hit2
        clear hb hit2 hB2 hJ2 hT2 hs2
        obtain ⟨fn, tmps, assign, body, hy, hR⟩ := hY pre (f i hlt) W2 JW2 hlen (Array.getElem?_eq_some_iff.1 IT2).1 (nob_iter IT2)
        rw [henc i hlt, HP.out] at hy
        dsimp only [encR] at hy
        gi_wp2
        refine hR.mono ?_
        rintro e W3 (⟨rfl, hJ3, hk3, hs3⟩ | ⟨rfl, hJx3, _⟩)
        · have hit3 := (hs3 W.heap.size (Nat.le_refl _) (Nat.lt_succ_self _)).trans IT2
          have hB3 := BW2.trans hk3
          gi_wp2
          go_roundw
          case rel => exact ⟨_, pre ++ [f i hlt], hit3, d3, hJ3, hB3, Lib.hid (by rw [List.append_assoc, ← HG.out, HC.out]; rfl)⟩
          case measure => rw [iterPos_of hit3, hpos0]; omega
        · gi_wp2
          refine bodyPost_ret (results_none rfl _ _ _) rfl ?_
          exact ⟨⟨_, rfl⟩, .inr ⟨pre ++ [f i hlt], ⟨L (i + (Utf8.decode s i).2), by rw [List.append_assoc, ← HG.out, HC.out]; rfl⟩, hJx3⟩⟩
      · have HP := Lib.hid (pc_rune hbrk)
        by_cases hf : (Utf8.decode s i).1 = 65533
        · have hr : (((Utf8.decode s i).1 : Int) == 65533) = true := by rw [hf]; rfl
          have hm : (((Utf8.decode s i).2 : Int) == 1) = false := by have := fffd_of hf hbrk; simp; omega
          clear hbrk hf
          gi_wp2_with fail
          refine ⟨trivial, ?_⟩
          refine (callsIn_wide.2 (breaks_any s i _ hlt hT2)).mono ?_
          rintro e W2 ⟨rfl, hb⟩
          have JW2 := hJ _ _ _ none hJ2 (grownBy_below hb) (fun r e => by cases e)
          have BW2 := hB2.trans (Stay.of_below hb (Nat.le_trans hn₀ hB2.1.size) (Nat.lt_of_lt_of_le hBs hB2.1.size))
          have IT2 : W2.heap[W.heap.size]? = some (.stringIter s (i + (Utf8.decode s i).2)) := (hb.block _ (Array.getElem?_eq_some_iff.1 hit2).1).trans hit2
          clear hb hit2 hB2 hJ2 hT2 hs2
          obtain ⟨fn, tmps, assign, body, hy, hR⟩ := hY pre (f i hlt) W2 JW2 hlen (Array.getElem?_eq_some_iff.1 IT2).1 (nob_iter IT2)
          rw [henc i hlt, HP.out] at hy
          dsimp only [encR] at hy
          gi_wp2
          refine hR.mono ?_
          rintro e W3 (⟨rfl, hJ3, hk3, hs3⟩ | ⟨rfl, hJx3, _⟩)
          · have hit3 := (hs3 W.heap.size (Nat.le_refl _) (Nat.lt_succ_self _)).trans IT2
            have hB3 := BW2.trans hk3
            gi_wp2
            go_roundw
            case rel => exact ⟨_, pre ++ [f i hlt], hit3, d3, hJ3, hB3, Lib.hid (by rw [List.append_assoc, ← HG.out, HC.out]; rfl)⟩
            case measure => rw [iterPos_of hit3, hpos0]; omega
          · gi_wp2
            refine bodyPost_ret (results_none rfl _ _ _) rfl ?_
            exact ⟨⟨_, rfl⟩, .inr ⟨pre ++ [f i hlt], ⟨L (i + (Utf8.decode s i).2), by rw [List.append_assoc, ← HG.out, HC.out]; rfl⟩, hJx3⟩⟩
        · have hr : (((Utf8.decode s i).1 : Int) == 65533) = false := by simp; omega
          clear hbrk hf
          obtain ⟨fn, tmps, assign, body, hy, hR⟩ := hY pre (f i hlt) W1 hJ2 hlen (Array.getElem?_eq_some_iff.1 hit2).1 (nob_iter hit2)
          rw [henc i hlt, HP.out] at hy
          dsimp only [encR] at hy
          gi_wp2
          refine ⟨trivial, ?_⟩
          gi_wp2
          refine hR.mono ?_
          rintro e W3 (⟨rfl, hJ3, hk3, hs3⟩ | ⟨rfl, hJx3, _⟩)
          · have hit3 := (hs3 W.heap.size (Nat.le_refl _) (Nat.lt_succ_self _)).trans hit2
            have hB3 := hB2.trans hk3
            gi_wp2
            go_roundw
            case rel => exact ⟨_, pre ++ [f i hlt], hit3, d3, hJ3, hB3, Lib.hid (by rw [List.append_assoc, ← HG.out, HC.out]; rfl)⟩
            case measure => rw [iterPos_of hit3, hpos0]; omega
          · gi_wp2
            refine bodyPost_ret (results_none rfl _ _ _) rfl ?_
            exact ⟨⟨_, rfl⟩, .inr ⟨pre ++ [f i hlt], ⟨L (i + (Utf8.decode s i).2), by rw [List.append_assoc, ← HG.out, HC.out]; rfl⟩, hJx3⟩⟩
    · have hnx : ∀ ty, (Instr.next (.pointer (some ⟨W.heap.size, 0, none⟩)) true ty).run Tryd.prog wr = _ := fun ty => Lib.run_next_end_at wr W.heap.size s i ty hit hlt
      gi_wp2
      go_end0
      exact ⟨⟨_, rfl⟩, .inl ⟨pre, by rw [← HG.out, hLe i (by omega), List.append_nil], hJr⟩⟩



theorem Stay_b {n₀ Bs : Nat} {w : World} (hn : n₀ ≤ w.heap.size) (hb : Bs < w.heap.size) (W : World) (l : Nat) (o o' : Obj) (hl : w.heap.size ≤ l) (h : W.heap[l]? = some o) (hc : o.isCells = false) (hw : o.isWalk = false) : Stay n₀ Bs W (W.putObj l o') :=
  (Kp_b hn hb W l o o' hl h hc hw).1
/-- The iterator's contract. -/
theorem runes_w (n : Nat) (hn : 1 ≤ n) (Bs n₀ : Nat) (s : ByteArray) (w : World) (hBs : Bs < w.heap.size) (hn₀ : n₀ ≤ w.heap.size) (h2 : 2 ≤ n₀) (hs : w.cell? ⟨Bs, 0, none⟩ = some (.string s)) (hT : Lib.Utf8Tabs 0 1 w) (hsz : s.size ≤ 1099511627776) :
    SeqW Fence.wide n Tryd.prog 33 #[.pointer (some ⟨Bs, 0, none⟩)] (encS (s := s)) 1 (Stay n₀ Bs) (fun ys => ys = LS s 0) (fun pre => pre <+: LS s 0) w := fun l J Jx W hW hJ hJx hY h0 =>
  runes1_w (encS (s := s)) s (fun i h => ⟨i, h⟩) (fun i h => by simp only [encS, encR, pc_at]) (LS s) (fun i h => LS_cons i h) (fun i h => LS_end i h) n hn l Bs n₀ J Jx W hJ hY (Nat.lt_of_lt_of_le hBs hW.size) (Nat.le_trans hn₀ hW.size) h2 ((hW.cell (p := ⟨Bs, 0, none⟩) hBs).trans hs) (tabs_below hT (hW.mono hn₀) h2) hsz h0
end Go.Proofs.YtdfhpblceoaofaaDoor
