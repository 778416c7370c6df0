/-
  The iterator of Runes, told by what its values are: each is what is taken at some place of the text.
-/
import Derived.Test.YtdfhpblceoaofaaDoorK
import Derived.Test.YtdfhpblceoaofaaDoorLay
namespace Go.Proofs.YtdfhpblceoaofaaDoor
open Go.ChangeShapes Go.WideShapes Go.ChangeAt Go.RowKit Go.Shelf
set_option linter.unusedVariables false
attribute [local go_sem] Oper.semAt_some

set_option maxRecDepth 100000 in
set_option maxHeartbeats 2000000 in
theorem runes1_gen {α : Type} (encs : α → Array Value) (s : ByteArray) (f : (i : Nat) → i < s.size → α) (henc : ∀ i h, encs (f i h) = encR (pc s i)) (L : Nat → List α) (hLc : ∀ i (h : i < s.size), L i = f i h :: L (i + (Utf8.decode s i).2)) (hLe : ∀ i, s.size ≤ i → L i = []) (n : Nat) (hn : 1 ≤ n) (l Bs n₀ : Nat) (J Jx : List α → World → Prop) (W : World) (hJ : AbidesFrom W.heap.size J)
    (hY : ∀ pre x W1, J pre W1 → pre.length < (L 0).length → YieldAt Fence.wide (n - 1) Tryd.prog l (encs x) W1 fun e W' =>
      (e = .returned (.bool true) ∧ J (pre ++ [x]) W' ∧ Kp n₀ Bs W1 W') ∨ (e = .returned (.bool false) ∧ Jx (pre ++ [x]) W'))
    (hBs : Bs < W.heap.size) (hn₀ : n₀ ≤ W.heap.size) (h2 : 2 ≤ n₀) (hs : W.cell? ⟨Bs, 0, none⟩ = some (.string s)) (hT : Lib.Utf8Tabs 0 1 W) (hsz : s.size ≤ 1099511627776) (h0 : J [] W) :
    CallsIn Fence.wide n Tryd.prog 33 #[.func (.yield l) #[] #[], .pointer (some ⟨Bs, 0, none⟩)] W fun e W' => (∃ v, e = .returned v) ∧
      ((∃ ys, ys = L 0 ∧ J ys W') ∨ (∃ pre, pre <+: L 0 ∧ Jx pre W')) := by
  refine callsIn_of_wp Tryd.func33 rfl trivial ?_ rfl
  simp only [Tryd.ntmps33, List.size_toArray, List.length_cons, List.length_nil, Nat.reduceAdd, Nat.reduceSub, Array.replicate_succ, Array.replicate_zero, List.push_toArray, List.append_toArray, List.nil_append, List.cons_append]
  gi_wp2
  gi_loopw [3] (fun _ wr => ∃ (i : Nat) (pre : List α), wr.heap[W.heap.size]? = some (.stringIter s i) ∧ i ≤ s.size ∧ J pre wr ∧ Stay n₀ Bs W wr ∧ Hid (pre ++ L i = L 0)) (fun _ wr => s.size - wr.iterPos W.heap.size)
  case atStart =>
    exact ⟨0, [], World.iter_heap W s 0, by omega, hJ _ _ _ none h0 (World.grownBy_alloc W _ none) (fun r e => by cases e), Stay.of_below ((Below.refl _ _).alloc (Nat.le_refl _) _) hn₀ hBs, Lib.hid rfl⟩
  case round =>
    obtain ⟨i, pre, hit, hi, hJr, hB, HG⟩ := hrel
    have hpos0 := iterPos_of hit
    by_cases hlt : i < s.size
    · obtain ⟨d1, d2, d3, d4⟩ := dec_bd s i hlt
      have HC := Lib.hid (hLc i hlt)
      have hlen : pre.length < (L 0).length := by rw [← HG.out, HC.out]; simp
      have hnx : ∀ ty, (Instr.next (.pointer (some ⟨W.heap.size, 0, none⟩)) true ty).run Tryd.prog wr = _ := fun ty => Lib.run_next_any_at wr W.heap.size s i ty hit hlt
      have hit2 := Lib.iterAt_heap wr W.heap.size s i (i + (Utf8.decode s i).2) hit
      have hB2 : Stay n₀ Bs W (wr.iterAt W.heap.size s (i + (Utf8.decode s i).2)) := ⟨Lib.below_iterAt hB.1 (k := W.heap.size) hn₀ s _, (Lib.iterAt_other _ _ _ _ _ (by omega)).trans hB.2⟩
      have hJ2 : J pre (wr.iterAt W.heap.size s (i + (Utf8.decode s i).2)) := hJ _ _ _ (some W.heap.size) hJr (grownBy_iterAt _ _ _ _) (fun r e => by cases e; exact ⟨Nat.le_refl _, _, hit, rfl⟩)
      obtain ⟨W1, hW1⟩ : ∃ W1, W1 = wr.iterAt W.heap.size s (i + (Utf8.decode s i).2) := ⟨_, rfl⟩
      rw [← hW1] at hnx hit2 hB2 hJ2
      have hT2 := tabs_below hT hB2.1 h2
      have hs2 : W1.cell? ⟨Bs, 0, none⟩ = some (.string s) := hB2.cell hs
      clear hW1 hit hJr hB
      have hlt' : (i : Int) < (s.size : Int) := by omega
      by_cases hbrk : Utf8.decode s i = (65533, 1)
      · have HP := Lib.hid (pc_break hbrk)
        have hr : (((Utf8.decode s i).1 : Int) == 65533) = true := by rw [hbrk]; rfl
        have hm : (((Utf8.decode s i).2 : Int) == 1) = true := by rw [hbrk]; rfl
        clear hbrk
        gi_wp2_with fail
        refine ⟨trivial, ?_⟩
        refine (callsIn_wide.2 (breaks_any s i _ hlt hT2)).mono ?_
        rintro e W2 ⟨rfl, hb⟩
        have JW2 := hJ _ _ _ none hJ2 (grownBy_below hb) (fun r e => by cases e)
        have BW2 := hB2.trans (Stay.of_below hb (Nat.le_trans hn₀ hB2.1.size) (Nat.lt_of_lt_of_le hBs hB2.1.size))
        have IT2 : W2.heap[W.heap.size]? = some (.stringIter s (i + (Utf8.decode s i).2)) := (hb.block _ (Array.getElem?_eq_some_iff.1 hit2).1).trans hit2
        clear hb hit2 hB2 hJ2 hT2 hs2
        obtain ⟨fn, tmps, assign, body, hy, hR⟩ := hY pre (f i hlt) W2 JW2 hlen
        rw [henc i hlt, HP.out] at hy
        dsimp only [encR] at hy
        gi_wp2
        refine hR.mono ?_
        rintro e W3 (⟨rfl, hJ3, hk3, hk4⟩ | ⟨rfl, hJx3⟩)
        · have hit3 := hk4.same _ _ IT2 rfl
          have hB3 := BW2.trans hk3
          gi_wp2
          go_roundw
          case rel => exact ⟨_, pre ++ [f i hlt], hit3, d3, hJ3, hB3, Lib.hid (by rw [List.append_assoc, ← HG.out, HC.out]; rfl)⟩
          case measure => rw [iterPos_of hit3, hpos0]; omega
        · gi_wp2
          refine bodyPost_ret (results_none rfl _ _ _) rfl ?_
          exact ⟨⟨_, rfl⟩, .inr ⟨pre ++ [f i hlt], ⟨L (i + (Utf8.decode s i).2), by rw [List.append_assoc, ← HG.out, HC.out]; rfl⟩, hJx3⟩⟩
      · have HP := Lib.hid (pc_rune hbrk)
        by_cases hf : (Utf8.decode s i).1 = 65533
        · have hr : (((Utf8.decode s i).1 : Int) == 65533) = true := by rw [hf]; rfl
          have hm : (((Utf8.decode s i).2 : Int) == 1) = false := by have := fffd_of hf hbrk; simp; omega
          clear hbrk hf
          gi_wp2_with fail
          refine ⟨trivial, ?_⟩
          refine (callsIn_wide.2 (breaks_any s i _ hlt hT2)).mono ?_
          rintro e W2 ⟨rfl, hb⟩
          have JW2 := hJ _ _ _ none hJ2 (grownBy_below hb) (fun r e => by cases e)
          have BW2 := hB2.trans (Stay.of_below hb (Nat.le_trans hn₀ hB2.1.size) (Nat.lt_of_lt_of_le hBs hB2.1.size))
          have IT2 : W2.heap[W.heap.size]? = some (.stringIter s (i + (Utf8.decode s i).2)) := (hb.block _ (Array.getElem?_eq_some_iff.1 hit2).1).trans hit2
          clear hb hit2 hB2 hJ2 hT2 hs2
          obtain ⟨fn, tmps, assign, body, hy, hR⟩ := hY pre (f i hlt) W2 JW2 hlen
          rw [henc i hlt, HP.out] at hy
          dsimp only [encR] at hy
          gi_wp2
          refine hR.mono ?_
          rintro e W3 (⟨rfl, hJ3, hk3, hk4⟩ | ⟨rfl, hJx3⟩)
          · have hit3 := hk4.same _ _ IT2 rfl
            have hB3 := BW2.trans hk3
            gi_wp2
            go_roundw
            case rel => exact ⟨_, pre ++ [f i hlt], hit3, d3, hJ3, hB3, Lib.hid (by rw [List.append_assoc, ← HG.out, HC.out]; rfl)⟩
            case measure => rw [iterPos_of hit3, hpos0]; omega
          · gi_wp2
            refine bodyPost_ret (results_none rfl _ _ _) rfl ?_
            exact ⟨⟨_, rfl⟩, .inr ⟨pre ++ [f i hlt], ⟨L (i + (Utf8.decode s i).2), by rw [List.append_assoc, ← HG.out, HC.out]; rfl⟩, hJx3⟩⟩
        · have hr : (((Utf8.decode s i).1 : Int) == 65533) = false := by simp; omega
          clear hbrk hf
          obtain ⟨fn, tmps, assign, body, hy, hR⟩ := hY pre (f i hlt) W1 hJ2 hlen
          rw [henc i hlt, HP.out] at hy
          dsimp only [encR] at hy
          gi_wp2
          refine ⟨trivial, ?_⟩
          gi_wp2
          refine hR.mono ?_
          rintro e W3 (⟨rfl, hJ3, hk3, hk4⟩ | ⟨rfl, hJx3⟩)
          · have hit3 := hk4.same _ _ hit2 rfl
            have hB3 := hB2.trans hk3
            gi_wp2
            go_roundw
            case rel => exact ⟨_, pre ++ [f i hlt], hit3, d3, hJ3, hB3, Lib.hid (by rw [List.append_assoc, ← HG.out, HC.out]; rfl)⟩
            case measure => rw [iterPos_of hit3, hpos0]; omega
          · gi_wp2
            refine bodyPost_ret (results_none rfl _ _ _) rfl ?_
            exact ⟨⟨_, rfl⟩, .inr ⟨pre ++ [f i hlt], ⟨L (i + (Utf8.decode s i).2), by rw [List.append_assoc, ← HG.out, HC.out]; rfl⟩, hJx3⟩⟩
    · have hnx : ∀ ty, (Instr.next (.pointer (some ⟨W.heap.size, 0, none⟩)) true ty).run Tryd.prog wr = _ := fun ty => Lib.run_next_end_at wr W.heap.size s i ty hit hlt
      gi_wp2
      go_end0
      exact ⟨⟨_, rfl⟩, .inl ⟨pre, by rw [← HG.out, hLe i (by omega), List.append_nil], hJr⟩⟩


/-- What is taken at some place of a text. -/
abbrev Sub (s : ByteArray) : Type := { i : Nat // i < s.size }
/-- The places, in order. -/
def pls (s : ByteArray) : Nat → Nat → List (Sub s)
  | 0, _ => []
  | f + 1, i => if h : i < s.size then ⟨i, h⟩ :: pls s f (i + (Utf8.decode s i).2) else []
theorem pls_pcs (s : ByteArray) : ∀ f i, (pls s f i).map (fun x => pc s x.1) = pcs s f i
  | 0, i => rfl
  | f + 1, i => by
    simp only [pls, pcs]
    split
    · simp [pls_pcs s f, pc_n]
    · rfl
theorem pls_fuel (s : ByteArray) : ∀ (a b i : Nat), s.size - i ≤ a → a ≤ b → pls s a i = pls s b i := by
  intro a
  induction a with
  | zero =>
    intro b i h1 h2
    cases b with
    | zero => rfl
    | succ b => simp only [pls]; rw [dif_neg (by omega)]
  | succ a ih =>
    intro b i h1 h2
    cases b with
    | zero => omega
    | succ b =>
      simp only [pls]
      split
      · rename_i h
        have := dec_bd s i h
        rw [ih b _ (by omega) (by omega)]
      · rfl
def LS (s : ByteArray) (i : Nat) : List (Sub s) := pls s (s.size - i) i
theorem LS_cons {s : ByteArray} (i : Nat) (h : i < s.size) : LS s i = ⟨i, h⟩ :: LS s (i + (Utf8.decode s i).2) := by
  have hb := dec_bd s i h
  unfold LS
  obtain ⟨g, hg⟩ : ∃ g, s.size - i = g + 1 := ⟨s.size - i - 1, by omega⟩
  rw [hg]
  simp only [pls, dif_pos h]
  rw [pls_fuel s _ g _ (Nat.le_refl _) (by omega)]
theorem LS_end {s : ByteArray} (i : Nat) (h : s.size ≤ i) : LS s i = [] := by unfold LS; rw [show s.size - i = 0 by omega]; rfl
theorem LS_G (s : ByteArray) : (LS s 0).map (fun x => pc s x.1) = G s 0 := pls_pcs s _ _
theorem LS_len (s : ByteArray) : (LS s 0).length ≤ s.size := by
  have := congrArg List.length (LS_G s)
  rw [List.length_map] at this
  rw [this]; exact G_le s

def encS {s : ByteArray} (x : Sub s) : Array Value := #[.int .i64 (x.1 : Int), .int .i32 (pc s x.1).r]
theorem runes_sub (n : Nat) (hn : 1 ≤ n) (Bs n₀ : Nat) (s : ByteArray) (w : World) (hBs : Bs < w.heap.size) (hn₀ : n₀ ≤ w.heap.size) (h2 : 2 ≤ n₀) (hs : w.cell? ⟨Bs, 0, none⟩ = some (.string s)) (hT : Lib.Utf8Tabs 0 1 w) (hsz : s.size ≤ 1099511627776) :
    SeqStopsK Fence.wide n Tryd.prog 33 #[.pointer (some ⟨Bs, 0, none⟩)] (encS (s := s)) (Kp n₀ Bs) (fun ys => ys = LS s 0) (fun pre => pre <+: LS s 0) (LS s 0).length w := fun l J Jx W hW hJ hJx hY h0 =>
  runes1_gen (encS (s := s)) s (fun i h => ⟨i, h⟩) (fun i h => by simp only [encS, encR, pc_at]) (LS s) (fun i h => LS_cons i h) (fun i h => LS_end i h) n hn l Bs n₀ J Jx W hJ hY (Nat.lt_of_lt_of_le hBs hW.size) (Nat.le_trans hn₀ hW.size) h2 ((hW.cell (p := ⟨Bs, 0, none⟩) hBs).trans hs) (tabs_below hT (hW.mono hn₀) h2) hsz h0
end Go.Proofs.YtdfhpblceoaofaaDoor
