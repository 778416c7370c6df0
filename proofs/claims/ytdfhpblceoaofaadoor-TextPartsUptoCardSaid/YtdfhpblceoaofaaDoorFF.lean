/-
  The iterator of strings.FieldsFuncSeq, where the runes between are the blank and the line end.
-/
import Derived.Test.YtdfhpblceoaofaaDoorLW
import Derived.Test.YtdfhpblceoaofaaDoorFM
namespace Go.Proofs.YtdfhpblceoaofaaDoor
open Go.ChangeShapes Go.WideShapes Go.ChangeAt Go.RowKit Go.Shelf
set_option linter.unusedVariables false
attribute [local go_sem] Oper.semAt_some

theorem between_yes (r : Int) (w : World) (h : ((r == 32) || (r == 10)) = true) :
    Calls Tryd.prog 60 #[.int .i32 r] w fun e w' => e = .returned (.bool true) ∧ w = w' := by
  by_cases h1 : r = 32
  · subst h1
    go_enter Tryd.func60, Tryd.ntmps60
    go_wp2
    go_ret
    exact ⟨rfl, rfl⟩
  · have h2 : r = 10 := by simpa [h1] using h
    subst h2
    clear h h1
    go_enter Tryd.func60, Tryd.ntmps60
    go_wp2
    go_ret
    exact ⟨rfl, rfl⟩
theorem between_no (r : Int) (w : World) (h : ((r == 32) || (r == 10)) = false) :
    Calls Tryd.prog 60 #[.int .i32 r] w fun e w' => e = .returned (.bool false) ∧ w = w' := by
  have h1 : (r == 32) = false := by cases h' : (r == 32) <;> simp_all
  have h2 : (r == 10) = false := by cases h' : (r == 10) <;> simp_all
  clear h
  go_enter Tryd.func60, Tryd.ntmps60
  go_wp2
  go_ret
  exact ⟨by simp, rfl⟩

/-- What a round that goes on keeps: what lay below n₀, and two blocks. -/
def Kq (n₀ Bs Bf : Nat) (A B : World) : Prop := Below n₀ A B ∧ B.heap[Bs]? = A.heap[Bs]? ∧ B.heap[Bf]? = A.heap[Bf]?
theorem Kq_t {n₀ Bs Bf : Nat} {A B C : World} (h : Kq n₀ Bs Bf A B) (k : Kq n₀ Bs Bf B C) : Kq n₀ Bs Bf A C := ⟨h.1.trans k.1, k.2.1.trans h.2.1, k.2.2.trans h.2.2⟩
theorem Kq_refl (n₀ Bs Bf : Nat) (A : World) : Kq n₀ Bs Bf A A := ⟨Below.refl _ _, rfl, rfl⟩
theorem Kq_b {n₀ Bs Bf : Nat} {w : World} (hn : n₀ ≤ w.heap.size) (hs : Bs < w.heap.size) (hf : Bf < w.heap.size) (W : World) (l : Nat) (o o' : Obj) (hl : w.heap.size ≤ l) (h : W.heap[l]? = some o) (hc : o.isCells = false) (hw : o.isWalk = false) : Kq n₀ Bs Bf W (W.putObj l o') :=
  ⟨belowK_b hn W l o o' hl h hc hw, World.putObj_heap_other (by omega), World.putObj_heap_other (by omega)⟩
theorem Kq.of_below {n₀ Bs Bf : Nat} {A B : World} (h : Below A.heap.size A B) (hn : n₀ ≤ A.heap.size) (hs : Bs < A.heap.size) (hf : Bf < A.heap.size) : Kq n₀ Bs Bf A B := ⟨h.mono hn, h.block _ hs, h.block _ hf⟩

/-- Where the field under way began: -1, if none has. -/
def StartsAt (v : Value) (a i : Nat) : Prop := (v = .int .i64 (-1) ∧ a = i) ∨ (v = .int .i64 (a : Int) ∧ a < i)

def encF (x : ByteArray) : Array Value := #[.string x]
theorem pre_next {α : Type} {pre L rest : List α} {x : α} (h : pre ++ x :: rest = L) : pre ++ [x] <+: L := ⟨rest, by rw [← h]; simp⟩

set_option maxRecDepth 100000 in
set_option maxHeartbeats 4000000 in
theorem fields_in (n : Nat) (hn : 1 ≤ n) (l Bs Bf n₀ : Nat) (s : ByteArray) (J Jx : List ByteArray → World → Prop) (W : World) (hJ : OwnFrom W.heap.size J)
    (hY : ∀ pre x W1, J pre W1 → pre ++ [x] <+: FL s → W.heap.size + 0 ≤ W1.heap.size → NoB W.heap.size (W.heap.size + 0) W1 → YieldAt Fence.wide (n - 1) Tryd.prog l (encF x) W1 fun e W' =>
      (e = .returned (.bool true) ∧ J (pre ++ [x]) W' ∧ Kq n₀ Bs Bf W1 W' ∧ Same W.heap.size (W.heap.size + 0) W1 W') ∨ (e = .returned (.bool false) ∧ Jx (pre ++ [x]) W' ∧ Same W.heap.size (W.heap.size + 0) W1 W'))
    (hBs : Bs < W.heap.size) (hBf : Bf < W.heap.size) (hn₀ : n₀ ≤ W.heap.size) (h2 : 2 ≤ n₀) (hs : W.cell? ⟨Bs, 0, none⟩ = some (.string s)) (hf : W.cell? ⟨Bf, 0, none⟩ = some (.func (.func 60) #[] #[])) (hT : Lib.Utf8Tabs 0 1 W) (hsz : s.size ≤ 1099511627776) (h0 : J [] W) :
    CallsIn Fence.wide n Tryd.prog 65 #[.func (.yield l) #[] #[], .pointer (some ⟨Bs, 0, none⟩), .pointer (some ⟨Bf, 0, none⟩)] W fun e W' => (∃ v, e = .returned v) ∧
      ((∃ ys, ys = FL s ∧ J ys W') ∨ (∃ pre, pre <+: FL s ∧ Jx pre W')) := by
  refine callsIn_of_wp Tryd.func65 rfl trivial ?_ rfl
  simp only [Tryd.ntmps65, List.size_toArray, List.length_cons, List.length_nil, Nat.reduceAdd, Nat.reduceSub, Array.replicate_succ, Array.replicate_zero, List.push_toArray, List.append_toArray, List.nil_append, List.cons_append]
  gi_wp2
  gi_loopw [4, 5] (fun v t wr => ∃ (a i : Nat) (pre : List ByteArray), t = .int .i64 i ∧ i ≤ s.size ∧ StartsAt v a i ∧ J pre wr ∧ Kq n₀ Bs Bf W wr ∧ Hid (pre ++ Fl s a i = FL s)) (fun _ t _ => s.size - (intOf t).toNat)
  case atStart =>
    exact ⟨0, 0, [], rfl, by omega, .inl ⟨rfl, rfl⟩, h0, Kq_refl _ _ _ _, Lib.hid rfl⟩
  case round =>
    obtain ⟨a, i, pre, rfl, hi, hst, hJr, hK, HG⟩ := hrel
    have c1 : wr.cell? ⟨Bs, 0, none⟩ = some (.string s) := (World.cell?_of_block (a := ⟨Bs, 0, none⟩) hK.2.1).trans hs
    have c2 : wr.cell? ⟨Bf, 0, none⟩ = some (.func (.func 60) #[] #[]) := (World.cell?_of_block (a := ⟨Bf, 0, none⟩) hK.2.2).trans hf
    have hzz := hK.1.size
    by_cases hlt : i < s.size
    · obtain ⟨d1, d2, d3, d4⟩ := dec_bd s i hlt
      have hT2 := tabs_below hT hK.1 h2
      have hc := Tryd.utf8_DecodeRuneInString (s.extract i s.size) wr hT2
      rw [decodeGo_cut s i hlt] at hc
      have HC := Lib.hid hc
      have HS := Lib.hid (sep_iff (s := s) (i := i))
      clear hc hT2
      have hlt' : (i : Int) < (s.size : Int) := by omega
      cases hsp : sepB (s.get! i)
      · -- no blank
        have hb0 : ((((Utf8.decode s i).1 : Nat) : Int) == 32 || (((Utf8.decode s i).1 : Nat) : Int) == 10) = false := HS.out.symm.trans hsp
        have HM := Lib.hid (Fl_miss (a := a) hlt hsp)
        have HB := Lib.hid hb0
        clear hb0 hsp HS
        rcases hst with ⟨rfl, rfl⟩ | ⟨rfl, ha⟩
        · gi_wp2_with fail
          refine ⟨trivial, ?_⟩
          refine (callsIn_wide.2 HC.out).mono ?_
          rintro e W2 ⟨rfl, hb⟩
          have hJ2 := hJ _ _ _ none hJr (grownBy_below hb) (fun r e => by cases e)
          have hK2 := Kq_t hK (Kq.of_below hb (by omega) (by omega) (by omega))
          have c2' : W2.cell? ⟨Bf, 0, none⟩ = some (.func (.func 60) #[] #[]) := (World.cell?_of_block (a := ⟨Bf, 0, none⟩) hK2.2.2).trans hf
          clear hb hJr hK c1 c2
          gi_wp2_with fail
          refine ⟨trivial, ?_⟩
          refine (callsIn_wide.2 (between_no _ _ HB.out)).mono ?_
          rintro e W3 ⟨rfl, rfl⟩
          gi_wp2
          go_roundw
          case rel => exact ⟨a, a + (Utf8.decode s a).2, pre, (by go_num), d3, .inr ⟨rfl, by omega⟩, hJ2, hK2, Lib.hid (by rw [← HG.out, HM.out])⟩
          case measure => simp [intOf]; omega
        · gi_wp2_with fail
          refine ⟨trivial, ?_⟩
          refine (callsIn_wide.2 HC.out).mono ?_
          rintro e W2 ⟨rfl, hb⟩
          have hJ2 := hJ _ _ _ none hJr (grownBy_below hb) (fun r e => by cases e)
          have hK2 := Kq_t hK (Kq.of_below hb (by omega) (by omega) (by omega))
          have c2' : W2.cell? ⟨Bf, 0, none⟩ = some (.func (.func 60) #[] #[]) := (World.cell?_of_block (a := ⟨Bf, 0, none⟩) hK2.2.2).trans hf
          clear hb hJr hK c1 c2
          gi_wp2_with fail
          refine ⟨trivial, ?_⟩
          refine (callsIn_wide.2 (between_no _ _ HB.out)).mono ?_
          rintro e W3 ⟨rfl, rfl⟩
          gi_wp2
          go_roundw
          case rel => exact ⟨a, i + (Utf8.decode s i).2, pre, (by go_num), d3, .inr ⟨rfl, by omega⟩, hJ2, hK2, Lib.hid (by rw [← HG.out, HM.out])⟩
          case measure => simp [intOf]; omega
      · -- a blank, or a line end
        have hb1 : ((((Utf8.decode s i).1 : Nat) : Int) == 32 || (((Utf8.decode s i).1 : Nat) : Int) == 10) = true := HS.out.symm.trans hsp
        obtain ⟨hd, hF⟩ := Fl_hit (a := a) hlt hsp
        rw [hd] at HC d3
        have HB := Lib.hid hb1
        clear hb1 hsp HS hd d1 d2
        rcases hst with ⟨rfl, rfl⟩ | ⟨rfl, ha⟩
        · rw [if_neg (Nat.lt_irrefl _), List.nil_append] at hF
          have HM := Lib.hid hF
          clear hF
          gi_wp2_with fail
          refine ⟨trivial, ?_⟩
          refine (callsIn_wide.2 HC.out).mono ?_
          rintro e W2 ⟨rfl, hb⟩
          have hJ2 := hJ _ _ _ none hJr (grownBy_below hb) (fun r e => by cases e)
          have hK2 := Kq_t hK (Kq.of_below hb (by omega) (by omega) (by omega))
          have c2' : W2.cell? ⟨Bf, 0, none⟩ = some (.func (.func 60) #[] #[]) := (World.cell?_of_block (a := ⟨Bf, 0, none⟩) hK2.2.2).trans hf
          clear hb hJr hK c1 c2
          gi_wp2_with fail
          refine ⟨trivial, ?_⟩
          refine (callsIn_wide.2 (between_yes _ _ HB.out)).mono ?_
          rintro e W3 ⟨rfl, rfl⟩
          gi_wp2
          go_roundw
          case rel => exact ⟨a + 1, a + 1, pre, (by go_num), d3, .inl ⟨rfl, rfl⟩, hJ2, hK2, Lib.hid (by rw [← HG.out, HM.out])⟩
          case measure => simp [intOf]; omega
        · rw [if_pos ha] at hF
          have HM := Lib.hid (show pre ++ s.extract a i :: Fl s (i + 1) (i + 1) = FL s by rw [← HG.out, hF]; rfl)
          clear hF
          have ha' : (a : Int) ≤ (i : Int) := by omega
          have hi' : (i : Int) ≤ (s.size : Int) := by omega
          gi_wp2_with fail
          refine ⟨trivial, ?_⟩
          refine (callsIn_wide.2 HC.out).mono ?_
          rintro e W2 ⟨rfl, hb⟩
          have hJ2 := hJ _ _ _ none hJr (grownBy_below hb) (fun r e => by cases e)
          have hK2 := Kq_t hK (Kq.of_below hb (by omega) (by omega) (by omega))
          have hzb := hb.size
          have c1' : W2.cell? ⟨Bs, 0, none⟩ = some (.string s) := (World.cell?_of_block (a := ⟨Bs, 0, none⟩) hK2.2.1).trans hs
          have c2' : W2.cell? ⟨Bf, 0, none⟩ = some (.func (.func 60) #[] #[]) := (World.cell?_of_block (a := ⟨Bf, 0, none⟩) hK2.2.2).trans hf
          clear hb hJr hK c1 c2
          gi_wp2_with fail
          refine ⟨trivial, ?_⟩
          refine (callsIn_wide.2 (between_yes _ _ HB.out)).mono ?_
          rintro e W3 ⟨rfl, rfl⟩
          obtain ⟨fn, tmps, assign, body, hy, hR⟩ := hY pre (s.extract a i) W2 hJ2 (pre_next HM.out) hK2.1.size (NoB.none _ _)
          dsimp only [encF] at hy
          gi_wp2
          refine hR.mono ?_
          rintro e W3 (⟨rfl, hJ3, hk3, _⟩ | ⟨rfl, hJx3, _⟩)
          · gi_wp2
            go_roundw
            case rel => exact ⟨i + 1, i + 1, pre ++ [s.extract a i], (by go_num), d3, .inl ⟨rfl, rfl⟩, hJ3, Kq_t hK2 hk3, Lib.hid (by rw [List.append_assoc]; exact HM.out)⟩
            case measure => simp [intOf]; omega
          · gi_wp2
            refine bodyPost_ret (results_none rfl _ _ _) rfl ?_
            exact ⟨⟨_, rfl⟩, .inr ⟨pre ++ [s.extract a i], pre_next HM.out, hJx3⟩⟩
    · obtain rfl : i = s.size := by omega
      rcases hst with ⟨rfl, rfl⟩ | ⟨rfl, ha⟩
      · have HE := Lib.hid (show pre = FL s by rw [← HG.out, Fl_end (Nat.le_refl _), if_neg (Nat.lt_irrefl _), List.append_nil])
        gi_wp2
        go_end0
        exact ⟨⟨_, rfl⟩, .inl ⟨pre, HE.out, hJr⟩⟩
      · have HE := Lib.hid (show pre ++ [s.extract a s.size] = FL s by rw [← HG.out, Fl_end (Nat.le_refl _), if_pos ha])
        have ha' : (a : Int) ≤ (s.size : Int) := by omega
        obtain ⟨fn, tmps, assign, body, hy, hR⟩ := hY pre (s.extract a s.size) wr hJr (by rw [HE.out]; exact List.prefix_refl _) hzz (NoB.none _ _)
        dsimp only [encF] at hy
        gi_wp2
        refine hR.mono ?_
        rintro e W3 (⟨rfl, hJ3, hk3, _⟩ | ⟨rfl, hJx3, _⟩)
        · gi_wp2
          go_end0
          exact ⟨⟨_, rfl⟩, .inl ⟨_, HE.out, hJ3⟩⟩
        · gi_wp2
          go_end0
          exact ⟨⟨_, rfl⟩, .inr ⟨_, by rw [HE.out]; exact List.prefix_refl _, hJx3⟩⟩

/-- **FieldsFuncSeq(s, between)**: the text and the function are boxed; the function value captures the boxes. -/
theorem fieldsSeq_any (s : ByteArray) (w : World) :
    Calls Tryd.prog 59 #[.string s, .func (.func 60) #[] #[]] w fun e w' => e = .returned (.func (.func 65) #[] #[.pointer (some ⟨w.heap.size, 0, none⟩), .pointer (some ⟨w.heap.size + 1, 0, none⟩)]) ∧ w' = (w.alloc (.cells #[.string s] 9)).alloc (.cells #[.func (.func 60) #[] #[]] 79) := by
  go_enter Tryd.func59, Tryd.ntmps59
  go_wp2
  go_ret
  exact ⟨rfl, rfl⟩
/-- **The iterator's contract.** -/
theorem fields_w (n : Nat) (hn : 1 ≤ n) (Bs Bf n₀ : Nat) (s : ByteArray) (w : World) (hBs : Bs < w.heap.size) (hBf : Bf < w.heap.size) (hn₀ : n₀ ≤ w.heap.size) (h2 : 2 ≤ n₀) (hs : w.cell? ⟨Bs, 0, none⟩ = some (.string s)) (hf : w.cell? ⟨Bf, 0, none⟩ = some (.func (.func 60) #[] #[])) (hT : Lib.Utf8Tabs 0 1 w) (hsz : s.size ≤ 1099511627776) :
    SeqW Fence.wide n Tryd.prog 65 #[.pointer (some ⟨Bs, 0, none⟩), .pointer (some ⟨Bf, 0, none⟩)] encF 0 (Kq n₀ Bs Bf) (fun ys => ys = FL s) (fun pre => pre <+: FL s) w := fun l J Jx W hW hJ hJx hY h0 =>
  fields_in n hn l Bs Bf n₀ s J Jx W hJ hY (Nat.lt_of_lt_of_le hBs hW.size) (Nat.lt_of_lt_of_le hBf hW.size) (Nat.le_trans hn₀ hW.size) h2 ((hW.cell (p := ⟨Bs, 0, none⟩) hBs).trans hs) ((hW.cell (p := ⟨Bf, 0, none⟩) hBf).trans hf) (tabs_below hT (hW.mono hn₀) h2) hsz h0
end Go.Proofs.YtdfhpblceoaofaaDoor
