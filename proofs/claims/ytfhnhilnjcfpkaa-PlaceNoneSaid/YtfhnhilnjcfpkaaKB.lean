/-
  Carried from another seat.
-/
import Derived.Test.YtfhnhilnjcfpkaaK
import Derived.Lib.OthersKept
import Derived.RangeFuncNested
import Derived.RangeFuncBound
import Derived.RangeFuncCalls
import Derived.RangeFuncLeaves
import Derived.RangeFuncBox
import Derived.Shelf.Abstract
import Derived.Shelf.RegionOpen
import Derived.OwnWalkIn
import Derived.TacticsInMore
import Derived.LoopNIn
import Derived.LoopIn
import Derived.Laws.EntriesVeiled
import Derived.Test.YtfhnhilnjcfpkaaKA
import Derived.StillTailTactics
import Derived.OrdersIn
import Derived.TacticsIn
import Derived.KernelRfl
import Derived.Deep.CutRange
import Derived.Test.YtfhnhilnjcfpkaaBA
import Derived.Lib.AppendStr
import Derived.Test.YtfhnhilnjcfpkaaSE
import Derived.Laws.BitsLemmas
import Derived.Test.YtfhnhilnjcfpkaaN
import Derived.WalkMore
import Derived.Deep.LoopGhost
/-
  Trees: Stack, Told, From; what the law has in hand.
-/
namespace Go.Proofs.Ytfhnhilnjcfpkaa
open Go.ChangeShapes Go.WideShapes Go.ChangeAt Go.RowKit Go.Shelf
set_option linter.unusedVariables false
attribute [local go_sem] Oper.semAt_some
end Go.Proofs.Ytfhnhilnjcfpkaa
namespace Go.Proofs.Ytfhnhilnjcfpkaa
open Go
section
variable {P : Program} {ops : Array Oper} {md : Region.Mode} {w : World} {n l : Nat}
end
end Go.Proofs.Ytfhnhilnjcfpkaa
namespace Go.Proofs.Ytfhnhilnjcfpkaa
open Go.ChangeShapes Go.WideShapes Go.ChangeAt Go.RowKit Go.Shelf
set_option linter.unusedVariables false
attribute [local go_sem] Oper.semAt_some
end Go.Proofs.Ytfhnhilnjcfpkaa
namespace Go.Proofs.Ytfhnhilnjcfpkaa
open Go.ChangeShapes Go.WideShapes Go.ChangeAt Go.RowKit Go.Shelf
set_option linter.unusedVariables false
/-- A number as bytes. -/
def sh (n : Nat) : List UInt8 :=
  if n < 128 then [UInt8.ofNat n] else if n < 16384 then [UInt8.ofNat (n % 128 + 128), UInt8.ofNat (n / 128)] else [UInt8.ofNat (n % 128 + 128), UInt8.ofNat (n / 128 % 128 + 128), UInt8.ofNat (n / 16384)]
theorem sh_small {n : Nat} (h : n < 128) : sh n = [UInt8.ofNat n] := by unfold sh; rw [if_pos h]
theorem sh_step {n : Nat} (h : 128 ≤ n) (h2 : n < 2097152) : sh n = UInt8.ofNat (n % 128 + 128) :: sh (n / 128) := by
  unfold sh
  rw [if_neg (by omega)]
  by_cases h3 : n < 16384
  · rw [if_pos h3, if_pos (by omega)]
  · rw [if_neg h3, if_neg (by omega), if_pos (by omega), show n / 128 / 128 = n / 16384 by omega]
theorem sh_len (n : Nat) : (sh n).length ≤ 3 := by unfold sh; split <;> (try split) <;> simp

/-- Nothing has turned but rows of bytes, and what is new. -/
structure OnlyB (w w' : World) : Prop where
  os : w'.os = w.os
  tape : w'.tape = w.tape
  output : w'.output = w.output
  size : w.heap.size ≤ w'.heap.size
  block : ∀ (k : Nat) (cs : Array Value) (e : TypeId) (fr : Nat × Nat), w.heap[k]? = some (.cells cs e fr) → e ≠ 5 → w'.heap[k]? = w.heap[k]?
theorem OnlyB.refl (w : World) : OnlyB w w := ⟨rfl, rfl, rfl, Nat.le_refl _, fun _ _ _ _ _ _ => rfl⟩
theorem OnlyB.trans {a b c : World} (h : OnlyB a b) (k : OnlyB b c) : OnlyB a c :=
  ⟨k.os.trans h.os, k.tape.trans h.tape, k.output.trans h.output, Nat.le_trans h.size k.size, fun i cs e fr hi h1 => (k.block i cs e fr ((h.block i cs e fr hi h1).trans hi) h1).trans (h.block i cs e fr hi h1)⟩
theorem OnlyB.of_below {a b : World} (h : Below a.heap.size a b) : OnlyB a b := ⟨h.os, h.tape, h.output, h.size, fun k cs e fr hk _ => h.block k (Array.getElem?_eq_some_iff.1 hk).1⟩
theorem OnlyB.of_grown {a b : World} {B s n : Nat} {v : Value} {xs : List Value} (h : a.grownBy b v.ownBlock) (ho : a.ownsRow B 5 s v n xs) : OnlyB a b :=
  ⟨h.os, h.tape, h.output, h.size, fun k cs e fr hk h1 => h.block k (Array.getElem?_eq_some_iff.1 hk).1 (fun e' => by
    rcases ho.2 with ⟨rfl, _⟩ | ⟨g, cap, cur, rfl, _, hg, _⟩
    · cases e'
    · cases e'
      rw [hk] at hg
      cases hg
      exact h1 rfl)⟩
theorem OnlyB.drew {a b : World} (h : OnlyB a b) : OnlyB a b.drew := ⟨h.os, h.tape, h.output, h.size, h.block⟩

theorem or128 : ∀ b : Fin 256, bits .or .u8 (b.val : Int) 128 = ((UInt8.ofNat (b.val % 128 + 128)).toNat : Int) := by decide +kernel
theorem or_top (k : Nat) : bits .or .u8 ((k : Int) % 256) 128 = ((UInt8.ofNat (k % 128 + 128)).toNat : Int) := by
  have h := or128 ⟨k % 256, by omega⟩
  simp only at h
  rw [show k % 256 % 128 = k % 128 by omega] at h
  rw [← h]
  congr 1
theorem cB_low {k : Nat} (h : k < 256) : cB (UInt8.ofNat k) = .int .u8 (k : Int) := by
  unfold cB
  rw [UInt8.toNat_ofNat', Nat.mod_eq_of_lt (by omega)]
set_option maxRecDepth 100000 in
set_option maxHeartbeats 8000000 in
theorem short_any (B n : Nat) (v : Value) (l : List UInt8) (w : World) (hB : B ≤ w.heap.size) (hn : n < 2097152) (hl : l.length ≤ 1000000000) (ho : w.ownsRow B 5 1 v l.length (l.map cB)) :
    Calls Try.prog 19 #[v, .int .i64 n] w fun e w' => ∃ v', e = .returned v' ∧ w'.ownsRow B 5 1 v' (l ++ sh n).length ((l ++ sh n).map cB) ∧ OnlyB w w' ∧ Below B w w' := by
  obtain ⟨i5, hi5, hy0, hy1, hy2⟩ := info_parts info5
  have HRL : Hid ((l ++ sh n).length ≤ 1000000003) := Lib.hid (by have h3 := sh_len n; rw [List.length_append]; omega)
  obtain ⟨R, hR⟩ : ∃ R, l ++ sh n = R := ⟨_, rfl⟩
  have HR0 := Lib.hid hR
  rw [hR] at HRL ⊢
  clear hR
  go_enter Try.func19, Try.ntmps19
  go_wp2_with fail
  go_loopw [0, 1] (fun vb t wr => ∃ (k : Nat) (bs : List UInt8), t = .int .i64 k ∧ k < 2097152 ∧ Hid (bs ++ sh k = R) ∧ bs.length ≤ 1000000003 ∧ Hid (OnlyB w wr ∧ Below B w wr) ∧ B ≤ wr.heap.size ∧ wr.ownsRow B 5 1 vb bs.length (bs.map cB)) (fun _ t _ => (intOf t).toNat)
  case atStart => exact ⟨n, l, rfl, hn, HR0, by omega, Lib.hid ⟨OnlyB.refl _, Below.refl _ _⟩, hB, ho⟩
  case round =>
    obtain ⟨k, bs, rfl, hk, HE, hbs, HW, hz, ob⟩ := hrel
    have hk0 : (0 : Int) ≤ (k : Int) := Int.natCast_nonneg _
    generalize hV : wr = V at *
    clear hV
    by_cases hlt : 128 ≤ k
    · have hlt' : (128 : Int) ≤ (k : Int) := by omega
      obtain ⟨x, hx⟩ : ∃ x, UInt8.ofNat (k % 128 + 128) = x := ⟨_, rfl⟩
      have hbit := or_top k
      rw [hx] at hbit
      have HN : Hid ((bs ++ [x]) ++ sh (k / 128) = R) := Lib.hid (by rw [← HE.out, sh_step hlt hk, hx, List.append_assoc]; rfl)
      have HLN : Hid ((bs ++ [x]).length ≤ 1000000003) := Lib.hid (by
        have := congrArg List.length HN.out
        have h3 := HRL.out
        rw [List.length_append] at this
        omega)
      have HM : Hid ((bs ++ [x]).map cB = bs.map cB ++ [.int .u8 (x.toNat : Int)]) := Lib.hid (by simp [cB])
      have HL : Hid ((bs ++ [x]).length = bs.length + 1) := Lib.hid (by simp)
      clear hx
      generalize bs.map cB = cs at *
      generalize hbl : bs.length = m at *
      clear hbl
      go_wp2_with (at_builtin; refine wpList_append_lies _ rfl _ _ _ rfl B 5 i5 _ 1 1 Try.underlying38 hi5 hy0 hy1 hy2 rfl (by omega) u0 m cs rfl (ob.alloc _) ⟨V.heap.size, 0, none⟩ 1 1 [.int .u8 (x.toNat : Int)] rfl rfl (World.news_of_block (cs := #[.int .u8 (x.toNat : Int)]) (t := 5) (fr := (0, 0)) (heap_alloc_new V _)) (by simp [Value.oneCell']) (by omega) (by unfold maxLen; omega) (by omega) (by simp; omega) (V.heap.size + 1) (by simp) ?_; intro gg cap' w1 hown1 hgrow hat hlt1)
      have hO1 := (OnlyB.of_below ((Below.refl V.heap.size V).alloc (Nat.le_refl _) (.cells #[.int .u8 (x.toNat : Int)] 5))).trans (OnlyB.of_grown hgrow (ob.alloc _))
      have hb1' := Below.grown (((Below.refl B V)).alloc hz (.cells #[.int .u8 (x.toNat : Int)] 5)) hgrow (by simp; omega) (fun j hj => (ob.lt j hj).1)
      have hz1 : B ≤ w1.heap.size := Nat.le_trans hz hb1'.size
      go_wp2_with fail
      go_roundw
      case rel => exact ⟨k / 128, bs ++ [x], by go_num, by omega, HN, HLN.out, Lib.hid ⟨HW.out.1.trans hO1, HW.out.2.trans hb1'⟩, hz1, by rw [HL.out, HM.out]; exact hown1⟩
      case measure => simp [intOf]; omega
    · have hlt' : ¬ (128 : Int) ≤ (k : Int) := by omega
      have HR : Hid (R = bs ++ [UInt8.ofNat k]) := Lib.hid (by rw [← HE.out, sh_small (by omega)])
      have HM : Hid ((bs ++ [UInt8.ofNat k]).map cB = bs.map cB ++ [.int .u8 (k : Int)]) := Lib.hid (by rw [List.map_append, List.map_singleton, cB_low (by omega)])
      have HL : Hid ((bs ++ [UInt8.ofNat k]).length = bs.length + 1) := Lib.hid (by simp)
      generalize bs.map cB = cs at *
      generalize hbl : bs.length = m at *
      clear hbl
      go_wp2_with (at_builtin; refine wpList_append_lies _ rfl _ _ _ rfl B 5 i5 _ 1 1 Try.underlying38 hi5 hy0 hy1 hy2 rfl (by omega) u0 m cs rfl (ob.alloc _) ⟨V.heap.size, 0, none⟩ 1 1 [.int .u8 (k : Int)] rfl rfl (World.news_of_block (cs := #[.int .u8 (k : Int)]) (t := 5) (fr := (0, 0)) (heap_alloc_new V _)) (by simp [Value.oneCell']) (by omega) (by unfold maxLen; omega) (by omega) (by simp; omega) (V.heap.size + 1) (by simp) ?_; intro gg cap' w1 hown1 hgrow hat hlt1)
      have hO1 := (OnlyB.of_below ((Below.refl V.heap.size V).alloc (Nat.le_refl _) (.cells #[.int .u8 (k : Int)] 5))).trans (OnlyB.of_grown hgrow (ob.alloc _))
      have hb1' := Below.grown (((Below.refl B V)).alloc hz (.cells #[.int .u8 (k : Int)] 5)) hgrow (by simp; omega) (fun j hj => (ob.lt j hj).1)
      go_wp2_with fail
      go_ret
      exact ⟨_, rfl, by rw [HR.out, HL.out, HM.out]; exact hown1, HW.out.1.trans hO1, HW.out.2.trans hb1'⟩
end Go.Proofs.Ytfhnhilnjcfpkaa
namespace Go.Proofs.Ytfhnhilnjcfpkaa
open Go.ChangeShapes Go.WideShapes Go.ChangeAt Go.RowKit Go.Shelf
set_option linter.unusedVariables false
/-- A node as bytes. -/
def tlP (j : Nat) (x : Nd) : List UInt8 := sh (j - x.1) ++ sh x.2.1.size ++ x.2.1.data.toList ++ sh x.2.2.toNat
def tlJ (nd : List Nd) (j : Nat) : List UInt8 := match nd[j]? with
  | some x => tlP j x
  | none => []
/-- The nodes k + 1 to k + m as bytes. -/
def tlS (nd : List Nd) (k m : Nat) : List UInt8 := (List.range' (k + 1) m).flatMap (tlJ nd)
theorem tlS_zero (nd : List Nd) (k : Nat) : tlS nd k 0 = [] := rfl
theorem tlS_cons (nd : List Nd) (k m : Nat) : tlS nd k (m + 1) = tlJ nd (k + 1) ++ tlS nd (k + 1) m := by
  simp [tlS, List.range'_succ]
theorem tlS_snoc (nd : List Nd) (k m : Nat) : tlS nd k (m + 1) = tlS nd k m ++ tlJ nd (k + m + 1) := by
  simp [tlS, List.range'_concat, show k + 1 + m = k + m + 1 by omega]
/-- A tree as bytes. -/
def told (nd : List Nd) : List UInt8 := sh (nd.length - 1) ++ tlS nd 0 (nd.length - 1)
theorem tlJ_at {nd : List Nd} {j : Nat} {x : Nd} (h : nd[j]? = some x) : tlJ nd j = tlP j x := by simp [tlJ, h]
theorem may_bounds {p : Pl} (h : may p = true) : 1 ≤ p.1.size ∧ p.1.size ≤ 120 ∧ 0 ≤ p.2 ∧ p.2 ≤ 1048576 := by
  by_cases hc : 1 ≤ p.1.size ∧ p.1.size ≤ 120 ∧ 0 ≤ p.2 ∧ p.2 ≤ 1048576
  · exact hc
  · rw [may_out hc] at h
    cases h
theorem tlP_len {j : Nat} {x : Nd} (h : may x.2 = true) : (tlP j x).length ≤ 129 := by
  have h1 := sh_len (j - x.1)
  have h2 := sh_len x.2.1.size
  have h3 := sh_len x.2.2.toNat
  obtain ⟨_, h4, _⟩ := may_bounds h
  have : x.2.1.data.toList.length = x.2.1.size := by simp
  simp only [tlP, List.length_append]
  omega
theorem told_len {nd : List Nd} (h : Wf nd) : ∀ m, m < nd.length → (tlS nd 0 m).length ≤ 129 * m := by
  intro m
  induction m with
  | zero => intro _; simp [tlS_zero]
  | succ m ih =>
    intro hm
    obtain ⟨x, hx⟩ : ∃ x, nd[m + 1]? = some x := ⟨_, List.getElem?_eq_getElem hm⟩
    have := ih (by omega)
    have h2 := tlP_len (j := m + 1) (h.good (m + 1) x (by omega) hx)
    rw [tlS_snoc, List.length_append, Nat.zero_add, tlJ_at hx]
    omega
end Go.Proofs.Ytfhnhilnjcfpkaa
namespace Go.Proofs.Ytfhnhilnjcfpkaa
open Go.ChangeShapes Go.WideShapes Go.ChangeAt Go.RowKit Go.Shelf
set_option linter.unusedVariables false
theorem onlyB_cell {w w' : World} {b : Nat} {cs : Array Value} {t : TypeId} {fr : Nat × Nat} (h : w.heap[b]? = some (.cells cs t fr)) (ho : OnlyB w w') (ht : t ≠ 5) : w'.heap[b]? = some (.cells cs t fr) := (ho.block b cs t fr h ht).trans h

theorem box3 {W : World} {b : Nat} {x y z : Value} {t : TypeId} (h : W.heap[b]? = some (.cells #[x, y, z] t (0, 0))) : W.cell? ⟨b, 0, none⟩ = some x ∧ W.cell? ⟨b, 1, none⟩ = some y ∧ W.cell? ⟨b, 2, none⟩ = some z := by simp [World.cell?, h]
theorem sh_ne (n : Nat) : 1 ≤ (sh n).length := by unfold sh; split <;> (try split) <;> simp
theorem byte_row {W : World} {B : Nat} {v : Value} {bs : List UInt8} (h : W.ownsRow B 5 1 v bs.length (bs.map cB)) (hn : 1 ≤ bs.length) : ∃ g c, v = .slice (some ⟨g, 0, none⟩) bs.length c := by
  rcases h.2 with ⟨_, h2⟩ | ⟨g, c, _, h1, _⟩
  · omega
  · exact ⟨g, c, h1⟩
set_option maxRecDepth 100000 in
set_option maxHeartbeats 8000000 in
theorem told_any (a lo : Nat) (nd : List Nd) (w : World) (hT : Tr w lo a nd) :
    Calls Try.prog 11 #[.pointer (some ⟨a, 0, none⟩)] w fun e w' => e = .returned (.string (bts (told nd))) ∧ Below w.heap.size w w' := by
  obtain ⟨i5, hi5, hy0, hy1, hy2⟩ := info_parts info5
  have hwf := hT.wf
  have hfew := hT.few
  have hpos := hwf.pos
  have K35 := len_any a lo nd w hT
  have HSH := Lib.hid (fun (i : Int) (n : Nat) (hi : i = (n : Int)) (v : Value) (l : List UInt8) (W : World) (h1 : w.heap.size ≤ W.heap.size) (h2 : n < 2097152) (h3 : l.length ≤ 1000000000) (h4 : W.ownsRow w.heap.size 5 1 v l.length (l.map cB)) => by
    have := short_any w.heap.size n v l W h1 h2 h3 h4
    rw [← hi] at this
    exact this)
  obtain ⟨gn, cn, ca, hcn, hcc⟩ := hT.cells
  have HCC := Lib.hid hcc
  have HWF := Lib.hid hwf
  have HTL : Hid (sh (nd.length - 1) ++ tlS nd 0 (nd.length - 1) = told nd) := Lib.hid rfl
  have HLEN := Lib.hid (told_len hwf)
  obtain ⟨m, hm⟩ : ∃ m, nd.length = m + 1 := ⟨nd.length - 1, by omega⟩
  rw [hm] at K35 ca hcn hfew HTL
  rw [Nat.add_sub_cancel] at HTL
  rw [show ((m + 1 : Nat) : Int) = (m : Int) + 1 by omega] at K35
  have HM := Lib.hid hm
  have h0 : ¬ (m : Int) + 1 = 0 := by omega
  clear hT hcc hwf hpos hm
  go_enter Try.func11, Try.ntmps11
  go_wp2_with fail
  refine K35.mono ?_
  rintro e W1 ⟨rfl, hW1⟩
  subst hW1
  go_wp2_with fail
  refine (HSH.out _ m (by omega) (.slice none 0 0) [] w (Nat.le_refl _) (by omega) (by simp) (World.ownsRow_nil _ _ _ _)).mono ?_
  rintro e W1 ⟨v1, rfl, ho1, hO1, hb1⟩
  rw [List.nil_append] at ho1
  have hz1 := hb1.size
  have ca1 := cell_below ca hb1 (Nat.le_refl _)
  have hgl : gn < w.heap.size := by
    obtain ⟨q0, _, _⟩ := HCC.out 0 _ HWF.out.root
    exact World.block_lt_of_cell? w _ q0
  go_wp2_with fail
  · rename_i hc1
    have hm0 : m = 0 := by omega
    subst hm0
    obtain ⟨g, c, rfl⟩ := byte_row ho1 (sh_ne 0)
    have hcv := conv_row ho1
    have HBT : Hid (bts (sh 0) = bts (told nd)) := Lib.hid (by rw [← HTL.out, tlS_zero, List.append_nil])
    refine wp_loop_rounds 1 ?_
    rw [rounds_succ]
    go_wp2_with fail
    go_ret
    exact ⟨by rw [HBT.out]; rfl, hb1⟩
  go_loopw [3, 22] (fun vb t wr => ∃ (k : Nat) (bs : List UInt8), t = .int .i64 k ∧ k ≤ m ∧ bs.length ≤ 3 + 129 * k ∧ Hid (bs = sh m ++ tlS nd 0 k) ∧ wr.ownsRow w.heap.size 5 1 vb bs.length (bs.map cB) ∧ Below w.heap.size w wr) (fun _ t _ => m - (intOf t).toNat)
  case atStart => exact ⟨0, sh m, rfl, by omega, by have := sh_len m; omega, Lib.hid (by simp [tlS_zero]), ho1, hb1⟩
  case round =>
    obtain ⟨k, bs, rfl, hk, hbs, HB, ob, hb⟩ := hrel
    have hk0 : (0 : Int) ≤ (k : Int) := Int.natCast_nonneg _
    generalize hV : wr = V at *
    clear hV
    have hz := hb.size
    by_cases hlt : k < m
    · have hlt' : (k : Int) < (m : Int) := by omega
      obtain ⟨x, hx⟩ : ∃ x, nd[k + 1]? = some x := ⟨_, List.getElem?_eq_getElem (by rw [HM.out]; omega)⟩
      obtain ⟨d0w, d1w, d2w⟩ := HCC.out (k + 1) x hx
      rw [show (k + 1) * 3 = 3 + k * 3 by omega] at d0w d1w d2w
      have d0 := cell_below d0w hb (Nat.le_refl _)
      have d1 := cell_below d1w hb (Nat.le_refl _)
      have d2 := cell_below d2w hb (Nat.le_refl _)
      have hup := HWF.out.up (k + 1) x (by omega) hx
      obtain ⟨m1, m2, m3, m4⟩ := may_bounds (HWF.out.good (k + 1) x (by omega) hx)
      have HTN : Hid (sh m ++ tlS nd 0 (k + 1) = bs ++ sh (k + 1 - x.1) ++ sh x.2.1.size ++ x.2.1.data.toList ++ sh x.2.2.toNat) := Lib.hid (by
        rw [tlS_snoc, Nat.zero_add, tlJ_at hx, HB.out, tlP]
        simp only [List.append_assoc])
      clear d0w d1w d2w hx
      obtain ⟨par, nm, ln⟩ := x
      simp only at d0 d1 d2 hup m1 m2 m3 m4 HTN
      go_wp2_with fail
      have hbx := World.alloc_heap_new V (.cells #[.int .i64 (par : Int), .string nm, .int .i64 ln] 47)
      have ob1 := ob.alloc (.cells #[.int .i64 (par : Int), .string nm, .int .i64 ln] 47)
      have bV := hb.alloc hz (.cells #[.int .i64 (par : Int), .string nm, .int .i64 ln] 47)
      obtain ⟨R1, hR1⟩ : ∃ R, bs ++ sh (k + 1 - par) = R := ⟨_, rfl⟩
      have l1 : R1.length ≤ bs.length + 3 := by rw [← hR1, List.length_append]; have := sh_len (k + 1 - par); omega
      obtain ⟨R2, hR2⟩ : ∃ R, R1 ++ sh nm.size = R := ⟨_, rfl⟩
      have l2 : R2.length ≤ R1.length + 3 := by rw [← hR2, List.length_append]; have := sh_len nm.size; omega
      obtain ⟨R3, hR3⟩ : ∃ R, R2 ++ nm.data.toList = R := ⟨_, rfl⟩
      have l3 : R3.length = R2.length + nm.size := by rw [← hR3, List.length_append]; simp
      obtain ⟨R4, hR4⟩ : ∃ R, R3 ++ sh ln.toNat = R := ⟨_, rfl⟩
      have l4 : R4.length ≤ R3.length + 3 := by rw [← hR4, List.length_append]; have := sh_len ln.toNat; omega
      have HT4 : Hid (R4 = sh m ++ tlS nd 0 (k + 1)) := Lib.hid (by rw [HTN.out, hR1, hR2, hR3, hR4])
      have H1 := Lib.hid hR1
      have H2 := Lib.hid hR2
      have H3 := Lib.hid hR3
      have H4 := Lib.hid hR4
      clear hR1 hR2 hR3 hR4 d0 d1 d2 HTN
      generalize V.alloc (.cells #[.int .i64 (par : Int), .string nm, .int .i64 ln] 47) = V1 at *
      generalize V.heap.size = bx at *
      have hzV := bV.size
      refine (HSH.out _ (k + 1 - par) (by omega) u3 bs V1 (by omega) (by omega) (by omega) ob1).mono ?_
      rintro e W2 ⟨v2, rfl, ho2, hO2, hb2⟩
      rw [H1.out] at ho2
      have bx2 := onlyB_cell hbx hO2 (by decide)
      have bV2 := bV.trans hb2
      have hz2 := bV2.size
      obtain ⟨_, c1, c2⟩ := box3 bx2
      clear ob ob1 hbx hO2 hb2
      go_wp2_with fail
      refine (HSH.out _ nm.size rfl v2 R1 W2 (by omega) (by omega) (by omega) ho2).mono ?_
      rintro e W3 ⟨v3, rfl, ho3, hO3, hb3⟩
      rw [H2.out] at ho3
      have bx3 := onlyB_cell bx2 hO3 (by decide)
      have bV3 := bV2.trans hb3
      have hz3 := bV3.size
      clear c1 c2
      obtain ⟨_, c1, c2⟩ := box3 bx3
      clear bx2 ho2 hO3 hb3
      go_wp2_with (at_builtin; refine Lib.wpList_append_own_string W3 rfl _ _ 38 9 rfl w.heap.size 5 i5 Try.underlying38 Try.underlying9 hi5 hy0 hy1 hy2 v3 R2.length (R2.map cB) rfl ho3 nm rfl (by unfold maxLen; omega) (by omega) (by omega) ?_; intro v4 W4 ho4 hgrow4 _; obtain ⟨_, e1, e2⟩ := box3 (onlyB_cell bx3 (OnlyB.of_grown hgrow4 ho3) (by decide)))
      have hO4 := OnlyB.of_grown hgrow4 ho3
      have bx4 := onlyB_cell bx3 hO4 (by decide)
      have bV4 := Below.grown bV3 hgrow4 hz3 (fun j hj => (ho3.lt j hj).1)
      have hz4 := bV4.size
      have ho4' : W4.ownsRow w.heap.size 5 1 v4 R3.length (R3.map cB) := by rw [l3, ← H3.out, List.map_append]; exact ho4
      clear c1 c2 bx3 ho3 ho4 hgrow4 hO4
      refine (HSH.out ln ln.toNat (by omega) v4 R3 W4 (by omega) (by omega) (by omega) ho4').mono ?_
      rintro e W5 ⟨v5, rfl, ho5, hO5, hb5⟩
      rw [H4.out] at ho5
      go_wp2_with fail
      go_roundw
      case rel => exact ⟨k + 1, R4, by go_num, by omega, by omega, HT4, ho5, bV4.trans hb5⟩
      case measure => simp [intOf]; omega
    · have hlt' : ¬ (k : Int) < (m : Int) := by omega
      have hkm : k = m := by omega
      subst hkm
      have hb1 : 1 ≤ bs.length := by rw [HB.out, List.length_append]; have := sh_ne k; omega
      obtain ⟨g, c, rfl⟩ := byte_row ob hb1
      have hcv := conv_row ob
      have HBT : Hid (bts bs = bts (told nd)) := Lib.hid (by rw [HB.out, HTL.out])
      go_wp2_with fail
      go_ret
      exact ⟨by rw [HBT.out]; rfl, hb⟩
end Go.Proofs.Ytfhnhilnjcfpkaa
namespace Go.Proofs.Ytfhnhilnjcfpkaa
open Go.ChangeShapes Go.WideShapes Go.ChangeAt Go.RowKit Go.Shelf
set_option linter.unusedVariables false
/-- A reader that has the text s left. -/
def RdA (W : World) (r : Nat) (s : ByteArray) : Prop := W.heap[r]? = some (.cells #[.string s, .bool false] 58 (0, 0))
/-- Nothing but the reader has turned. -/
structure RdK (r : Nat) (w w' : World) : Prop where
  os : w'.os = w.os
  tape : w'.tape = w.tape
  output : w'.output = w.output
  size : w'.heap.size = w.heap.size
  block : ∀ k, k ≠ r → w'.heap[k]? = w.heap[k]?
theorem RdK.refl (r : Nat) (w : World) : RdK r w w := ⟨rfl, rfl, rfl, rfl, fun _ _ => rfl⟩
theorem RdK.trans {r : Nat} {a b c : World} (h : RdK r a b) (k : RdK r b c) : RdK r a c := ⟨k.os.trans h.os, k.tape.trans h.tape, k.output.trans h.output, k.size.trans h.size, fun i hi => (k.block i hi).trans (h.block i hi)⟩
theorem RdK.below {r B : Nat} {w w' : World} (h : RdK r w w') (hr : B ≤ r) : Below B w w' := ⟨h.os, h.tape, h.output, Nat.le_of_eq h.size.symm, fun k hk => h.block k (by omega)⟩
theorem RdA.cells {W : World} {r : Nat} {s : ByteArray} (h : RdA W r s) : W.cell? ⟨r, 0, none⟩ = some (.string s) ∧ W.cell? ⟨r, 1, none⟩ = some (.bool false) ∧ W.frozen? ⟨r, 0, none⟩ = false ∧ W.frozen? ⟨r, 1, none⟩ = false := by
  unfold RdA at h
  exact ⟨Go.Joins.cell_of_block h 0, Go.Joins.cell_of_block h 1, by simp [World.frozen?, h], by simp [World.frozen?, h]⟩
theorem size_setCell (w : World) (a : Addr) (u : Value) : (w.setCell a u).heap.size = w.heap.size := by
  unfold World.setCell
  split <;> simp

theorem RdK.set (r : Nat) (w : World) (j : Nat) (u : Value) : RdK r w (w.setCell ⟨r, j, none⟩ u) := by
  have hb := (Below.refl 0 w).setCell (p := ⟨r, j, none⟩) (Nat.zero_le _) u
  exact ⟨hb.os, hb.tape, hb.output, size_setCell w _ u, fun k hk => Below.heap_setCell w _ u k hk⟩
theorem RdA.set {w : World} {r : Nat} {s : ByteArray} (h : RdA w r s) (s' : ByteArray) : RdA (w.setCell ⟨r, 0, none⟩ (.string s')) r s' := Go.Joins.block_setCell (i := 0) h (.string s')
set_option maxRecDepth 100000 in
set_option maxHeartbeats 4000000 in
theorem take_any (r n : Nat) (s : ByteArray) (w : World) (h : RdA w r s) (hn : n ≤ s.size) :
    Calls Try.prog 21 #[.pointer (some ⟨r, 0, none⟩), .int .i64 n] w fun e w' => e = .returned (.string (bts (s.data.toList.take n))) ∧ RdA w' r (bts (s.data.toList.drop n)) ∧ RdK r w w' := by
  obtain ⟨c0, c1, f0, f1⟩ := h.cells
  have hn0 : (0 : Int) ≤ (n : Int) := by omega
  have hn1 : ¬ ((s.size : Int) < (n : Int)) := by omega
  have HP := Lib.hid (extract_bts s n)
  have HD := Lib.hid (ext_end s n)
  have HR := Lib.hid h
  clear h
  go_enter Try.func21, Try.ntmps21
  go_wp2_with fail
  go_ret
  refine ⟨by rw [← HP.out]; rfl, ?_, RdK.set r w 0 _⟩
  rw [← HD.out]
  exact HR.out.set _

theorem and127 : ∀ b : Fin 256, bits .and .u8 (b.val : Int) 127 = ((b.val % 128 : Nat) : Int) := by decide +kernel
theorem wraps_i64 (n : Int) (h₀ : 0 ≤ n) (h₁ : n < 2 ^ 62) : IntKind.i64.wrap n = n := by rw [IntKind.wrap_i64]; omega
theorem or_low {a d i : Nat} (ha : a < 2 ^ i) (hi : i ≤ 14) (hd : d < 128) : bits .or .i64 (a : Int) ((d * 2 ^ i : Nat) : Int) = ((a + d * 2 ^ i : Nat) : Int) := by
  have h14 : (2 : Nat) ^ i ≤ 2 ^ 14 := Nat.pow_le_pow_right (by decide) hi
  have hx : d * 2 ^ i < 2 ^ 62 := by
    have := Nat.mul_le_mul (Nat.le_of_lt hd) h14
    have h : (128 : Nat) * 2 ^ 14 < 2 ^ 62 := by decide
    omega
  have ha2 : a < 2 ^ 62 := by
    have h : (2 : Nat) ^ 14 < 2 ^ 62 := by decide
    omega
  rw [(bits_nat .i64 62 (by decide) wraps_i64 a _ ha2 hx).2, Nat.or_comm, Nat.mul_comm, ← Nat.two_pow_add_eq_or_of_lt ha, Nat.add_comm]

set_option maxRecDepth 100000 in
set_option maxHeartbeats 8000000 in
theorem rshort_any (r n : Nat) (s : ByteArray) (more : List UInt8) (w : World) (h : RdA w r s) (hn : n < 2097152) (hs : s.data.toList = sh n ++ more) :
    Calls Try.prog 20 #[.pointer (some ⟨r, 0, none⟩)] w fun e w' => e = .returned (.int .i64 n) ∧ RdA w' r (bts more) ∧ RdK r w w' := by
  have HT := Lib.hid (fun (s' : ByteArray) (W : World) (h' : RdA W r s') (h1 : 1 ≤ s'.size) => take_any r 1 s' W h' h1)
  have HS := Lib.hid hs
  have HR := Lib.hid h
  clear h hs
  go_enter Try.func20, Try.ntmps20
  go_wp2_with fail
  go_loopw [3, 6] (fun t3 t6 wr => ∃ (i acc rem : Nat) (s' : ByteArray), t6 = .int .i64 i ∧ t3 = .int .i64 acc ∧ rem < 2097152 ∧ ((i = 0 ∧ acc = 0 ∧ rem = n) ∨ (i = 1 ∧ acc = n % 128 ∧ rem = n / 128) ∨ (i = 2 ∧ acc = n % 16384 ∧ rem = n / 16384)) ∧ Hid (RdA wr r s' ∧ s'.data.toList = sh rem ++ more ∧ RdK r w wr)) (fun _ t _ => 3 - (intOf t).toNat)
  case atStart => exact ⟨0, 0, n, s, rfl, rfl, hn, .inl ⟨rfl, rfl, rfl⟩, Lib.hid ⟨HR.out, HS.out, RdK.refl _ _⟩⟩
  case round =>
    obtain ⟨i, acc, rem, s', rfl, rfl, hrem, hcs, HW⟩ := hrel
    obtain ⟨hA, hsl, hK⟩ := HW.out
    have hln : s'.data.toList.length = s'.size := by simp
    obtain ⟨c, tl, hsl', hcd, hcase⟩ : ∃ (c : UInt8) (tl : List UInt8), s'.data.toList = c :: tl ∧ c.toNat % 128 = rem % 128 ∧ ((rem < 128 ∧ c.toNat < 128 ∧ tl = more) ∨ (128 ≤ rem ∧ 128 ≤ c.toNat ∧ tl = sh (rem / 128) ++ more)) := by
      by_cases hlt : 128 ≤ rem
      · refine ⟨UInt8.ofNat (rem % 128 + 128), _, by rw [hsl, sh_step hlt hrem]; rfl, ?_, .inr ⟨hlt, ?_, rfl⟩⟩ <;> rw [UInt8.toNat_ofNat'] <;> omega
      · refine ⟨UInt8.ofNat rem, _, by rw [hsl, sh_small (by omega)]; rfl, ?_, .inl ⟨by omega, ?_, rfl⟩⟩ <;> rw [UInt8.toNat_ofNat'] <;> omega
    have h1 : 1 ≤ s'.size := by rw [← hln, hsl']; simp
    have h14 := HT.out s' wr hA h1
    rw [show s'.data.toList.take 1 = [c] by rw [hsl']; rfl, show s'.data.toList.drop 1 = tl by rw [hsl']; rfl] at h14
    obtain ⟨S, hS⟩ : ∃ S, bts [c] = S := ⟨_, rfl⟩
    have hS0 : 0 < S.size := by rw [← hS, bts_size]; simp
    have hSI : (0 : Int) < (S.size : Int) := by omega
    have hSc : S[0]'hS0 = c := by subst hS; rfl
    rw [hS] at h14
    obtain ⟨d, hd⟩ : ∃ d, rem % 128 = d := ⟨_, rfl⟩
    have hd1 : d < 128 := by omega
    have hand : bits .and .u8 (c.toNat : Int) 127 = (d : Int) := by
      have := and127 ⟨c.toNat, c.toNat_lt⟩
      simp only at this
      rw [this, hcd, hd]
    have H14 := Lib.hid h14
    have HCS := Lib.hid hcs
    have HD := Lib.hid hd
    have hi3 : i = 0 ∨ i = 1 ∨ i = 2 := by omega
    clear h14 hS hsl hsl' hcd hln hd h1 hA HS
    rcases hi3 with rfl | rfl | rfl
    · obtain ⟨acc', hacc⟩ : ∃ x, acc + d * 1 = x := ⟨_, rfl⟩
      have hor : bits .or .i64 (acc : Int) (d : Int) = (acc' : Int) := by
        have := or_low (a := acc) (d := d) (i := 0) (by omega) (by decide) hd1
        rw [← hacc]
        simpa using this
      have HA := Lib.hid hacc
      clear hacc hcs
      rcases hcase with ⟨hr1, hr2, htl⟩ | ⟨hr1, hr2, htl⟩
      · have hlt' : (c.toNat : Int) < 128 := by omega
        go_wp2_with fail
        refine H14.out.mono ?_
        rintro e W ⟨rfl, hA2, hK2⟩
        obtain ⟨e0, e1, _⟩ := hA2.cells
        have HA2 := Lib.hid hA2
        clear hA2
        go_wp2_with fail
        go_ret
        have x1 := HCS.out
        have x2 := HD.out
        have x3 := HA.out
        exact ⟨by rw [show (n : Int) = (acc' : Int) by omega]; rfl, htl ▸ HA2.out, HW.out.2.2.trans hK2⟩
      · have hlt' : ¬ (c.toNat : Int) < 128 := by omega
        go_wp2_with fail
        refine H14.out.mono ?_
        rintro e W ⟨rfl, hA2, hK2⟩
        obtain ⟨e0, e1, _⟩ := hA2.cells
        have HA2 := Lib.hid hA2
        clear hA2
        go_wp2_with fail
        have x1 := HCS.out
        have x2 := HD.out
        have x3 := HA.out
        go_roundw
        case rel => exact ⟨1, acc', rem / 128, bts tl, rfl, rfl, by omega, by omega, Lib.hid ⟨HA2.out, by rw [bts_list, htl], HW.out.2.2.trans hK2⟩⟩
        case measure => simp [intOf]
    · obtain ⟨acc', hacc⟩ : ∃ x, acc + d * 128 = x := ⟨_, rfl⟩
      have hor : bits .or .i64 (acc : Int) ((d : Int) * 128) = (acc' : Int) := by
        have := or_low (a := acc) (d := d) (i := 7) (by omega) (by decide) hd1
        rw [← hacc]
        simpa using this
      have HA := Lib.hid hacc
      clear hacc hcs
      rcases hcase with ⟨hr1, hr2, htl⟩ | ⟨hr1, hr2, htl⟩
      · have hlt' : (c.toNat : Int) < 128 := by omega
        go_wp2_with fail
        refine H14.out.mono ?_
        rintro e W ⟨rfl, hA2, hK2⟩
        obtain ⟨e0, e1, _⟩ := hA2.cells
        have HA2 := Lib.hid hA2
        clear hA2
        go_wp2_with fail
        go_ret
        have x1 := HCS.out
        have x2 := HD.out
        have x3 := HA.out
        exact ⟨by rw [show (n : Int) = (acc' : Int) by omega]; rfl, htl ▸ HA2.out, HW.out.2.2.trans hK2⟩
      · have hlt' : ¬ (c.toNat : Int) < 128 := by omega
        go_wp2_with fail
        refine H14.out.mono ?_
        rintro e W ⟨rfl, hA2, hK2⟩
        obtain ⟨e0, e1, _⟩ := hA2.cells
        have HA2 := Lib.hid hA2
        clear hA2
        go_wp2_with fail
        have x1 := HCS.out
        have x2 := HD.out
        have x3 := HA.out
        go_roundw
        case rel => exact ⟨2, acc', rem / 128, bts tl, rfl, rfl, by omega, by omega, Lib.hid ⟨HA2.out, by rw [bts_list, htl], HW.out.2.2.trans hK2⟩⟩
        case measure => simp [intOf]
    · obtain ⟨acc', hacc⟩ : ∃ x, acc + d * 16384 = x := ⟨_, rfl⟩
      have hor : bits .or .i64 (acc : Int) ((d : Int) * 16384) = (acc' : Int) := by
        have := or_low (a := acc) (d := d) (i := 14) (by omega) (by decide) hd1
        rw [← hacc]
        simpa using this
      have HA := Lib.hid hacc
      clear hacc hcs
      rcases hcase with ⟨hr1, hr2, htl⟩ | ⟨hr1, hr2, htl⟩
      · have hlt' : (c.toNat : Int) < 128 := by omega
        go_wp2_with fail
        refine H14.out.mono ?_
        rintro e W ⟨rfl, hA2, hK2⟩
        obtain ⟨e0, e1, _⟩ := hA2.cells
        have HA2 := Lib.hid hA2
        clear hA2
        go_wp2_with fail
        go_ret
        have x1 := HCS.out
        have x2 := HD.out
        have x3 := HA.out
        exact ⟨by rw [show (n : Int) = (acc' : Int) by omega]; rfl, htl ▸ HA2.out, HW.out.2.2.trans hK2⟩
      · have x1 := HCS.out; omega
end Go.Proofs.Ytfhnhilnjcfpkaa
namespace Go.Proofs.Ytfhnhilnjcfpkaa
open Go.ChangeShapes Go.WideShapes Go.ChangeAt Go.RowKit Go.Shelf
set_option linter.unusedVariables false
theorem RdK.grown {r : Nat} {w w' : World} (h : RdK r w w') : w.grownBy w' (some r) := ⟨h.os, h.tape, h.output, Nat.le_of_eq h.size.symm, fun j _ hne => h.block j (fun e => hne (by rw [e]))⟩
theorem Tr.rd {W W' : World} {lo a r : Nat} {nd : List Nd} (h : Tr W lo a nd) (hk : RdK r W W') (hr : r < lo) : Tr W' lo a nd := by
  obtain ⟨h1, h2, ⟨gn, cn, bm, D, x1, x2, x3, x4, x5⟩, h3⟩ := h
  have hg : lo ≤ gn := (x2.lt gn rfl).1
  exact ⟨h1, h2, ⟨gn, cn, bm, D, by rw [hk.block a (by omega)]; exact x1, x2.kept hk.grown (.inr (by simp [Value.ownBlock]; omega)), x3.kept hk.grown (by simp; omega), x4, x5⟩, h3⟩
theorem wf_take {nd : List Nd} (h : Wf nd) (k : Nat) (hk : 1 ≤ k) : Wf (nd.take k) := by
  have get : ∀ (i : Nat) (x : Nd), (nd.take k)[i]? = some x → nd[i]? = some x := fun i x hx => by
    rw [List.getElem?_take] at hx
    split at hx
    · exact hx
    · cases hx
  refine ⟨by rw [List.length_take]; have := h.pos; omega, ?_, fun i x h1 hx => h.up i x h1 (get i x hx), fun i x h1 hx => h.good i x h1 (get i x hx), fun i j x h1 h2 hx hy => h.one i j x h1 h2 (get i x hx) (get j x hy)⟩
  rw [List.getElem?_take, if_pos (by omega)]
  exact h.root
theorem stk_take {nd : List Nd} (h : Wf nd) (k n : Nat) (hk : 1 ≤ k) (hn : n < k) (hn2 : n < nd.length) : stk (nd.take k) n = stk nd n := by
  have e : nd = nd.take k ++ nd.drop k := (List.take_append_drop k nd).symm
  have := stk_ext (wf_take h k hk) (nd.drop k) (by rw [← e]; exact h) n (by rw [List.length_take]; omega)
  rw [← e] at this
  exact this.symm
theorem ins_take {nd : List Nd} (h : Wf nd) {k : Nat} {x : Nd} (hx : nd[k + 1]? = some x) : insN (nd.take (k + 1)) x.1 x.2 = (k + 1, nd.take (k + 2)) := by
  have hl := (List.getElem?_eq_some_iff.1 hx).1
  unfold insN
  cases hs : seekN (nd.take (k + 1)) (x.1, x.2) with
  | some i =>
    obtain ⟨s1, s2, s3⟩ := seek_some hs
    rw [List.length_take] at s3
    rw [List.getElem?_take, if_pos (by omega)] at s2
    have := h.one i (k + 1) x s1 (by omega) s2 hx
    omega
  | none =>
    simp only
    have hx' : nd[k + 1] = x := by
      rw [List.getElem?_eq_getElem hl] at hx
      exact Option.some.inj hx
    rw [List.length_take, Nat.min_eq_left (by omega), List.take_succ_eq_append_getElem hl, hx']

theorem take_front (r n : Nat) (l more : List UInt8) (w : World) (h : RdA w r (bts (l ++ more))) (hn : n = l.length) :
    Calls Try.prog 21 #[.pointer (some ⟨r, 0, none⟩), .int .i64 n] w fun e w' => e = .returned (.string (bts l)) ∧ RdA w' r (bts more) ∧ RdK r w w' := by
  have := take_any r n _ w h (by rw [bts_size, List.length_append]; omega)
  rw [bts_list, List.take_left' hn.symm, List.drop_left' hn.symm] at this
  exact this
set_option maxRecDepth 100000 in
set_option maxHeartbeats 8000000 in
theorem from_any (nd : List Nd) (s : ByteArray) (w : World) (hwf : Wf nd) (hfew : nd.length ≤ 4096) (hdeep : ∀ n, n < nd.length → (stk nd n).length ≤ 64) (hs : s = bts (told nd)) :
    Calls Try.prog 14 #[.string s] w fun e w' => ∃ lo u, e = .returned (.tuple #[.pointer (some ⟨u, 0, none⟩), .int .i64 0]) ∧ w.heap.size ≤ lo ∧ lo ≤ w'.heap.size ∧ Tr w' lo u nd ∧ Below w.heap.size w w' := by
  have hpos := hwf.pos
  obtain ⟨m, hm⟩ : ∃ m, nd.length = m + 1 := ⟨nd.length - 1, by omega⟩
  have HSL : Hid (s.data.toList = sh m ++ tlS nd 0 m) := Lib.hid (by rw [hs, bts_list, told, hm]; rfl)
  have HSE : Hid (bts (told nd) = s) := Lib.hid hs.symm
  have HWF := Lib.hid hwf
  have HM := Lib.hid hm
  have HDP := Lib.hid hdeep
  rw [hm] at hfew
  clear hwf hs hm hdeep hpos
  go_enter Try.func14, Try.ntmps14
  go_wp2_with fail
  obtain ⟨r, hr⟩ : ∃ r, w.heap.size = r := ⟨_, rfl⟩
  have hA0 : RdA (w.alloc (.cells #[.string s, .bool false] 58)) r s := by rw [← hr]; exact World.alloc_heap_new w _
  have b0 : Below w.heap.size w (w.alloc (.cells #[.string s, .bool false] 58)) := (Below.refl _ w).alloc (Nat.le_refl _) _
  have hzA : (w.alloc (.cells #[.string s, .bool false] 58)).heap.size = r + 1 := by rw [← hr]; simp
  generalize w.alloc (.cells #[.string s, .bool false] 58) = WA at *
  rw [hr] at b0 ⊢
  have HR := Lib.hid hr
  clear hr
  refine (new_any WA).mono ?_
  rintro e W1 ⟨u, rfl, hT1, hb1⟩
  rw [hzA] at hT1 hb1
  have hA1 : RdA W1 r s := (hb1.block r (by omega)).trans hA0
  have b1 := b0.trans (hb1.mono (Nat.le_succ r))
  go_wp2_with fail
  refine (rshort_any r m s (tlS nd 0 m) W1 hA1 (by omega) HSL.out).mono ?_
  rintro e W2 ⟨rfl, hA2, hK2⟩
  have hT2 := hT1.rd hK2 (Nat.lt_succ_self r)
  have b2 := b1.trans (hK2.below (Nat.le_refl r))
  have hz2 : r + 1 ≤ W2.heap.size := by have := hb1.size; have := hK2.size; omega
  clear hA0 hA1 hT1 hK2 hb1 b1 b0
  go_wp2_with fail
  have hroot : rootN = nd.take (0 + 1) := by
    have h0 := HWF.out.root
    have hl := (List.getElem?_eq_some_iff.1 h0).1
    rw [List.getElem?_eq_getElem hl] at h0
    rw [List.take_succ_eq_append_getElem hl, Option.some.inj h0]
    rfl
  rw [hroot] at hT2
  go_loopw [6] (fun t wr => ∃ k : Nat, t = .int .i64 ((m : Int) - k) ∧ k ≤ m ∧ r + 1 ≤ wr.heap.size ∧ Hid (RdA wr r (bts (tlS nd k (m - k))) ∧ Tr wr (r + 1) u (nd.take (k + 1)) ∧ Below r w wr)) (fun t _ => (intOf t).toNat)
  case atStart => exact ⟨0, by simp, by omega, hz2, Lib.hid ⟨hA2, hT2, b2⟩⟩
  case round =>
    obtain ⟨k, rfl, hk, hzr, HW⟩ := hrel
    obtain ⟨hA, hT, hb⟩ := HW.out
    obtain ⟨_, cb, _⟩ := hA.cells
    generalize hV : wr = V at *
    clear hV
    by_cases hlt : k < m
    · have hlt' : (0 : Int) < (m : Int) - (k : Int) := by omega
      obtain ⟨x, hx⟩ : ∃ x, nd[k + 1]? = some x := ⟨_, List.getElem?_eq_getElem (by rw [HM.out]; omega)⟩
      have hup := HWF.out.up (k + 1) x (by omega) hx
      have hmay := HWF.out.good (k + 1) x (by omega) hx
      obtain ⟨m1, m2, m3, m4⟩ := may_bounds hmay
      have hins := ins_take HWF.out hx
      have hstk : (stk (nd.take (k + 1)) x.1).length < 64 := by
        rw [stk_take HWF.out (k + 1) x.1 (by omega) hup (by rw [HM.out]; omega)]
        have h1 := HDP.out (k + 1) (by rw [HM.out]; omega)
        rw [stk_step HWF.out (by omega) hx, List.length_append] at h1
        simp at h1
        omega
      have htl : (nd.take (k + 1)).length = k + 1 := by rw [List.length_take, HM.out]; omega
      obtain ⟨L4, hL4⟩ : ∃ L, tlS nd (k + 1) (m - (k + 1)) = L := ⟨_, rfl⟩
      have hrest : tlS nd k (m - k) = sh (k + 1 - x.1) ++ (sh x.2.1.size ++ (x.2.1.data.toList ++ (sh x.2.2.toNat ++ L4))) := by
        rw [show m - k = (m - (k + 1)) + 1 by omega, tlS_cons, tlJ_at hx, hL4, tlP]
        simp only [List.append_assoc]
      rw [hrest] at hA
      have HL4 := Lib.hid hL4
      clear hrest hL4 hx
      obtain ⟨par, nm, ln⟩ := x
      simp only at hup hmay m1 m2 m3 m4 hins hstk hA
      obtain ⟨c, rfl⟩ : ∃ c : Nat, ln = (c : Int) := ⟨ln.toNat, by omega⟩
      rw [Int.toNat_natCast] at hA
      obtain ⟨q, hq⟩ : ∃ q, k + 1 - par = q := ⟨_, rfl⟩
      rw [hq] at hA
      have hq2 : ((k : Int) + 1 - (q : Int)) = (par : Int) := by omega
      have K64 := Lib.hid (fun (i : Int) (hi : i = (par : Int)) (W : World) (hTW : Tr W (r + 1) u (nd.take (k + 1))) (h1 : r + 1 ≤ W.heap.size) => by
        have := push_any u (r + 1) par (nd.take (k + 1)) (nm, (c : Int)) W hTW (by rw [htl]; omega) hmay hstk (by rw [htl]; omega) h1
        rw [hins, ← hi] at this
        exact this)
      have h35 := len_any u (r + 1) (nd.take (k + 1)) V hT
      rw [htl] at h35
      clear hins hstk htl hmay
      go_wp2_with fail
      refine h35.mono ?_
      rintro e Wq ⟨rfl, hWq⟩
      subst hWq
      go_wp2_with fail
      refine (rshort_any r q _ _ V hA (by omega) (bts_list _)).mono ?_
      rintro e W3 ⟨rfl, hA3, hK3⟩
      have hT3 := hT.rd hK3 (Nat.lt_succ_self r)
      have b3 := hb.trans (hK3.below (Nat.le_refl r))
      have z3 : r + 1 ≤ W3.heap.size := by rw [hK3.size]; exact hzr
      clear hA hT hb hK3 cb h35
      go_wp2_with fail
      refine (rshort_any r nm.size _ _ W3 hA3 (by omega) (bts_list _)).mono ?_
      rintro e W4 ⟨rfl, hA4, hK4⟩
      have hT4 := hT3.rd hK4 (Nat.lt_succ_self r)
      have b4 := b3.trans (hK4.below (Nat.le_refl r))
      have z4 : r + 1 ≤ W4.heap.size := by rw [hK4.size]; exact z3
      clear hA3 hT3 b3 hK4
      go_wp2_with fail
      refine (take_front r nm.size nm.data.toList _ W4 hA4 (by simp)).mono ?_
      rintro e W5 ⟨rfl, hA5, hK5⟩
      rw [bts_back]
      have hT5 := hT4.rd hK5 (Nat.lt_succ_self r)
      have b5 := b4.trans (hK5.below (Nat.le_refl r))
      have z5 : r + 1 ≤ W5.heap.size := by rw [hK5.size]; exact z4
      clear hA4 hT4 b4 hK5
      go_wp2_with fail
      refine (rshort_any r c _ _ W5 hA5 (by omega) (bts_list _)).mono ?_
      rintro e W6 ⟨rfl, hA6, hK6⟩
      have hT6 := hT5.rd hK6 (Nat.lt_succ_self r)
      have b6 := b5.trans (hK6.below (Nat.le_refl r))
      have z6 : r + 1 ≤ W6.heap.size := by rw [hK6.size]; exact z5
      clear hA5 hT5 b5 hK6
      go_wp2_with fail
      refine (K64.out _ (by omega) W6 hT6 z6).mono ?_
      rintro e W7 ⟨rfl, hT7, _, hb7⟩
      have hA7 : RdA W7 r _ := (hb7.block r (Nat.lt_succ_self r)).trans hA6
      have b7 := b6.trans (hb7.mono (Nat.le_succ r))
      have z7 : r + 1 ≤ W7.heap.size := Nat.le_trans z6 hb7.size
      rw [← HL4.out] at hA7
      clear hA6 hT6 b6 hb7 K64
      simp only
      go_wp2_with fail
      go_roundw
      case rel => exact ⟨k + 1, by go_num, by omega, z7, Lib.hid ⟨hA7, hT7, b7⟩⟩
      case measure => simp [intOf]; omega
    · have hlt' : ¬ (0 : Int) < (m : Int) - (k : Int) := by omega
      have hkm : k = m := by omega
      subst hkm
      have htk : nd.take (k + 1) = nd := List.take_of_length_le (Nat.le_of_eq HM.out)
      rw [htk] at hT
      go_wp2_with fail
      refine (told_any u (r + 1) nd V hT).mono ?_
      rintro e W9 ⟨rfl, hb9⟩
      have hT9 := hT.below hb9
      have z9 := hb9.size
      rw [HSE.out]
      go_wp2_with fail
      go_ret2
      exact ⟨r + 1, u, rfl, by rw [HR.out]; omega, by omega, hT9, by rw [HR.out]; exact hb.trans (hb9.mono (by omega))⟩
end Go.Proofs.Ytfhnhilnjcfpkaa
namespace Go.Proofs.Ytfhnhilnjcfpkaa
open Go.ChangeShapes Go.WideShapes Go.ChangeAt Go.RowKit Go.Shelf
set_option linter.unusedVariables false
/-- No stack has more than 64 places. -/
def Dp (nd : List Nd) : Prop := ∀ n, n < nd.length → (stk nd n).length ≤ 64
theorem dp_root : Dp rootN := fun n hn => by
  have : n = 0 := by simp [rootN] at hn; omega
  subst this
  rw [stk_zero]
  simp
theorem ins_dp {nd : List Nd} {n : Nat} {p : Pl} (h : Wf nd) (hd : Dp nd) (hn : n < nd.length) (hm : may p = true) (h6 : (stk nd n).length < 64) : Dp (insN nd n p).2 := by
  obtain ⟨a1, a2, ⟨e, a3⟩, a4, a5⟩ := insN_ok h hn hm
  intro k hk
  by_cases hkl : k < nd.length
  · rw [a3] at a1 ⊢
    rw [stk_ext h e a1 k hkl]
    exact hd k hkl
  · have h1 : k = nd.length := by omega
    have h2 : (insN nd n p).2.length = nd.length + 1 := by omega
    have h3 : (insN nd n p).1 = k := by
      unfold insN at h2 ⊢
      cases hs : seekN nd (n, p) with
      | some i => rw [hs] at h2; simp at h2
      | none => simp [h1]
    rw [← h3, a5, List.length_append]
    simp
    omega
theorem add_dp : ∀ (l : List Pl) (nd : List Nd) (n : Nat), Wf nd → Dp nd → n < nd.length → (∀ p ∈ l, may p = true) → (stk nd n).length + l.length ≤ 64 → Dp (addN nd n l).2 := by
  intro l
  induction l with
  | nil => intro nd n _ hd _ _ _; exact hd
  | cons p l ih =>
    intro nd n h hd hn hm h6
    obtain ⟨a1, a2, _, _, a5⟩ := insN_ok h hn (hm p (by simp))
    simp only [List.length_cons] at h6
    exact ih _ _ a1 (ins_dp h hd hn (hm p (by simp)) (by omega)) a2 (fun q hq => hm q (by simp [hq])) (by rw [a5, List.length_append]; simp; omega)
end Go.Proofs.Ytfhnhilnjcfpkaa
