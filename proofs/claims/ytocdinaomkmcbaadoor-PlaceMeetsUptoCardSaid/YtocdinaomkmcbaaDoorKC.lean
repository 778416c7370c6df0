/-
  The law on trees, walked.
-/
import Derived.Test.YtocdinaomkmcbaaDoorKB
import Derived.Test.YtocdinaomkmcbaaDoorV
import Derived.Test.YtocdinaomkmcbaaDoorW
namespace Go.Proofs.YtocdinaomkmcbaaDoor
open Go.ChangeShapes Go.WideShapes Go.ChangeAt Go.RowKit Go.Shelf
set_option linter.unusedVariables false

theorem own_form_capK {w : World} {base : Nat} {e : TypeId} {v : Value} {l : List Pl} (h : w.ownsRow base e 2 v l.length (flat l)) : ∃ A cap, v = .slice A l.length cap ∧ At w A l ∧ l.length ≤ cap := by
  obtain ⟨A, cap, rfl, ha, _⟩ := own_form h
  refine ⟨A, cap, rfl, ha, ?_⟩
  rcases h.2 with ⟨h', h0⟩ | ⟨g, cap', cur, h', _, _, h1, _⟩
  · rw [h0]; omega
  · simp only [Value.slice.injEq] at h'
    omega
theorem head23 (A : Option Addr) (n cc ci : Nat) (h1 : cc ≤ ci) (W : World) : (Instr.slice 23 (.slice A n ci) none (some (.int .i64 (cc : Int))) none).run Tryd.prog W = .ok (.slice A cc ci) W := by
  simp [go_sem, h1]
theorem at_take {W : World} {A : Option Addr} {l : List Pl} (h : At W A l) (n : Nat) : At W A (l.take n) := fun i p hp => by
  rw [List.getElem?_take] at hp
  split at hp
  · exact h i p hp
  · cases hp
theorem row_at {W : World} {B e n : Nat} {v : Value} {xs : List Value} (h : W.ownsRow B e 1 v n xs) (hn : 0 < n) : ∃ g c, v = .slice (some ⟨g, 0, none⟩) n c ∧ ∀ i u, xs[i]? = some u → W.cell? ⟨g, i, none⟩ = some u := by
  rcases h.2 with ⟨_, h2⟩ | ⟨g, cap, cur, h1, _⟩
  · omega
  · refine ⟨g, cap, h1, fun i u hu => ?_⟩
    have := h.cells (g := g) (by rw [h1]; rfl) i u hu
    rw [Addr.add_lit, Nat.zero_add] at this
    exact this
set_option maxRecDepth 100000 in
set_option maxHeartbeats 16000000 in
theorem meets_any (A : Option Addr) (c : Nat) (lists : List (List Pl)) (w : World) (hA : AtL w A lists) (hE : Env w) (h3 : 3 ≤ w.heap.size) :
    Calls Tryd.prog 9 #[.slice A lists.length c] w fun e w' => e = .returned (.bool true) ∧ Below w.heap.size w w' := by
  obtain ⟨i48, hi0, hz0, hz1, hz2⟩ := info_parts info48
  obtain ⟨i23, hj0, hy0, hy1, hy2⟩ := info_parts info23
  obtain ⟨i3, hk0, hx0, hx1, hx2⟩ := info_parts info3
  have HA := Lib.hid hA
  have K23 := Lib.hid (fun (W : World) (h1 : Below w.heap.size w W) => alive_any W (hE.below h1 (Nat.le_refl _)) (Nat.le_trans h3 h1.size))
  clear hA hE
  go_enter Tryd.func9, Tryd.ntmps9
  go_wp2_with fail
  refine (new_any w).mono ?_
  rintro e W1 ⟨a, rfl, hT1, hb1⟩
  go_wp2_with fail
  go_loopw [4, 5, 6] (fun v4 v5 t6 wr => ∃ (k : Nat) (nd : List Nd) (vs : List Value) (ns : List Nat), t6 = .int .i64 k ∧ k ≤ lists.length ∧ k ≤ 20 ∧ Below w.heap.size w wr ∧ Hid (LI wr w.heap.size a ((lists.take k).map fitL) nd v4 v5 vs ns ∧ nd.length ≤ 1 + 128 * k)) (fun _ _ t _ => 20 - (intOf t).toNat)
  case atStart =>
    exact ⟨0, rootN, [], [], rfl, by omega, by omega, hb1, Lib.hid ⟨⟨hT1, dp_root, World.ownsRow_nil _ _ _ _, World.ownsRow_nil _ _ _ _, rfl, rfl, fun i l hl => by simp at hl⟩, by simp [rootN]⟩⟩
  case round =>
    obtain ⟨k, nd, vs, ns, rfl, hk, hk20, hb, HL⟩ := hrel
    have kk0 : (0 : Int) ≤ (k : Int) := Int.natCast_nonneg _
    generalize hV : wr = V at *
    clear hV
    have hz := hb.size
    by_cases hlt : k < lists.length ∧ k < 20
    · obtain ⟨hlt, hlt2⟩ := hlt
      have hlt' : (k : Int) < (lists.length : Int) := by omega
      have hlt3 : (k : Int) < 20 := by omega
      obtain ⟨l0, hl0⟩ : ∃ x, lists[k]? = some x := ⟨_, List.getElem?_eq_getElem hlt⟩
      obtain ⟨g, o, Ai, ci, rfl, d0w, hAi, hn, hs⟩ := HA.out k l0 hl0
      have d0 := cell_below d0w hb (Nat.le_refl _)
      have K37 := Lib.hid (fit_any Ai ci l0 V (hAi.below hb (Nat.le_refl _)) hn hs)
      have hc := fitL_chk l0
      have HTK : Hid ((lists.take (k + 1)).map fitL = (lists.take k).map fitL ++ [fitL l0]) := Lib.hid (by
        rw [List.take_succ_eq_append_getElem hlt, List.map_append]
        rw [List.getElem?_eq_getElem hlt] at hl0
        rw [Option.some.inj hl0]
        rfl)
      clear d0w hAi hn hs hl0
      generalize fitL l0 = l at *
      go_wp2_with fail
      refine K37.out.mono ?_
      rintro e W2 ⟨v7, rfl, h7, hb2⟩
      have zz2 := hb2.size
      have hl64 := (chk_ok.1 hc).2
      have K40 := Lib.hid (fun (nd : List Nd) (v : Value) (B : Nat) (W : World) (hT : Tr W w.heap.size a nd) (hD : Dp nd) (hv : W.ownsRow B 48 2 v (0 + l.length) ([] ++ flat l)) (hl : nd.length ≤ 4032) (hlo : w.heap.size ≤ W.heap.size) =>
        show Calls Tryd.prog 40 #[.pointer (some ⟨a, 0, none⟩), v] W fun e w' => ∃ (n : Nat) (nd' : List Nd), e = .returned (.tuple #[.int .i64 (n : Int), .int .i64 0]) ∧ Tr w' w.heap.size a nd' ∧ Hid (Add1 nd l n nd') ∧ Only W w' ∧ Below w.heap.size W w' by
          rw [Nat.zero_add, List.nil_append] at hv
          refine (add_any a w.heap.size B nd v l W hT hv hc hl hlo).mono ?_
          rintro e w' ⟨h1, h2, h3, h4⟩
          exact ⟨_, _, h1, h2, Lib.hid (add1 hT.wf hD hc), h3, h4⟩)
      have HL2 := Lib.hid (And.intro (HL.out.1.below hb2) (own_base h7 hz))
      have hnd := HL.out.2
      have hb02 := hb.trans (hb2.mono hz)
      have zzw2 := hb02.size
      have HLK : Hid (((lists.take k).map fitL).length = k) := Lib.hid (by rw [List.length_map, List.length_take]; omega)
      obtain ⟨A7, c7, rfl, h07, _⟩ := row_src h7
      have HN2 : Hid (∀ ad, A7 = some ad → ∀ j u, (flat l)[j]? = some u → (W2.alloc (.cells #[] 48)).cell? (ad.add j) = some u) := Lib.hid (by
        obtain ⟨A', c', e', _, h'⟩ := row_src (h7.alloc (.cells #[] 48))
        simp only [Value.slice.injEq, true_and] at e'
        obtain ⟨rfl, rfl⟩ := e'
        exact h')
      have op0 : (W2.alloc (.cells #[] 48)).ownsRow W2.heap.size 48 2 (.slice (some ⟨W2.heap.size, 0, none⟩) 0 0) 0 [] := World.ownsRow_made W2 #[] 0 (Nat.le_refl _) (Nat.zero_le _) rfl
      clear h7 HL hb2
      generalize (lists.take k).map fitL = ls at *
      go_wp2_with (at_builtin; refine append_src rfl _ _ 23 rfl W2.heap.size 48 i48 _ 2 24 Tryd.underlying23 hi0 hz0 hz1 hz2 rfl (by decide) (.slice (some ⟨W2.heap.size, 0, none⟩) 0 0) 0 [] rfl op0 A7 l.length c7 (flat l) rfl (by rw [flat_length]) h07 HN2.out (flat_one l) (by unfold maxLen; omega) (by omega) (by simp) ?_; intro vA W3 hoA gA)
      have z3 := gA.size
      simp only [World.size_alloc] at z3
      have b23 : Below W2.heap.size W2 W3 := Below.grown ((Below.refl _ W2).alloc (Nat.le_refl _) _) gA (by simp) (fun j hj => by simp [Value.ownBlock] at hj; omega)
      have HL3 := Lib.hid (And.intro (HL2.out.1.below b23) (own_below HL2.out.2 b23))
      have b03 := hb02.trans (b23.mono zzw2)
      clear HL2 b23 op0 gA HN2
      refine (K40.out nd vA _ W3 HL3.out.1.tr HL3.out.1.dp hoA (by omega) (by omega)).mono ?_
      rintro e W4 ⟨n, nd1, rfl, hT4, HA1, hO4, b34⟩
      have z4 := b34.size
      have HL4 := Lib.hid (And.intro (HL3.out.1.only hO4 hT4 HA1.out.dp HA1.out.ext) (own_only HL3.out.2 hO4 (by decide) (by decide)))
      have few1 := HA1.out.few
      have b04 := b03.trans b34
      clear HL3 hO4 hT4 b34 hoA b03
      have HN4 : Hid (∀ ad, A7 = some ad → ∀ j u, (flat l)[j]? = some u → (W4.alloc (.cells #[] 48)).cell? (ad.add j) = some u) := Lib.hid (by
        obtain ⟨A', c', e', _, h'⟩ := row_src (HL4.out.2.alloc (.cells #[] 48))
        simp only [Value.slice.injEq, true_and] at e'
        obtain ⟨rfl, rfl⟩ := e'
        exact h')
      have op4 : (W4.alloc (.cells #[] 48)).ownsRow W4.heap.size 48 2 (.slice (some ⟨W4.heap.size, 0, none⟩) 0 0) 0 [] := World.ownsRow_made W4 #[] 0 (Nat.le_refl _) (Nat.zero_le _) rfl
      simp only
      go_wp2_with (at_builtin; refine append_src rfl _ _ 23 rfl W4.heap.size 48 i48 _ 2 24 Tryd.underlying23 hi0 hz0 hz1 hz2 rfl (by decide) (.slice (some ⟨W4.heap.size, 0, none⟩) 0 0) 0 [] rfl op4 A7 l.length c7 (flat l) rfl (by rw [flat_length]) h07 HN4.out (flat_one l) (by unfold maxLen; omega) (by omega) (by simp) ?_; intro vB W5 hoB gB)
      have z5 := gB.size
      simp only [World.size_alloc] at z5
      have b45 : Below W4.heap.size W4 W5 := Below.grown ((Below.refl _ W4).alloc (Nat.le_refl _) _) gB (by simp) (fun j hj => by simp [Value.ownBlock] at hj; omega)
      have HL5 := Lib.hid (And.intro (HL4.out.1.below b45) (own_below HL4.out.2 b45))
      have b05 := b04.trans (b45.mono b04.size)
      clear HL4 b45 op4 gB HN4
      refine (K40.out nd1 vB _ W5 HL5.out.1.tr HL5.out.1.dp hoB (by omega) (by omega)).mono ?_
      rintro e W6 ⟨n2, nd2, rfl, hT6, HA2, hO6, b56⟩
      have z6 := b56.size
      obtain ⟨rfl, hst, hnl⟩ := add_twice HA1.out HA2.out
      have HL6 := Lib.hid (And.intro (HL5.out.1.only hO6 hT6 HA2.out.dp HA2.out.ext) (own_only HL5.out.2 hO6 (by decide) (by decide)))
      have few2 := HA2.out.few
      have b06 := b05.trans b56
      have h41 := depth_any a w.heap.size n nd2 W6 hT6 hnl
      rw [hst] at h41
      have H41 := Lib.hid h41
      clear HL5 hO6 hT6 b56 hoB b05 h41 K40 HA1 HA2
      simp only
      go_wp2_with fail
      refine H41.out.mono ?_
      rintro e Wq ⟨rfl, hWq⟩
      subst hWq
      have r4 := HL6.out.1.r4
      have r5 := HL6.out.1.r5
      rw [HLK.out] at r4 r5
      go_wp2_with (first
        | (at_builtin; refine wpList_append_lies _ rfl _ _ 82 rfl w.heap.size 23 i23 _ 1 24 Tryd.underlying82 hj0 hy0 hy1 hy2 rfl (by omega) u4 k vs rfl (r4.alloc _) ⟨W6.heap.size, 0, none⟩ 1 1 [.slice A7 l.length c7] rfl rfl (World.news_of_block (cs := #[.slice A7 l.length c7]) (t := 23) (fr := (0, 0)) (heap_alloc_new W6 _)) (by simp [Value.oneCell']) (by omega) (by unfold maxLen; omega) (by omega) (by simp; omega) (W6.heap.size + 1) (by simp) ?_; intro g4 c4 W7 ho7 hg7 hat7 hlt7; have zz7 := hg7.size; simp only [World.size_alloc] at zz7; have r57 := keep_other (r5.alloc (.cells #[.slice A7 l.length c7] 23)) (r4.alloc (.cells #[.slice A7 l.length c7] 23)) (by decide) hg7)
        | (at_builtin; refine wpList_append_lies _ rfl _ _ 83 rfl w.heap.size 3 i3 _ 1 8 Tryd.underlying83 hk0 hx0 hx1 hx2 rfl (by omega) u5 k (ns.map fun (n : Nat) => Value.int .i64 (n : Int)) rfl (r57.alloc _) ⟨W7.heap.size, 0, none⟩ 1 1 [.int .i64 (n : Int)] rfl rfl (World.news_of_block (cs := #[.int .i64 (n : Int)]) (t := 3) (fr := (0, 0)) (heap_alloc_new W7 _)) (by simp [Value.oneCell']) (by omega) (by unfold maxLen; omega) (by omega) (by simp; omega) (W7.heap.size + 1) (by simp) ?_; intro g5 c5 W8 ho8 hg8 hat8 hlt8))
      have zz8 := hg8.size
      simp only [World.size_alloc] at zz8
      have ba1 : Below W6.heap.size W6 (W6.alloc (.cells #[.slice A7 l.length c7] 23)) := (Below.refl _ W6).alloc (Nat.le_refl _) _
      have ba2 : Below W7.heap.size W7 (W7.alloc (.cells #[.int .i64 (n : Int)] 3)) := (Below.refl _ W7).alloc (Nat.le_refl _) _
      have b67 : Below w.heap.size W6 W7 := Below.grown (ba1.mono (by omega)) hg7 (by simp; omega) (fun j hj => (r4.lt j hj).1)
      have b78 : Below w.heap.size W7 W8 := Below.grown (ba2.mono (by omega)) hg8 (by simp; omega) (fun j hj => (r57.lt j hj).1)
      have hT8 : Tr W8 w.heap.size a nd2 := (((HL6.out.1.tr.below ba1).row (r4.alloc _) (by decide) (by decide) hg7).below ba2).row (r57.alloc _) (by decide) (by decide) hg8
      have hk8 : ∀ (u : Value) (m : Nat) (xs : List Value), W6.ownsRow w.heap.size 48 2 u m xs → W8.ownsRow w.heap.size 48 2 u m xs := fun u m xs hu =>
        keep_other (own_below (keep_other (own_below hu ba1) (r4.alloc (.cells #[.slice A7 l.length c7] 23)) (by decide) hg7) ba2) (r57.alloc (.cells #[.int .i64 (n : Int)] 3)) (by decide) hg8
      have ho78 := keep_other (ho7.alloc (.cells #[.int .i64 (n : Int)] 3)) (r57.alloc (.cells #[.int .i64 (n : Int)] 3)) (by decide) hg8
      have hpush := HL6.out.1.push (v4' := .slice (some ⟨g4, 0, none⟩) (k + 1) c4) (v5' := .slice (some ⟨g5, 0, none⟩) (k + 1) c5) HL6.out.2 hc hnl hst hT8 hk8 (by rw [HLK.out]; exact ho78) (by rw [HLK.out]; exact ho8)
      go_roundw
      case rel => exact ⟨k + 1, nd2, vs ++ [.slice A7 l.length c7], ns ++ [n], by go_num, by omega, by omega, (b06.trans b67).trans b78, Lib.hid ⟨by rw [HTK.out]; exact hpush, by omega⟩⟩
      case measure => simp [intOf]; omega
    · have K9 : ¬ k < lists.length ∨ (k < lists.length ∧ ¬ k < 20) := by omega
      rcases K9 with K9 | K9
      · have K9' : ¬ (k : Int) < (lists.length : Int) := by omega
        have hll : ((lists.take k).map fitL).length = k := by rw [List.length_map, List.length_take]; omega
        have HLL := Lib.hid hll
        have hLI := HL.out.1
        have hnd := HL.out.2
        clear HL hll
        generalize (lists.take k).map fitL = ls at *
        have hT := hLI.tr
        have hdp := hLI.dp
        have hwf := hT.wf
        have hlen := hT.few
        obtain ⟨A4, c4, rfl, _, _⟩ := row_src (by have := hLI.r4; rw [HLL.out] at this; exact this)
        obtain ⟨A5, c5, rfl, _, _⟩ := row_src (by have := hLI.r5; rw [HLL.out] at this; exact this)
        have H36 := Lib.hid (told_any a w.heap.size nd V hT)
        have H31 := Lib.hid (fun W => from_any nd (bts (told nd)) W hwf hlen hdp rfl)
        have HLV := Lib.hid hLI
        clear hT hLI
        go_wp2_with fail
        refine H36.out.mono ?_
        rintro e W2 ⟨rfl, hb2⟩
        go_wp2_with fail
        refine (H31.out W2).mono ?_
        rintro e W3 ⟨lo2, u, rfl, _, _, hTu, hb3⟩
        have hb23 := hb2.trans (hb3.mono hb2.size)
        have HLW := Lib.hid (HLV.out.below hb23)
        have bw3 := hb.trans (hb23.mono hb.size)
        have zw3 := bw3.size
        have H35a := Lib.hid (len_any a w.heap.size nd W3 HLW.out.tr)
        have H35u := Lib.hid (len_any u lo2 nd W3 hTu)
        clear H36 H31 HLV hb2 hb3 hb23
        simp only
        go_wp2_with fail
        refine H35u.out.mono ?_
        rintro e Wq ⟨rfl, hWq⟩
        subst hWq
        go_wp2_with fail
        refine H35a.out.mono ?_
        rintro e Wq ⟨rfl, hWq⟩
        subst hWq
        have K42 := Lib.hid (fun (p lo' n : Nat) (hT : Tr W3 lo' p nd) (hn : n < nd.length) (W : World) (hW : Below W3.heap.size W3 W) =>
          show Calls Tryd.prog 42 #[.pointer (some ⟨p, 0, none⟩), .int .i64 n] W fun e w' => ∃ v, e = .returned (.tuple #[v, .int .i64 0]) ∧ w'.ownsRow W.heap.size 48 2 v (stk nd n).length (flat (stk nd n)) ∧ Below W.heap.size W w' from
            stack_any p lo' n nd W (hT.below hW) hn (hdp n hn))
        have HTu := Lib.hid hTu
        have HWF := Lib.hid hwf
        clear hTu H35a H35u hdp hwf hb hz
        go_wp2_with fail
        go_loopw [14] (fun t wr => ∃ i : Nat, t = .int .i64 i ∧ i ≤ k ∧ Below W3.heap.size W3 wr) (fun t _ => k - (intOf t).toNat)
        case atStart => exact ⟨0, rfl, by omega, Below.refl _ _⟩
        case round =>
          obtain ⟨i, rfl, hi, hbi⟩ := hrel
          have ii0 : (0 : Int) ≤ (i : Int) := Int.natCast_nonneg _
          generalize hV : wr = U at *
          clear hV
          have hzU := hbi.size
          by_cases hik : i < k
          · have hik' : (i : Int) < (k : Int) := by omega
            have hLU := HLW.out.below hbi
            obtain ⟨l, hl⟩ : ∃ l, ls[i]? = some l := ⟨_, List.getElem?_eq_getElem (by rw [HLL.out]; exact hik)⟩
            obtain ⟨hcl, n, v, hni, hvi, hnl, hst, hrow⟩ := hLU.each i l hl
            obtain ⟨g4, c4', e4, q4⟩ := row_at (by have := hLU.r4; rw [HLL.out] at this; exact this) (by omega)
            obtain ⟨g5, c5', e5, q5⟩ := row_at (by have := hLU.r5; rw [HLL.out] at this; exact this) (by omega)
            simp only [Value.slice.injEq, true_and] at e4 e5
            obtain ⟨rfl, rfl⟩ := e4
            obtain ⟨rfl, rfl⟩ := e5
            have d4 := q4 i v hvi
            have d5 := q5 i (.int .i64 (n : Int)) (by rw [List.getElem?_map, hni]; rfl)
            have hl64 := (chk_ok.1 hcl).2
            have H42a := Lib.hid (K42.out a w.heap.size n HLW.out.tr hnl U hbi)
            have H42u := Lib.hid (fun W h => K42.out u lo2 n HTu.out hnl W h)
            rw [hst] at H42a H42u
            have K38 := Lib.hid (fun (v1 v2 : Value) (B1 B2 : Nat) (W : World) (h1 : W.ownsRow B1 48 2 v1 l.length (flat l)) (h2 : W.ownsRow B2 48 2 v2 l.length (flat l)) =>
              show Calls Tryd.prog 38 #[v1, v2] W fun e w' => e = .returned (.bool true) ∧ Below W.heap.size W w' by
                obtain ⟨A1, c1, rfl, a1, _⟩ := own_form h1
                obtain ⟨A2, c2, rfl, a2, _⟩ := own_form h2
                refine (alike_any A1 A2 c1 c2 l l W a1 a2 (by omega) (by omega)).mono ?_
                rintro e w' ⟨rfl, m, rfl⟩
                exact ⟨by rw [decide_eq_true rfl], below_drewN _ _ _ (Nat.le_refl _)⟩)
            have HLU := Lib.hid hLU
            have HQ4 := Lib.hid q4
            have HQ5 := Lib.hid q5
            have HL1 := Lib.hid (And.intro hl (And.intro hni (And.intro hvi hst)))
            clear hLU q4 q5 hl hni hvi hst
            go_wp2_with fail
            refine H42a.out.mono ?_
            rintro e W4 ⟨x, rfl, hx, hb4⟩
            have d5a := cell_below d5 hb4 (Nat.le_refl _)
            have bi4 := hbi.trans (hb4.mono hzU)
            simp only
            go_wp2_with fail
            refine (H42u.out W4 bi4).mono ?_
            rintro e W5 ⟨y, rfl, hy, hb5⟩
            have z5 := hb5.size
            have d4b := cell_below d4 (hb4.trans (hb5.mono hb4.size)) (Nat.le_refl _)
            have bi5 := bi4.trans (hb5.mono bi4.size)
            have hx5 := own_below hx hb5
            have hr5 := own_below (own_below hrow hb4) hb5
            simp only
            go_wp2_with fail
            refine (K38.out x v _ _ W5 hx5 hr5).mono ?_
            rintro e W6 ⟨rfl, hb6⟩
            have d4c := cell_below d4b hb6 (Nat.le_refl _)
            have bi6 := bi5.trans (hb6.mono bi5.size)
            go_wp2_with fail
            refine (K38.out y v _ _ W6 (own_below hy hb6) (own_below hr5 hb6)).mono ?_
            rintro e W7 ⟨rfl, hb7⟩
            have bi7 := bi6.trans (hb7.mono bi6.size)
            clear d4 d5 d5a d4b d4c hx hx5 hy hb4 hb5 hb6 hb7 bi4 bi5 bi6 hr5 H42a H42u hrow HLU
            go_wp2_with fail
            go_loopw [19] (fun t wr => ∃ j : Nat, t = .int .i64 j ∧ j ≤ i + 1 ∧ Below W3.heap.size W3 wr) (fun t _ => i + 1 - (intOf t).toNat)
            case atStart => exact ⟨0, rfl, by omega, bi7⟩
            case round =>
              obtain ⟨j, rfl, hj, hbj⟩ := hrel
              have jj0 : (0 : Int) ≤ (j : Int) := Int.natCast_nonneg _
              generalize hV : wr = T at *
              clear hV
              have hzT := hbj.size
              by_cases hji : j ≤ i
              · have hji' : (j : Int) ≤ (i : Int) := by omega
                have hjk' : (j : Int) < (k : Int) := by omega
                have hLT := HLW.out.below hbj
                obtain ⟨l', hl'⟩ : ∃ x, ls[j]? = some x := ⟨_, List.getElem?_eq_getElem (by rw [HLL.out]; omega)⟩
                obtain ⟨hcl', n', v', hni', hvi', hnl', hst', hrow'⟩ := hLT.each j l' hl'
                obtain ⟨hl, hni, hvi, hst⟩ := HL1.out
                obtain ⟨_, n0, v0, hni0, hvi0, _, _, hrow⟩ := hLT.each i l hl
                obtain rfl : n = n0 := by rw [hni] at hni0; exact Option.some.inj hni0
                obtain rfl : v = v0 := by rw [hvi] at hvi0; exact Option.some.inj hvi0
                obtain ⟨g4', c4', e4, q4⟩ := row_at (by have := hLT.r4; rw [HLL.out] at this; exact this) (by omega)
                obtain ⟨g5', c5', e5, q5⟩ := row_at (by have := hLT.r5; rw [HLL.out] at this; exact this) (by omega)
                simp only [Value.slice.injEq, Option.some.injEq, Addr.mk.injEq, and_true, true_and] at e4 e5
                obtain ⟨rfl, rfl⟩ := e4
                obtain ⟨rfl, rfl⟩ := e5
                have d4i := q4 i v hvi
                have d4j := q4 j v' hvi'
                have d5i := q5 i (.int .i64 (n : Int)) (by rw [List.getElem?_map, hni]; rfl)
                have d5j := q5 j (.int .i64 (n' : Int)) (by rw [List.getElem?_map, hni']; rfl)
                obtain ⟨m, hm1, hm2, _⟩ := stk_up HWF.out n (cm l l') hnl (by rw [hst]; exact cm_le _ _)
                rw [hst] at hm2
                have H43 : Hid (∀ N : Nat, Calls Tryd.prog 43 #[.pointer (some ⟨a, 0, none⟩), .int .i64 n, .int .i64 n'] (T.drewN N) fun e w' => e = .returned (.tuple #[.int .i64 (m : Int), .int .i64 0]) ∧ w' = T.drewN N) := Lib.hid (fun N => by
                  refine (meet_any a w.heap.size n n' nd (T.drewN N) (hLT.tr.below (below_drewN _ _ _ (Nat.le_refl _))) hnl hnl').mono ?_
                  rintro e w' ⟨m', rfl, hM, rfl⟩
                  have h2 := hM.out.2
                  rw [hst, hst'] at h2
                  obtain rfl : m' = m := stk_inj HWF.out m' m hM.out.1 (by omega) (by rw [h2, hm2])
                  exact ⟨rfl, rfl⟩)
                have hml : m < nd.length := by omega
                have HJ := Lib.hid (And.intro hst (And.intro hst' (And.intro hm2 hml)))
                have HLT := Lib.hid hLT
                have HROW := Lib.hid (And.intro hrow hrow')
                clear hLT hni hvi hst hni' hvi' hst' hni0 hvi0 q4 q5 hm2 hl hl' hrow hrow'
                go_wp2_with fail
                go_quiet ((go_at_call 43; exact Calls.quiet_of_same (H43.out _)))
                go_wp2_with fail
                have bT : Below T.heap.size T (T.drewN nq) := below_drewN _ _ _ (Nat.le_refl _)
                generalize T.drewN nq = T0 at *
                refine (K42.out a w.heap.size m HLW.out.tr hml T0 (hbj.trans (bT.mono hzT))).mono ?_
                rintro e T1 ⟨zz, rfl, hzr, hbz⟩
                have bT1 : Below T.heap.size T T1 := bT.trans (hbz.mono bT.size)
                have bW1 := hbj.trans (bT1.mono hzT)
                rw [HJ.out.2.2.1] at hzr
                have d4i1 := cell_below d4i bT1 (Nat.le_refl _)
                have d4j1 := cell_below d4j bT1 (Nat.le_refl _)
                have d5i1 := cell_below d5i bT1 (Nat.le_refl _)
                have d5j1 := cell_below d5j bT1 (Nat.le_refl _)
                obtain ⟨Ai, ci, rfl, hAi, hci⟩ := own_form_capK (own_below HROW.out.1 bT1)
                obtain ⟨Aj, cj, rfl, hAj, hcj⟩ := own_form_capK (own_below HROW.out.2 bT1)
                have hl64' := (chk_ok.1 hcl').2
                have H16 : Hid (∀ N : Nat, Calls Tryd.prog 16 #[.slice Ai l.length ci, .slice Aj l'.length cj] (T1.drewN N) fun e w' => e = .returned (.int .i64 (cm l l')) ∧ ∃ m, w' = (T1.drewN N).drewN m) := Lib.hid (fun N =>
                  common_any Ai Aj ci cj l l' (T1.drewN N) (hAi.below (below_drewN _ _ _ (Nat.le_refl _)) (Nat.le_refl _)) (hAj.below (below_drewN _ _ _ (Nat.le_refl _)) (Nat.le_refl _)) (by omega) (by omega))
                have hcc := cm_le l l'
                obtain ⟨cc, hcce⟩ : ∃ cc, cm l l' = cc := ⟨_, rfl⟩
                rw [hcce] at H16 hcc hzr
                obtain ⟨Az, cz, rfl, hAz, _⟩ := own_form hzr
                have hlz : (l.take cc).length = cc := by rw [List.length_take]; omega
                have HAS := Lib.hid (And.intro hAi (And.intro hAj hAz))
                have hcci : cc ≤ ci := by omega
                clear hAi hAj hAz hzr hbz bT bT1 d4i d4j d5i d5j hcce HLT HROW H43
                rw [hlz]
                simp only
                go_wp2_with fail
                go_quiet ((go_at_call 16; exact Calls.quiet_of (H16.out _)))
                go_wp2_with fail
                have b2 : Below T1.heap.size T1 (T1.drewN nq) := below_drewN _ _ _ (Nat.le_refl _)
                have d4i2 := cell_below d4i1 b2 (Nat.le_refl _)
                have d4j2 := cell_below d4j1 b2 (Nat.le_refl _)
                have d5i2 := cell_below d5i1 b2 (Nat.le_refl _)
                have d5j2 := cell_below d5j1 b2 (Nat.le_refl _)
                have aI := HAS.out.1.below b2 (Nat.le_refl _)
                have aJ := HAS.out.2.1.below b2 (Nat.le_refl _)
                have aZ := HAS.out.2.2.below b2 (Nat.le_refl _)
                have bW2 := bW1.trans (b2.mono bW1.size)
                clear b2 d4i1 d4j1 d5i1 d5j1 HAS H16 bW1
                generalize T1.drewN nq = T2 at *
                have cc0 : (0 : Int) ≤ (cc : Int) := Int.natCast_nonneg _
                have cc1 : (cc : Int) ≤ (ci : Int) := by omega
                by_cases heq : l = l'
                · subst heq
                  obtain rfl : n = n' := stk_inj HWF.out n n' hnl hnl' (by rw [HJ.out.1, HJ.out.2.1])
                  have keep : ∀ (W' : World), (fun w' => w'.cell? ⟨g4, i, none⟩ = some (.slice Ai l.length ci) ∧ w'.cell? ⟨g4, j, none⟩ = some (.slice Aj l.length cj) ∧ w'.cell? ⟨g5, i, none⟩ = some (.int .i64 (n : Int)) ∧ w'.cell? ⟨g5, j, none⟩ = some (.int .i64 (n : Int)) ∧ Below T2.heap.size T2 w') W' → ∀ N, (fun w' => w'.cell? ⟨g4, i, none⟩ = some (.slice Ai l.length ci) ∧ w'.cell? ⟨g4, j, none⟩ = some (.slice Aj l.length cj) ∧ w'.cell? ⟨g5, i, none⟩ = some (.int .i64 (n : Int)) ∧ w'.cell? ⟨g5, j, none⟩ = some (.int .i64 (n : Int)) ∧ Below T2.heap.size T2 w') (W'.drewN N) := fun W' h N => by
                    have b := below_drewN W'.heap.size W' N (Nat.le_refl _)
                    exact ⟨cell_below h.1 b (Nat.le_refl _), cell_below h.2.1 b (Nat.le_refl _), cell_below h.2.2.1 b (Nat.le_refl _), cell_below h.2.2.2.1 b (Nat.le_refl _), h.2.2.2.2.trans (below_drewN _ _ _ h.2.2.2.2.size)⟩
                  have H38a : Hid (∀ W' : World, (fun w' => w'.cell? ⟨g4, i, none⟩ = some (.slice Ai l.length ci) ∧ w'.cell? ⟨g4, j, none⟩ = some (.slice Aj l.length cj) ∧ w'.cell? ⟨g5, i, none⟩ = some (.int .i64 (n : Int)) ∧ w'.cell? ⟨g5, j, none⟩ = some (.int .i64 (n : Int)) ∧ Below T2.heap.size T2 w') W' → Calls Tryd.prog 38 #[.slice Az cc cz, .slice Ai cc ci] W' fun e w' => e = .returned (.bool true) ∧ (fun w' => w'.cell? ⟨g4, i, none⟩ = some (.slice Ai l.length ci) ∧ w'.cell? ⟨g4, j, none⟩ = some (.slice Aj l.length cj) ∧ w'.cell? ⟨g5, i, none⟩ = some (.int .i64 (n : Int)) ∧ w'.cell? ⟨g5, j, none⟩ = some (.int .i64 (n : Int)) ∧ Below T2.heap.size T2 w') w') := Lib.hid (fun W' h => by
                    have := alike_any Az Ai cz ci (l.take cc) (l.take cc) W' (aZ.below h.2.2.2.2 (Nat.le_refl _)) (at_take (aI.below h.2.2.2.2 (Nat.le_refl _)) cc) (by omega) (by omega)
                    rw [hlz, decide_eq_true rfl] at this
                    refine this.mono ?_
                    rintro e w' ⟨rfl, N, rfl⟩
                    exact ⟨rfl, keep W' h N⟩)
                  have H38b : Hid (∀ W' : World, (fun w' => w'.cell? ⟨g4, i, none⟩ = some (.slice Ai l.length ci) ∧ w'.cell? ⟨g4, j, none⟩ = some (.slice Aj l.length cj) ∧ w'.cell? ⟨g5, i, none⟩ = some (.int .i64 (n : Int)) ∧ w'.cell? ⟨g5, j, none⟩ = some (.int .i64 (n : Int)) ∧ Below T2.heap.size T2 w') W' → Calls Tryd.prog 38 #[.slice Ai l.length ci, .slice Aj l.length cj] W' fun e w' => e = .returned (.bool true) ∧ (fun w' => w'.cell? ⟨g4, i, none⟩ = some (.slice Ai l.length ci) ∧ w'.cell? ⟨g4, j, none⟩ = some (.slice Aj l.length cj) ∧ w'.cell? ⟨g5, i, none⟩ = some (.int .i64 (n : Int)) ∧ w'.cell? ⟨g5, j, none⟩ = some (.int .i64 (n : Int)) ∧ Below T2.heap.size T2 w') w') := Lib.hid (fun W' h => by
                    have := alike_any Ai Aj ci cj l l W' (aI.below h.2.2.2.2 (Nat.le_refl _)) (aJ.below h.2.2.2.2 (Nat.le_refl _)) (by omega) (by omega)
                    rw [decide_eq_true rfl] at this
                    refine this.mono ?_
                    rintro e w' ⟨rfl, N, rfl⟩
                    exact ⟨rfl, keep W' h N⟩)
                  clear aI aJ aZ keep
                  have bself : Below T2.heap.size T2 T2.drew := (Below.refl _ _).drew
                  go_region_held3 (fun w' => w'.cell? ⟨g4, i, none⟩ = some (.slice Ai l.length ci) ∧ w'.cell? ⟨g4, j, none⟩ = some (.slice Aj l.length cj) ∧ w'.cell? ⟨g5, i, none⟩ = some (.int .i64 (n : Int)) ∧ w'.cell? ⟨g5, j, none⟩ = some (.int .i64 (n : Int)) ∧ Below T2.heap.size T2 w') ((refine ⟨?_, ?_, ?_, ?_, ?_⟩) <;> assumption) (first | (go_at_call 38; ((first | (with_reducible refine Calls.mono (H38a.out _ ?_) ?_) | (with_reducible refine Calls.mono (H38b.out _ ?_) ?_)); (· ((refine ⟨?_, ?_, ?_, ?_, ?_⟩) <;> assumption)); rintro e W' ⟨rfl, hS1, hS2, hS3, hS4, hS5⟩)))
                  go_wp2_with fail
                  go_roundw
                  case rel => exact ⟨j + 1, by go_num, by omega, bW2.trans (by (first | assumption | exact Below.mono (by assumption) bW2.size))⟩
                  case measure => simp [intOf]; omega
                · have hnn : (n : Int) ≠ (n' : Int) := fun h => heq (by
                    have h' : n = n' := by omega
                    subst h'
                    rw [← HJ.out.1, HJ.out.2.1])
                  have hnb : ((n : Int) == (n' : Int)) = false := beq_eq_false_iff_ne.2 hnn
                  have hnd' : ¬ n = n' := by omega
                  have keep : ∀ (W' : World), (fun w' => w'.cell? ⟨g4, i, none⟩ = some (.slice Ai l.length ci) ∧ w'.cell? ⟨g4, j, none⟩ = some (.slice Aj l'.length cj) ∧ w'.cell? ⟨g5, i, none⟩ = some (.int .i64 (n : Int)) ∧ w'.cell? ⟨g5, j, none⟩ = some (.int .i64 (n' : Int)) ∧ Below T2.heap.size T2 w') W' → ∀ N, (fun w' => w'.cell? ⟨g4, i, none⟩ = some (.slice Ai l.length ci) ∧ w'.cell? ⟨g4, j, none⟩ = some (.slice Aj l'.length cj) ∧ w'.cell? ⟨g5, i, none⟩ = some (.int .i64 (n : Int)) ∧ w'.cell? ⟨g5, j, none⟩ = some (.int .i64 (n' : Int)) ∧ Below T2.heap.size T2 w') (W'.drewN N) := fun W' h N => by
                    have b := below_drewN W'.heap.size W' N (Nat.le_refl _)
                    exact ⟨cell_below h.1 b (Nat.le_refl _), cell_below h.2.1 b (Nat.le_refl _), cell_below h.2.2.1 b (Nat.le_refl _), cell_below h.2.2.2.1 b (Nat.le_refl _), h.2.2.2.2.trans (below_drewN _ _ _ h.2.2.2.2.size)⟩
                  have H38a : Hid (∀ W' : World, (fun w' => w'.cell? ⟨g4, i, none⟩ = some (.slice Ai l.length ci) ∧ w'.cell? ⟨g4, j, none⟩ = some (.slice Aj l'.length cj) ∧ w'.cell? ⟨g5, i, none⟩ = some (.int .i64 (n : Int)) ∧ w'.cell? ⟨g5, j, none⟩ = some (.int .i64 (n' : Int)) ∧ Below T2.heap.size T2 w') W' → Calls Tryd.prog 38 #[.slice Az cc cz, .slice Ai cc ci] W' fun e w' => e = .returned (.bool true) ∧ (fun w' => w'.cell? ⟨g4, i, none⟩ = some (.slice Ai l.length ci) ∧ w'.cell? ⟨g4, j, none⟩ = some (.slice Aj l'.length cj) ∧ w'.cell? ⟨g5, i, none⟩ = some (.int .i64 (n : Int)) ∧ w'.cell? ⟨g5, j, none⟩ = some (.int .i64 (n' : Int)) ∧ Below T2.heap.size T2 w') w') := Lib.hid (fun W' h => by
                    have := alike_any Az Ai cz ci (l.take cc) (l.take cc) W' (aZ.below h.2.2.2.2 (Nat.le_refl _)) (at_take (aI.below h.2.2.2.2 (Nat.le_refl _)) cc) (by omega) (by omega)
                    rw [hlz, decide_eq_true rfl] at this
                    refine this.mono ?_
                    rintro e w' ⟨rfl, N, rfl⟩
                    exact ⟨rfl, keep W' h N⟩)
                  have H38b : Hid (∀ W' : World, (fun w' => w'.cell? ⟨g4, i, none⟩ = some (.slice Ai l.length ci) ∧ w'.cell? ⟨g4, j, none⟩ = some (.slice Aj l'.length cj) ∧ w'.cell? ⟨g5, i, none⟩ = some (.int .i64 (n : Int)) ∧ w'.cell? ⟨g5, j, none⟩ = some (.int .i64 (n' : Int)) ∧ Below T2.heap.size T2 w') W' → Calls Tryd.prog 38 #[.slice Ai l.length ci, .slice Aj l'.length cj] W' fun e w' => e = .returned (.bool false) ∧ (fun w' => w'.cell? ⟨g4, i, none⟩ = some (.slice Ai l.length ci) ∧ w'.cell? ⟨g4, j, none⟩ = some (.slice Aj l'.length cj) ∧ w'.cell? ⟨g5, i, none⟩ = some (.int .i64 (n : Int)) ∧ w'.cell? ⟨g5, j, none⟩ = some (.int .i64 (n' : Int)) ∧ Below T2.heap.size T2 w') w') := Lib.hid (fun W' h => by
                    have := alike_any Ai Aj ci cj l l' W' (aI.below h.2.2.2.2 (Nat.le_refl _)) (aJ.below h.2.2.2.2 (Nat.le_refl _)) (by omega) (by omega)
                    rw [decide_eq_false heq] at this
                    refine this.mono ?_
                    rintro e w' ⟨rfl, N, rfl⟩
                    exact ⟨rfl, keep W' h N⟩)
                  clear aI aJ aZ keep heq hnn
                  have bself : Below T2.heap.size T2 T2.drew := (Below.refl _ _).drew
                  go_region_held3 (fun w' => w'.cell? ⟨g4, i, none⟩ = some (.slice Ai l.length ci) ∧ w'.cell? ⟨g4, j, none⟩ = some (.slice Aj l'.length cj) ∧ w'.cell? ⟨g5, i, none⟩ = some (.int .i64 (n : Int)) ∧ w'.cell? ⟨g5, j, none⟩ = some (.int .i64 (n' : Int)) ∧ Below T2.heap.size T2 w') ((refine ⟨?_, ?_, ?_, ?_, ?_⟩) <;> assumption) (first | (go_at_call 38; ((first | (with_reducible refine Calls.mono (H38a.out _ ?_) ?_) | (with_reducible refine Calls.mono (H38b.out _ ?_) ?_)); (· ((refine ⟨?_, ?_, ?_, ?_, ?_⟩) <;> assumption)); rintro e W' ⟨rfl, hS1, hS2, hS3, hS4, hS5⟩)))
                  go_wp2_with fail
                  go_roundw
                  case rel => exact ⟨j + 1, by go_num, by omega, bW2.trans (by (first | assumption | exact Below.mono (by assumption) bW2.size))⟩
                  case measure => simp [intOf]; omega
              · have hji' : ¬ (j : Int) ≤ (i : Int) := by omega
                go_wp2_with fail
                go_roundw
                case rel => exact ⟨i + 1, by go_num, by omega, hbj⟩
                case measure => simp [intOf]; omega
          · have hik' : ¬ (i : Int) < (k : Int) := by omega
            have bwi := bw3.trans (hbi.mono zw3)
            go_wp2_with fail
            refine (K23.out U bwi).mono ?_
            rintro e W9 ⟨rfl, hb9⟩
            go_wp2_with fail
            go_ret
            exact ⟨rfl, bwi.trans (hb9.mono bwi.size)⟩
      · obtain ⟨K8, K9⟩ := K9
        have K8' : (k : Int) < (lists.length : Int) := by omega
        have K9' : ¬ (k : Int) < 20 := by omega
        have hll : ((lists.take k).map fitL).length = k := by rw [List.length_map, List.length_take]; omega
        have HLL := Lib.hid hll
        have hLI := HL.out.1
        have hnd := HL.out.2
        clear HL hll
        generalize (lists.take k).map fitL = ls at *
        have hT := hLI.tr
        have hdp := hLI.dp
        have hwf := hT.wf
        have hlen := hT.few
        obtain ⟨A4, c4, rfl, _, _⟩ := row_src (by have := hLI.r4; rw [HLL.out] at this; exact this)
        obtain ⟨A5, c5, rfl, _, _⟩ := row_src (by have := hLI.r5; rw [HLL.out] at this; exact this)
        have H36 := Lib.hid (told_any a w.heap.size nd V hT)
        have H31 := Lib.hid (fun W => from_any nd (bts (told nd)) W hwf hlen hdp rfl)
        have HLV := Lib.hid hLI
        clear hT hLI
        go_wp2_with fail
        refine H36.out.mono ?_
        rintro e W2 ⟨rfl, hb2⟩
        go_wp2_with fail
        refine (H31.out W2).mono ?_
        rintro e W3 ⟨lo2, u, rfl, _, _, hTu, hb3⟩
        have hb23 := hb2.trans (hb3.mono hb2.size)
        have HLW := Lib.hid (HLV.out.below hb23)
        have bw3 := hb.trans (hb23.mono hb.size)
        have zw3 := bw3.size
        have H35a := Lib.hid (len_any a w.heap.size nd W3 HLW.out.tr)
        have H35u := Lib.hid (len_any u lo2 nd W3 hTu)
        clear H36 H31 HLV hb2 hb3 hb23
        simp only
        go_wp2_with fail
        refine H35u.out.mono ?_
        rintro e Wq ⟨rfl, hWq⟩
        subst hWq
        go_wp2_with fail
        refine H35a.out.mono ?_
        rintro e Wq ⟨rfl, hWq⟩
        subst hWq
        have K42 := Lib.hid (fun (p lo' n : Nat) (hT : Tr W3 lo' p nd) (hn : n < nd.length) (W : World) (hW : Below W3.heap.size W3 W) =>
          show Calls Tryd.prog 42 #[.pointer (some ⟨p, 0, none⟩), .int .i64 n] W fun e w' => ∃ v, e = .returned (.tuple #[v, .int .i64 0]) ∧ w'.ownsRow W.heap.size 48 2 v (stk nd n).length (flat (stk nd n)) ∧ Below W.heap.size W w' from
            stack_any p lo' n nd W (hT.below hW) hn (hdp n hn))
        have HTu := Lib.hid hTu
        have HWF := Lib.hid hwf
        clear hTu H35a H35u hdp hwf hb hz
        go_wp2_with fail
        go_loopw [14] (fun t wr => ∃ i : Nat, t = .int .i64 i ∧ i ≤ k ∧ Below W3.heap.size W3 wr) (fun t _ => k - (intOf t).toNat)
        case atStart => exact ⟨0, rfl, by omega, Below.refl _ _⟩
        case round =>
          obtain ⟨i, rfl, hi, hbi⟩ := hrel
          have ii0 : (0 : Int) ≤ (i : Int) := Int.natCast_nonneg _
          generalize hV : wr = U at *
          clear hV
          have hzU := hbi.size
          by_cases hik : i < k
          · have hik' : (i : Int) < (k : Int) := by omega
            have hLU := HLW.out.below hbi
            obtain ⟨l, hl⟩ : ∃ l, ls[i]? = some l := ⟨_, List.getElem?_eq_getElem (by rw [HLL.out]; exact hik)⟩
            obtain ⟨hcl, n, v, hni, hvi, hnl, hst, hrow⟩ := hLU.each i l hl
            obtain ⟨g4, c4', e4, q4⟩ := row_at (by have := hLU.r4; rw [HLL.out] at this; exact this) (by omega)
            obtain ⟨g5, c5', e5, q5⟩ := row_at (by have := hLU.r5; rw [HLL.out] at this; exact this) (by omega)
            simp only [Value.slice.injEq, true_and] at e4 e5
            obtain ⟨rfl, rfl⟩ := e4
            obtain ⟨rfl, rfl⟩ := e5
            have d4 := q4 i v hvi
            have d5 := q5 i (.int .i64 (n : Int)) (by rw [List.getElem?_map, hni]; rfl)
            have hl64 := (chk_ok.1 hcl).2
            have H42a := Lib.hid (K42.out a w.heap.size n HLW.out.tr hnl U hbi)
            have H42u := Lib.hid (fun W h => K42.out u lo2 n HTu.out hnl W h)
            rw [hst] at H42a H42u
            have K38 := Lib.hid (fun (v1 v2 : Value) (B1 B2 : Nat) (W : World) (h1 : W.ownsRow B1 48 2 v1 l.length (flat l)) (h2 : W.ownsRow B2 48 2 v2 l.length (flat l)) =>
              show Calls Tryd.prog 38 #[v1, v2] W fun e w' => e = .returned (.bool true) ∧ Below W.heap.size W w' by
                obtain ⟨A1, c1, rfl, a1, _⟩ := own_form h1
                obtain ⟨A2, c2, rfl, a2, _⟩ := own_form h2
                refine (alike_any A1 A2 c1 c2 l l W a1 a2 (by omega) (by omega)).mono ?_
                rintro e w' ⟨rfl, m, rfl⟩
                exact ⟨by rw [decide_eq_true rfl], below_drewN _ _ _ (Nat.le_refl _)⟩)
            have HLU := Lib.hid hLU
            have HQ4 := Lib.hid q4
            have HQ5 := Lib.hid q5
            have HL1 := Lib.hid (And.intro hl (And.intro hni (And.intro hvi hst)))
            clear hLU q4 q5 hl hni hvi hst
            go_wp2_with fail
            refine H42a.out.mono ?_
            rintro e W4 ⟨x, rfl, hx, hb4⟩
            have d5a := cell_below d5 hb4 (Nat.le_refl _)
            have bi4 := hbi.trans (hb4.mono hzU)
            simp only
            go_wp2_with fail
            refine (H42u.out W4 bi4).mono ?_
            rintro e W5 ⟨y, rfl, hy, hb5⟩
            have z5 := hb5.size
            have d4b := cell_below d4 (hb4.trans (hb5.mono hb4.size)) (Nat.le_refl _)
            have bi5 := bi4.trans (hb5.mono bi4.size)
            have hx5 := own_below hx hb5
            have hr5 := own_below (own_below hrow hb4) hb5
            simp only
            go_wp2_with fail
            refine (K38.out x v _ _ W5 hx5 hr5).mono ?_
            rintro e W6 ⟨rfl, hb6⟩
            have d4c := cell_below d4b hb6 (Nat.le_refl _)
            have bi6 := bi5.trans (hb6.mono bi5.size)
            go_wp2_with fail
            refine (K38.out y v _ _ W6 (own_below hy hb6) (own_below hr5 hb6)).mono ?_
            rintro e W7 ⟨rfl, hb7⟩
            have bi7 := bi6.trans (hb7.mono bi6.size)
            clear d4 d5 d5a d4b d4c hx hx5 hy hb4 hb5 hb6 hb7 bi4 bi5 bi6 hr5 H42a H42u hrow HLU
            go_wp2_with fail
            go_loopw [19] (fun t wr => ∃ j : Nat, t = .int .i64 j ∧ j ≤ i + 1 ∧ Below W3.heap.size W3 wr) (fun t _ => i + 1 - (intOf t).toNat)
            case atStart => exact ⟨0, rfl, by omega, bi7⟩
            case round =>
              obtain ⟨j, rfl, hj, hbj⟩ := hrel
              have jj0 : (0 : Int) ≤ (j : Int) := Int.natCast_nonneg _
              generalize hV : wr = T at *
              clear hV
              have hzT := hbj.size
              by_cases hji : j ≤ i
              · have hji' : (j : Int) ≤ (i : Int) := by omega
                have hjk' : (j : Int) < (k : Int) := by omega
                have hLT := HLW.out.below hbj
                obtain ⟨l', hl'⟩ : ∃ x, ls[j]? = some x := ⟨_, List.getElem?_eq_getElem (by rw [HLL.out]; omega)⟩
                obtain ⟨hcl', n', v', hni', hvi', hnl', hst', hrow'⟩ := hLT.each j l' hl'
                obtain ⟨hl, hni, hvi, hst⟩ := HL1.out
                obtain ⟨_, n0, v0, hni0, hvi0, _, _, hrow⟩ := hLT.each i l hl
                obtain rfl : n = n0 := by rw [hni] at hni0; exact Option.some.inj hni0
                obtain rfl : v = v0 := by rw [hvi] at hvi0; exact Option.some.inj hvi0
                obtain ⟨g4', c4', e4, q4⟩ := row_at (by have := hLT.r4; rw [HLL.out] at this; exact this) (by omega)
                obtain ⟨g5', c5', e5, q5⟩ := row_at (by have := hLT.r5; rw [HLL.out] at this; exact this) (by omega)
                simp only [Value.slice.injEq, Option.some.injEq, Addr.mk.injEq, and_true, true_and] at e4 e5
                obtain ⟨rfl, rfl⟩ := e4
                obtain ⟨rfl, rfl⟩ := e5
                have d4i := q4 i v hvi
                have d4j := q4 j v' hvi'
                have d5i := q5 i (.int .i64 (n : Int)) (by rw [List.getElem?_map, hni]; rfl)
                have d5j := q5 j (.int .i64 (n' : Int)) (by rw [List.getElem?_map, hni']; rfl)
                obtain ⟨m, hm1, hm2, _⟩ := stk_up HWF.out n (cm l l') hnl (by rw [hst]; exact cm_le _ _)
                rw [hst] at hm2
                have H43 : Hid (∀ N : Nat, Calls Tryd.prog 43 #[.pointer (some ⟨a, 0, none⟩), .int .i64 n, .int .i64 n'] (T.drewN N) fun e w' => e = .returned (.tuple #[.int .i64 (m : Int), .int .i64 0]) ∧ w' = T.drewN N) := Lib.hid (fun N => by
                  refine (meet_any a w.heap.size n n' nd (T.drewN N) (hLT.tr.below (below_drewN _ _ _ (Nat.le_refl _))) hnl hnl').mono ?_
                  rintro e w' ⟨m', rfl, hM, rfl⟩
                  have h2 := hM.out.2
                  rw [hst, hst'] at h2
                  obtain rfl : m' = m := stk_inj HWF.out m' m hM.out.1 (by omega) (by rw [h2, hm2])
                  exact ⟨rfl, rfl⟩)
                have hml : m < nd.length := by omega
                have HJ := Lib.hid (And.intro hst (And.intro hst' (And.intro hm2 hml)))
                have HLT := Lib.hid hLT
                have HROW := Lib.hid (And.intro hrow hrow')
                clear hLT hni hvi hst hni' hvi' hst' hni0 hvi0 q4 q5 hm2 hl hl' hrow hrow'
                go_wp2_with fail
                go_quiet ((go_at_call 43; exact Calls.quiet_of_same (H43.out _)))
                go_wp2_with fail
                have bT : Below T.heap.size T (T.drewN nq) := below_drewN _ _ _ (Nat.le_refl _)
                generalize T.drewN nq = T0 at *
                refine (K42.out a w.heap.size m HLW.out.tr hml T0 (hbj.trans (bT.mono hzT))).mono ?_
                rintro e T1 ⟨zz, rfl, hzr, hbz⟩
                have bT1 : Below T.heap.size T T1 := bT.trans (hbz.mono bT.size)
                have bW1 := hbj.trans (bT1.mono hzT)
                rw [HJ.out.2.2.1] at hzr
                have d4i1 := cell_below d4i bT1 (Nat.le_refl _)
                have d4j1 := cell_below d4j bT1 (Nat.le_refl _)
                have d5i1 := cell_below d5i bT1 (Nat.le_refl _)
                have d5j1 := cell_below d5j bT1 (Nat.le_refl _)
                obtain ⟨Ai, ci, rfl, hAi, hci⟩ := own_form_capK (own_below HROW.out.1 bT1)
                obtain ⟨Aj, cj, rfl, hAj, hcj⟩ := own_form_capK (own_below HROW.out.2 bT1)
                have hl64' := (chk_ok.1 hcl').2
                have H16 : Hid (∀ N : Nat, Calls Tryd.prog 16 #[.slice Ai l.length ci, .slice Aj l'.length cj] (T1.drewN N) fun e w' => e = .returned (.int .i64 (cm l l')) ∧ ∃ m, w' = (T1.drewN N).drewN m) := Lib.hid (fun N =>
                  common_any Ai Aj ci cj l l' (T1.drewN N) (hAi.below (below_drewN _ _ _ (Nat.le_refl _)) (Nat.le_refl _)) (hAj.below (below_drewN _ _ _ (Nat.le_refl _)) (Nat.le_refl _)) (by omega) (by omega))
                have hcc := cm_le l l'
                obtain ⟨cc, hcce⟩ : ∃ cc, cm l l' = cc := ⟨_, rfl⟩
                rw [hcce] at H16 hcc hzr
                obtain ⟨Az, cz, rfl, hAz, _⟩ := own_form hzr
                have hlz : (l.take cc).length = cc := by rw [List.length_take]; omega
                have HAS := Lib.hid (And.intro hAi (And.intro hAj hAz))
                have hcci : cc ≤ ci := by omega
                clear hAi hAj hAz hzr hbz bT bT1 d4i d4j d5i d5j hcce HLT HROW H43
                rw [hlz]
                simp only
                go_wp2_with fail
                go_quiet ((go_at_call 16; exact Calls.quiet_of (H16.out _)))
                go_wp2_with fail
                have b2 : Below T1.heap.size T1 (T1.drewN nq) := below_drewN _ _ _ (Nat.le_refl _)
                have d4i2 := cell_below d4i1 b2 (Nat.le_refl _)
                have d4j2 := cell_below d4j1 b2 (Nat.le_refl _)
                have d5i2 := cell_below d5i1 b2 (Nat.le_refl _)
                have d5j2 := cell_below d5j1 b2 (Nat.le_refl _)
                have aI := HAS.out.1.below b2 (Nat.le_refl _)
                have aJ := HAS.out.2.1.below b2 (Nat.le_refl _)
                have aZ := HAS.out.2.2.below b2 (Nat.le_refl _)
                have bW2 := bW1.trans (b2.mono bW1.size)
                clear b2 d4i1 d4j1 d5i1 d5j1 HAS H16 bW1
                generalize T1.drewN nq = T2 at *
                have cc0 : (0 : Int) ≤ (cc : Int) := Int.natCast_nonneg _
                have cc1 : (cc : Int) ≤ (ci : Int) := by omega
                by_cases heq : l = l'
                · subst heq
                  obtain rfl : n = n' := stk_inj HWF.out n n' hnl hnl' (by rw [HJ.out.1, HJ.out.2.1])
                  have keep : ∀ (W' : World), (fun w' => w'.cell? ⟨g4, i, none⟩ = some (.slice Ai l.length ci) ∧ w'.cell? ⟨g4, j, none⟩ = some (.slice Aj l.length cj) ∧ w'.cell? ⟨g5, i, none⟩ = some (.int .i64 (n : Int)) ∧ w'.cell? ⟨g5, j, none⟩ = some (.int .i64 (n : Int)) ∧ Below T2.heap.size T2 w') W' → ∀ N, (fun w' => w'.cell? ⟨g4, i, none⟩ = some (.slice Ai l.length ci) ∧ w'.cell? ⟨g4, j, none⟩ = some (.slice Aj l.length cj) ∧ w'.cell? ⟨g5, i, none⟩ = some (.int .i64 (n : Int)) ∧ w'.cell? ⟨g5, j, none⟩ = some (.int .i64 (n : Int)) ∧ Below T2.heap.size T2 w') (W'.drewN N) := fun W' h N => by
                    have b := below_drewN W'.heap.size W' N (Nat.le_refl _)
                    exact ⟨cell_below h.1 b (Nat.le_refl _), cell_below h.2.1 b (Nat.le_refl _), cell_below h.2.2.1 b (Nat.le_refl _), cell_below h.2.2.2.1 b (Nat.le_refl _), h.2.2.2.2.trans (below_drewN _ _ _ h.2.2.2.2.size)⟩
                  have H38a : Hid (∀ W' : World, (fun w' => w'.cell? ⟨g4, i, none⟩ = some (.slice Ai l.length ci) ∧ w'.cell? ⟨g4, j, none⟩ = some (.slice Aj l.length cj) ∧ w'.cell? ⟨g5, i, none⟩ = some (.int .i64 (n : Int)) ∧ w'.cell? ⟨g5, j, none⟩ = some (.int .i64 (n : Int)) ∧ Below T2.heap.size T2 w') W' → Calls Tryd.prog 38 #[.slice Az cc cz, .slice Ai cc ci] W' fun e w' => e = .returned (.bool true) ∧ (fun w' => w'.cell? ⟨g4, i, none⟩ = some (.slice Ai l.length ci) ∧ w'.cell? ⟨g4, j, none⟩ = some (.slice Aj l.length cj) ∧ w'.cell? ⟨g5, i, none⟩ = some (.int .i64 (n : Int)) ∧ w'.cell? ⟨g5, j, none⟩ = some (.int .i64 (n : Int)) ∧ Below T2.heap.size T2 w') w') := Lib.hid (fun W' h => by
                    have := alike_any Az Ai cz ci (l.take cc) (l.take cc) W' (aZ.below h.2.2.2.2 (Nat.le_refl _)) (at_take (aI.below h.2.2.2.2 (Nat.le_refl _)) cc) (by omega) (by omega)
                    rw [hlz, decide_eq_true rfl] at this
                    refine this.mono ?_
                    rintro e w' ⟨rfl, N, rfl⟩
                    exact ⟨rfl, keep W' h N⟩)
                  have H38b : Hid (∀ W' : World, (fun w' => w'.cell? ⟨g4, i, none⟩ = some (.slice Ai l.length ci) ∧ w'.cell? ⟨g4, j, none⟩ = some (.slice Aj l.length cj) ∧ w'.cell? ⟨g5, i, none⟩ = some (.int .i64 (n : Int)) ∧ w'.cell? ⟨g5, j, none⟩ = some (.int .i64 (n : Int)) ∧ Below T2.heap.size T2 w') W' → Calls Tryd.prog 38 #[.slice Ai l.length ci, .slice Aj l.length cj] W' fun e w' => e = .returned (.bool true) ∧ (fun w' => w'.cell? ⟨g4, i, none⟩ = some (.slice Ai l.length ci) ∧ w'.cell? ⟨g4, j, none⟩ = some (.slice Aj l.length cj) ∧ w'.cell? ⟨g5, i, none⟩ = some (.int .i64 (n : Int)) ∧ w'.cell? ⟨g5, j, none⟩ = some (.int .i64 (n : Int)) ∧ Below T2.heap.size T2 w') w') := Lib.hid (fun W' h => by
                    have := alike_any Ai Aj ci cj l l W' (aI.below h.2.2.2.2 (Nat.le_refl _)) (aJ.below h.2.2.2.2 (Nat.le_refl _)) (by omega) (by omega)
                    rw [decide_eq_true rfl] at this
                    refine this.mono ?_
                    rintro e w' ⟨rfl, N, rfl⟩
                    exact ⟨rfl, keep W' h N⟩)
                  clear aI aJ aZ keep
                  have bself : Below T2.heap.size T2 T2.drew := (Below.refl _ _).drew
                  go_region_held3 (fun w' => w'.cell? ⟨g4, i, none⟩ = some (.slice Ai l.length ci) ∧ w'.cell? ⟨g4, j, none⟩ = some (.slice Aj l.length cj) ∧ w'.cell? ⟨g5, i, none⟩ = some (.int .i64 (n : Int)) ∧ w'.cell? ⟨g5, j, none⟩ = some (.int .i64 (n : Int)) ∧ Below T2.heap.size T2 w') ((refine ⟨?_, ?_, ?_, ?_, ?_⟩) <;> assumption) (first | (go_at_call 38; ((first | (with_reducible refine Calls.mono (H38a.out _ ?_) ?_) | (with_reducible refine Calls.mono (H38b.out _ ?_) ?_)); (· ((refine ⟨?_, ?_, ?_, ?_, ?_⟩) <;> assumption)); rintro e W' ⟨rfl, hS1, hS2, hS3, hS4, hS5⟩)))
                  go_wp2_with fail
                  go_roundw
                  case rel => exact ⟨j + 1, by go_num, by omega, bW2.trans (by (first | assumption | exact Below.mono (by assumption) bW2.size))⟩
                  case measure => simp [intOf]; omega
                · have hnn : (n : Int) ≠ (n' : Int) := fun h => heq (by
                    have h' : n = n' := by omega
                    subst h'
                    rw [← HJ.out.1, HJ.out.2.1])
                  have hnb : ((n : Int) == (n' : Int)) = false := beq_eq_false_iff_ne.2 hnn
                  have hnd' : ¬ n = n' := by omega
                  have keep : ∀ (W' : World), (fun w' => w'.cell? ⟨g4, i, none⟩ = some (.slice Ai l.length ci) ∧ w'.cell? ⟨g4, j, none⟩ = some (.slice Aj l'.length cj) ∧ w'.cell? ⟨g5, i, none⟩ = some (.int .i64 (n : Int)) ∧ w'.cell? ⟨g5, j, none⟩ = some (.int .i64 (n' : Int)) ∧ Below T2.heap.size T2 w') W' → ∀ N, (fun w' => w'.cell? ⟨g4, i, none⟩ = some (.slice Ai l.length ci) ∧ w'.cell? ⟨g4, j, none⟩ = some (.slice Aj l'.length cj) ∧ w'.cell? ⟨g5, i, none⟩ = some (.int .i64 (n : Int)) ∧ w'.cell? ⟨g5, j, none⟩ = some (.int .i64 (n' : Int)) ∧ Below T2.heap.size T2 w') (W'.drewN N) := fun W' h N => by
                    have b := below_drewN W'.heap.size W' N (Nat.le_refl _)
                    exact ⟨cell_below h.1 b (Nat.le_refl _), cell_below h.2.1 b (Nat.le_refl _), cell_below h.2.2.1 b (Nat.le_refl _), cell_below h.2.2.2.1 b (Nat.le_refl _), h.2.2.2.2.trans (below_drewN _ _ _ h.2.2.2.2.size)⟩
                  have H38a : Hid (∀ W' : World, (fun w' => w'.cell? ⟨g4, i, none⟩ = some (.slice Ai l.length ci) ∧ w'.cell? ⟨g4, j, none⟩ = some (.slice Aj l'.length cj) ∧ w'.cell? ⟨g5, i, none⟩ = some (.int .i64 (n : Int)) ∧ w'.cell? ⟨g5, j, none⟩ = some (.int .i64 (n' : Int)) ∧ Below T2.heap.size T2 w') W' → Calls Tryd.prog 38 #[.slice Az cc cz, .slice Ai cc ci] W' fun e w' => e = .returned (.bool true) ∧ (fun w' => w'.cell? ⟨g4, i, none⟩ = some (.slice Ai l.length ci) ∧ w'.cell? ⟨g4, j, none⟩ = some (.slice Aj l'.length cj) ∧ w'.cell? ⟨g5, i, none⟩ = some (.int .i64 (n : Int)) ∧ w'.cell? ⟨g5, j, none⟩ = some (.int .i64 (n' : Int)) ∧ Below T2.heap.size T2 w') w') := Lib.hid (fun W' h => by
                    have := alike_any Az Ai cz ci (l.take cc) (l.take cc) W' (aZ.below h.2.2.2.2 (Nat.le_refl _)) (at_take (aI.below h.2.2.2.2 (Nat.le_refl _)) cc) (by omega) (by omega)
                    rw [hlz, decide_eq_true rfl] at this
                    refine this.mono ?_
                    rintro e w' ⟨rfl, N, rfl⟩
                    exact ⟨rfl, keep W' h N⟩)
                  have H38b : Hid (∀ W' : World, (fun w' => w'.cell? ⟨g4, i, none⟩ = some (.slice Ai l.length ci) ∧ w'.cell? ⟨g4, j, none⟩ = some (.slice Aj l'.length cj) ∧ w'.cell? ⟨g5, i, none⟩ = some (.int .i64 (n : Int)) ∧ w'.cell? ⟨g5, j, none⟩ = some (.int .i64 (n' : Int)) ∧ Below T2.heap.size T2 w') W' → Calls Tryd.prog 38 #[.slice Ai l.length ci, .slice Aj l'.length cj] W' fun e w' => e = .returned (.bool false) ∧ (fun w' => w'.cell? ⟨g4, i, none⟩ = some (.slice Ai l.length ci) ∧ w'.cell? ⟨g4, j, none⟩ = some (.slice Aj l'.length cj) ∧ w'.cell? ⟨g5, i, none⟩ = some (.int .i64 (n : Int)) ∧ w'.cell? ⟨g5, j, none⟩ = some (.int .i64 (n' : Int)) ∧ Below T2.heap.size T2 w') w') := Lib.hid (fun W' h => by
                    have := alike_any Ai Aj ci cj l l' W' (aI.below h.2.2.2.2 (Nat.le_refl _)) (aJ.below h.2.2.2.2 (Nat.le_refl _)) (by omega) (by omega)
                    rw [decide_eq_false heq] at this
                    refine this.mono ?_
                    rintro e w' ⟨rfl, N, rfl⟩
                    exact ⟨rfl, keep W' h N⟩)
                  clear aI aJ aZ keep heq hnn
                  have bself : Below T2.heap.size T2 T2.drew := (Below.refl _ _).drew
                  go_region_held3 (fun w' => w'.cell? ⟨g4, i, none⟩ = some (.slice Ai l.length ci) ∧ w'.cell? ⟨g4, j, none⟩ = some (.slice Aj l'.length cj) ∧ w'.cell? ⟨g5, i, none⟩ = some (.int .i64 (n : Int)) ∧ w'.cell? ⟨g5, j, none⟩ = some (.int .i64 (n' : Int)) ∧ Below T2.heap.size T2 w') ((refine ⟨?_, ?_, ?_, ?_, ?_⟩) <;> assumption) (first | (go_at_call 38; ((first | (with_reducible refine Calls.mono (H38a.out _ ?_) ?_) | (with_reducible refine Calls.mono (H38b.out _ ?_) ?_)); (· ((refine ⟨?_, ?_, ?_, ?_, ?_⟩) <;> assumption)); rintro e W' ⟨rfl, hS1, hS2, hS3, hS4, hS5⟩)))
                  go_wp2_with fail
                  go_roundw
                  case rel => exact ⟨j + 1, by go_num, by omega, bW2.trans (by (first | assumption | exact Below.mono (by assumption) bW2.size))⟩
                  case measure => simp [intOf]; omega
              · have hji' : ¬ (j : Int) ≤ (i : Int) := by omega
                go_wp2_with fail
                go_roundw
                case rel => exact ⟨i + 1, by go_num, by omega, hbj⟩
                case measure => simp [intOf]; omega
          · have hik' : ¬ (i : Int) < (k : Int) := by omega
            have bwi := bw3.trans (hbi.mono zw3)
            go_wp2_with fail
            refine (K23.out U bwi).mono ?_
            rintro e W9 ⟨rfl, hb9⟩
            go_wp2_with fail
            go_ret
            exact ⟨rfl, bwi.trans (hb9.mono bwi.size)⟩
end Go.Proofs.YtocdinaomkmcbaaDoor
