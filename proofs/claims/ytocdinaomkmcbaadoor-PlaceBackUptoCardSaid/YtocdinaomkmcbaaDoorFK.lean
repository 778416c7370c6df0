/-
  The document's Fold.
-/
import Derived.Test.YtocdinaomkmcbaaDoorFI
import Derived.Test.YtocdinaomkmcbaaDoorFG
namespace Go.Proofs.YtocdinaomkmcbaaDoor
open Go.ChangeShapes Go.WideShapes Go.ChangeAt Go.RowKit Go.Shelf
set_option linter.unusedVariables false

/-- What stands while the document's Fold runs. -/
structure GW (w : World) (rs : List Rn) (v : Value) (W : World) : Prop where
  ex : ∃ xs : List Value, W.ownsRow w.heap.size 64 2 v rs.length xs ∧ RwP 102 w.heap.size 0 W rs xs
  b : Below w.heap.size w W

set_option maxRecDepth 100000 in
set_option maxHeartbeats 8000000 in
theorem rfold_good (A : Option Addr) (cap : Nat) (l : List Pl) (w : World) (hA : At w A l) (hcap : l.length ≤ cap) (hc : chk l = 0) (h64 : l.length ≤ 64) :
    Calls Tryd.prog 27 #[.slice A l.length cap] w fun e w' => ∃ v, e = .returned (.tuple #[v, .int .i64 0]) ∧ GW w (fd l) v w' := by
  obtain ⟨i0, hi0, hz0, hz1, hz2⟩ := info_parts info102
  obtain ⟨i1, hi1, hy0, hy1, hy2⟩ := info_parts info64
  have h1 := rcheck_any A cap l w hA (by omega)
  rw [hc] at h1
  have H1 := Lib.hid h1
  have HA := Lib.hid hA
  clear h1 hA hc
  go_enter Tryd.func27, Tryd.ntmps27
  go_wp2_with fail
  refine H1.out.mono ?_
  rintro e W ⟨rfl, hb⟩
  have hz := hb.size
  go_wp2_with fail
  go_loopw [5, 6, 7] (fun t5 t6 t7 wr => ∃ (n : Nat) (rs : List Rn) (al : Bool), t7 = .int .i64 n ∧ t6 = .bool al ∧ n ≤ l.length ∧ Hid (FS l n rs al) ∧ GW w rs t5 wr) (fun _ _ t7 _ => l.length - (intOf t7).toNat)
  case atStart => exact ⟨0, [], false, rfl, rfl, by omega, Lib.hid (FS.start l), ⟨[], World.ownsRow_nil _ _ _ _, RwP.nil _ _ _ _⟩, hb⟩
  case round =>
    obtain ⟨n, rs, al, rfl, rfl, hn, HS, ⟨xs, ho, hpr⟩, hbw⟩ := hrel
    generalize hV : wr = V at *
    clear hV
    have hz0' := hbw.size
    have hn0 : (0 : Int) ≤ (n : Int) := Int.natCast_nonneg _
    by_cases hlt : n < l.length
    · have hnl : (n : Int) < (l.length : Int) := by omega
      have hnl' : (n : Int) ≤ (l.length : Int) := by omega
      obtain ⟨p, hp⟩ : ∃ p, l[n]? = some p := ⟨_, List.getElem?_eq_getElem hlt⟩
      obtain ⟨g, o, rfl⟩ : ∃ g o, A = some ⟨g, o, none⟩ := At.some' HA.out (by omega)
      obtain ⟨g', o', e', c0w, c1w⟩ := HA.out n p hp
      injection e' with e'
      injection e' with e1 e2
      subst e1; subst e2
      have lg := World.block_lt_of_cell? w _ c0w
      have hlen : (l.drop n).length = l.length - n := by simp
      have hcnt := HS.out.cnt
      have hcn : ¬ cap = n := by omega
      have hxl := ho.1
      have HLT := Lib.hid (hpr.lt hxl)
      have HPR := Lib.hid hpr
      have HRL : Hid (∀ r : Rn, (rs ++ [r]).length = rs.length + 1) := Lib.hid (fun r => by simp)
      have HLEN := Lib.hid hlen
      have hln : ((l.length - n : Nat) : Int) = (l.length : Int) - (n : Int) := by omega
      have HL61 : Hid (∀ (W : World) (p : Nat), Below V.heap.size V W → 1 ≤ p → p ≤ 8 → p ≤ l.length - n → Calls Tryd.prog 61 #[.slice (some ⟨g, o + n * 2, none⟩) (l.length - n) (cap - n), .int .i64 p] W fun e w' => e = .returned (.int .i64 (tms (l.drop n) p)) ∧ ∃ m, w' = W.drewN m) := Lib.hid (fun W p hW h1 h2 h3 => by
        have := rtimes_any g (o + n * 2) (cap - n) p (l.drop n) W (drop_at ((HA.out.below hbw (Nat.le_refl _)).below hW (Nat.le_refl _)) n) (by omega) h1 h2 (by omega) (by omega)
        rw [hlen] at this
        exact this)
      have HRB : Hid (∀ j, rb (l.drop n) (j + 1) = if j + 1 ≤ l.length - n ∧ 2 ≤ tms (l.drop n) (j + 1) ∧ (rb (l.drop n) j).2 < (j + 1) * tms (l.drop n) (j + 1) then (j + 1, (j + 1) * tms (l.drop n) (j + 1)) else rb (l.drop n) j) := Lib.hid (fun j => by rw [← hlen]; rfl)
      have HRL2 : Hid (∀ j, (rb (l.drop n) j).2 ≤ l.length - n ∧ (rb (l.drop n) j).1 ≤ j ∧ (rb (l.drop n) j).1 ≤ l.length - n) := Lib.hid (fun j => by rw [← hlen]; exact rb_le _ j)
      have HRP : Hid (∀ j, (j = 8 ∨ l.length - n ≤ j) → j ≤ 8 → rb (l.drop n) 8 = rb (l.drop n) j) := Lib.hid (fun j h h8 => by
        rcases h with rfl | h
        · rfl
        · have := rb_past (l := l.drop n) (8 - j) j (by omega)
          rwa [show j + (8 - j) = 8 by omega] at this)
      have HTL : Hid (∀ p, tms (l.drop n) p * p ≤ l.length - n) := Lib.hid (fun p => by rw [← hlen]; exact tms_le _ p)
      have HRBB := Lib.hid (rb_bst (l.drop n) 8)
      clear hlen hpr
      go_wp2_with fail
      go_loopw [8, 9, 10] (fun a b t wr => ∃ j : Nat, a = .int .i64 (rb (l.drop n) j).1 ∧ b = .int .i64 (rb (l.drop n) j).2 ∧ t = .int .i64 ((j + 1 : Nat) : Int) ∧ j ≤ 8 ∧ j ≤ l.length - n ∧ Below V.heap.size V wr) (fun _ _ t _ => 10 - (intOf t).toNat)
      case atStart => exact ⟨0, rfl, rfl, rfl, by omega, by omega, Below.refl _ _⟩
      case round =>
        obtain ⟨j, rfl, rfl, rfl, hj8, hjl, hbr⟩ := hrel
        have HB := Lib.hid (HRB.out j)
        have hr2 := HRL2.out j
        by_cases hgo : j + 1 ≤ 8 ∧ j + 1 ≤ l.length - n
        · have H61 := Lib.hid (HL61.out wr (j + 1) hbr (by omega) hgo.1 hgo.2)
          have ht := HTL.out (j + 1)
          have hp := HRP.out
          clear hp
          generalize hk : tms (l.drop n) (j + 1) = k at *
          generalize hbb : rb (l.drop n) j = bb at *
          obtain ⟨b1, b2⟩ := bb
          simp only at hr2 HB
          generalize hpp : j + 1 = pp at *
          obtain ⟨q1, hq1⟩ : ∃ q, pp * k = q := ⟨_, rfl⟩
          have m1 : (pp : Int) * (k : Int) = (q1 : Int) := by rw [← hq1]; simp
          rw [Nat.mul_comm, hq1] at ht
          rw [hq1] at HB
          have HP := Lib.hid hpp
          clear hk hbb hq1 hpp
          have g1 : (pp : Int) ≤ 8 := by omega
          have g2 : (pp : Int) ≤ (l.length : Int) - (n : Int) := by omega
          by_cases hk1 : 2 ≤ k
          · have k1 : (2 : Int) ≤ (k : Int) := by omega
            by_cases hlt' : b2 < q1
            · have l1 : (b2 : Int) < (q1 : Int) := by omega
              have HF := Lib.hid (HB.out.trans (if_pos ⟨hgo.2, hk1, hlt'⟩))
              clear HB
              go_wp2_with fail
              refine H61.out.mono ?_
              rintro e W2 ⟨rfl, m', rfl⟩
              go_wp2_with fail
              go_roundw
              case rel => exact ⟨pp, by rw [HF.out], by rw [HF.out], by go_num, by omega, by omega, hbr.trans ((below_drewN _ _ _ (Nat.le_refl _)).mono hbr.size)⟩
              case measure => simp [intOf]; omega
            · have l1 : ¬ (b2 : Int) < (q1 : Int) := by omega
              have HF := Lib.hid (HB.out.trans (if_neg (fun h => hlt' h.2.2)))
              clear HB
              go_wp2_with fail
              refine H61.out.mono ?_
              rintro e W2 ⟨rfl, m', rfl⟩
              go_wp2_with fail
              go_roundw
              case rel => exact ⟨pp, by rw [HF.out], by rw [HF.out], by go_num, by omega, by omega, hbr.trans ((below_drewN _ _ _ (Nat.le_refl _)).mono hbr.size)⟩
              case measure => simp [intOf]; omega
          · have k1 : ¬ (2 : Int) ≤ (k : Int) := by omega
            have HF := Lib.hid (HB.out.trans (if_neg (fun h => hk1 h.2.1)))
            clear HB
            go_wp2_with fail
            refine H61.out.mono ?_
            rintro e W2 ⟨rfl, m', rfl⟩
            go_wp2_with fail
            go_roundw
            case rel => exact ⟨pp, by rw [HF.out], by rw [HF.out], by go_num, by omega, by omega, hbr.trans ((below_drewN _ _ _ (Nat.le_refl _)).mono hbr.size)⟩
            case measure => simp [intOf]; omega
        · have hex : (((j + 1 : Nat) : Int) ≤ 8 ∧ ¬ ((j + 1 : Nat) : Int) ≤ (l.length : Int) - (n : Int)) ∨ ¬ ((j + 1 : Nat) : Int) ≤ 8 := by
            by_cases h8 : j + 1 ≤ 8
            · exact .inl ⟨by omega, by omega⟩
            · exact .inr (by omega)
          have HF := Lib.hid (HRP.out j (by omega) hj8)
          have HV := Lib.hid hbr
          have HX := Lib.hid HRBB.out
          have HXF : Hid (∀ b k, bst (l.drop n) 8 = (b, k) → 2 ≤ k → FS l (n + b * k) (rs ++ [((l.drop n).take b, (k : Int))]) false ∧ b ≤ 8 ∧ n + b * k ≤ l.length ∧ 1 ≤ b ∧ n + b ≤ l.length) := Lib.hid (fun b k h1 h2 => HS.out.block hlt h1 h2)
          rw [HF.out] at HX
          clear HB HRBB HRP HTL HRL2 HRB HL61 HF
          generalize rb (l.drop n) j = bb at *
          obtain ⟨b1, b2⟩ := bb
          simp only at hr2
          have hbW := hbw.trans (hbr.mono hz0')
          have hzW := hbW.size
          have ho2 := own_below ho hbr
          have HPR2 := Lib.hid (HPR.out.below hbr)
          have hzr := hbr.size
          have c0 := cell_below c0w hbW (Nat.le_refl _)
          have c1 := cell_below c1w hbW (Nat.le_refl _)
          generalize hjj : j + 1 = jj at *
          clear hjj
          clear ho HPR
          generalize hW : wr = W2 at *
          clear hW
          by_cases hb0 : b1 = 0
          · -- one place more of those that stand once
            subst hb0
            have hone : (bst (l.drop n) 8).2 = 1 := by
              rcases HX.out with ⟨_, h⟩ | ⟨h0, h1, h⟩
              · rw [h]
              · have := congrArg Prod.fst h; simp only at this; omega
            clear HX HXF
            cases al
            · have HSN := Lib.hid (HS.out.first hp hone)
              clear hone
              generalize hrsl : rs.length = j' at *
              have HJ := Lib.hid hrsl
              clear hrsl
              rcases hex with ⟨g1, g2⟩ | g1
              all_goals
                go_wp2_with (at_builtin; refine wpList_append_lies _ rfl _ _ _ rfl w.heap.size 64 i1 _ 2 32 Tryd.underlying53 hi1 hy0 hy1 hy2 rfl (by omega) u5 j' xs rfl (ho2.alloc _) ⟨W2.heap.size, 0, none⟩ 1 1 [.slice none 0 0, .int .i64 1] rfl rfl (World.news_of_block (cs := #[.slice none 0 0, .int .i64 1]) (t := 64) (fr := (0, 0)) (heap_alloc_new W2 _)) (by simp [Value.oneCell']) (by omega) (by unfold maxLen; omega) (by omega) (by simp; omega) (W2.heap.size + 1) (by simp) ?_; intro gr cr w5 hown5 hgrow5 hat5 hlt5)
                have hb5 : Below w.heap.size w w5 := Below.grown (hbW.alloc hzW _) hgrow5 (by simp; omega) (fun j hj => (ho2.lt j hj).1)
                have hz5 := hb5.size
                have hzr5 : V.heap.size ≤ w5.heap.size := by have := hgrow5.size; simp at this; omega
                have d0 := cell_below c0w hb5 (Nat.le_refl _)
                have d1 := cell_below c1w hb5 (Nat.le_refl _)
                have cP : w5.cell? ⟨gr, j' * 2, none⟩ = some (.slice none 0 0) := (hown5.cellAt (j' * 2) (by omega)).trans (by rw [List.getElem?_append_right (by omega), hxl, Nat.sub_self]; rfl)
                have fP := hown5.frozenAt (j' * 2)
                have HP5 := Lib.hid ((HPR2.out.alloc (.cells #[.slice none 0 0, .int .i64 1] 64)).other (ho2.alloc (.cells #[.slice none 0 0, .int .i64 1] 64)) (by decide) hgrow5)
                have cPa := cell_below cP ((Below.refl _ w5).alloc (Nat.le_refl _) (.cells #[.string p.1, .int .i64 p.2] 102)) (Nat.le_refl _)
                clear c0 c1 hgrow5 hat5
                go_region_law (refine step_append_lies _ (by rfl) _ _ _ (by rfl) w.heap.size 102 i0 _ 2 24 Tryd.underlying29 hi0 hz0 hz1 hz2 rfl (by omega) (.slice none 0 0) 0 [] (by rfl) (World.ownsRow_nil _ _ _ _) ⟨w5.heap.size, 0, none⟩ 1 1 (cel p) (by rfl) (by rfl) (World.news_of_block (cs := #[.string p.1, .int .i64 p.2]) (t := 102) (fr := (0, 0)) (heap_alloc_new w5 _)) (by simp [cel, Value.oneCell']) (by omega) (by unfold maxLen; omega) (by omega) (by simp; omega) (w5.heap.size + 1) (by simp) ?_; intro gg cap' w1 hown1 hgrow hat hlt1; have ho1 := keep_other ((hown5.alloc (.cells #[.string p.1, .int .i64 p.2] 102)).drew) (World.ownsRow_nil _ w.heap.size 102 2) (by decide) hgrow; have c9 := (ho1.cellAt (j' * 2) (by omega)).trans (show _ = some (Value.slice none 0 0) by rw [List.getElem?_append_right (by omega), hxl, Nat.sub_self]; rfl); have f9 := ho1.frozenAt (j' * 2))
                all_goals
                  have hst := ho1.stored (j' * 2) (.slice (some ⟨gg, 0, none⟩) (0 + 1) cap')
                  have HGW : Hid (GW w (rs ++ [([p], (1 : Int))]) (.slice (some ⟨gr, 0, none⟩) (j' + 1) cr) (w1.setCell ⟨gr, j' * 2, none⟩ (.slice (some ⟨gg, 0, none⟩) (0 + 1) cap'))) := Lib.hid (by
                    have hgg : gg = w5.heap.size + 1 := by rcases hat with h | h; · cases h
                                                           · exact h
                    have hk1 := (HP5.out.alloc (.cells #[.string p.1, .int .i64 p.2] 102)).below (Below.refl _ _).drew
                    have hk2 := hk1.kept (row := none) hgrow (fun _ _ _ _ _ h => by cases h)
                    have hk3 := hk2.snoc (r := ([p], 1)) (g := gg) (c := cap') (by rw [HJ.out]; exact hxl) (by have : flat [p] = [] ++ cel p := by simp [flat]
                                                                                                               show w1.ownsRow _ _ _ (.slice _ 1 _) 1 (flat [p]); rw [this]; exact hown1) (fun jj v g hj hv e => by have := (HLT.out jj v g hj hv).2; simp at e; omega)
                    have hxs : (xs ++ [Value.slice none 0 0, Value.int .i64 1]).set (j' * 2) (.slice (some ⟨gg, 0, none⟩) (0 + 1) cap') = xs ++ [.slice (some ⟨gg, 0, none⟩) 1 cap', .int .i64 1] := by
                      rw [List.set_append, if_neg (by omega), hxl, Nat.sub_self]; rfl
                    refine ⟨⟨_, by rw [HRL.out]; exact hst.1, by rw [hxs]; exact hk3.other ho1 (by decide) hst.2⟩, ?_⟩
                    exact Below.grown (Below.grown ((hb5.alloc hz5 _).drew) hgrow (by simp; omega) (fun j hj => by cases hj)) hst.2 (by have := hgrow.size; simp at this; omega) (fun j hj => (ho1.lt j hj).1))
                  clear hst ho1 hown1 hgrow hat c9 f9 d0 d1 cP fP cPa hown5
                  go_wp2_with fail
                  go_roundw
                  case rel => exact ⟨n + 1, _, true, by go_num, rfl, by omega, HSN, HGW.out⟩
                  case measure => simp [intOf]; omega
            · obtain ⟨rs', ps, rfl⟩ := HS.out.last.1 rfl
              have HSN := Lib.hid (HS.out.more hp hone)
              have hps : ps.length ≤ 64 := by have := HS.out.few; rw [sum_snoc] at this; simp at this; omega
              have hrl : (rs' ++ [(ps, (1 : Int))]).length = rs'.length + 1 := by simp
              rw [hrl] at ho2 hxl hcnt
              obtain ⟨g0, cc0, x0, x1, o2, x2⟩ := HPR2.out rs'.length (ps, 1) (Nat.zero_le _) (by simp)
              obtain ⟨gr, cr, rfl, r1, r2⟩ := ho2.form (by omega)
              have HX0 := Lib.hid x0
              have cP2 := (ho2.cellAt (rs'.length * 2) (by omega)).trans x0
              have fP2 := ho2.frozenAt (rs'.length * 2)
              simp only at o2 cP2
              have hF := Lib.hid (show flat (ps ++ [p]) = flat ps ++ cel p from flat_snoc ps p)
              have hcc := own_cap o2
              clear x0 x1 x2 hrl hone
              generalize hj : rs'.length = j' at *
              generalize hpl : ps.length = pl at *
              have HJ := Lib.hid hj
              have HPL := Lib.hid hpl
              clear hj hpl
              have hj0 : (0 : Int) ≤ (j' : Int) := Int.natCast_nonneg _
              have cPa := cell_below cP2 ((Below.refl _ W2).alloc (Nat.le_refl _) (.cells #[.string p.1, .int .i64 p.2] 102)) (Nat.le_refl _)
              rcases hex with ⟨g1, g2⟩ | g1
              all_goals
                go_wp2_with fail
                go_region_law (refine step_append_lies _ (by rfl) _ _ _ (by rfl) w.heap.size 102 i0 _ 2 24 Tryd.underlying29 hi0 hz0 hz1 hz2 rfl (by omega) (.slice (some ⟨g0, 0, none⟩) pl cc0) pl (flat ps) (by rfl) ((o2.alloc _).drew) ⟨W2.heap.size, 0, none⟩ 1 1 (cel p) (by rfl) (by rfl) (World.news_of_block (cs := #[.string p.1, .int .i64 p.2]) (t := 102) (fr := (0, 0)) (heap_alloc_new W2 _)) (by simp [cel, Value.oneCell']) (by omega) (by unfold maxLen; omega) (by omega) (by simp; omega) (W2.heap.size + 1) (by simp) ?_; intro gg cap' w1 hown1 hgrow hat hlt1; have ho1 := keep_other ((ho2.alloc (.cells #[.string p.1, .int .i64 p.2] 102)).drew) ((o2.alloc (.cells #[.string p.1, .int .i64 p.2] 102)).drew) (by decide) hgrow; have c9 := (ho1.cellAt (j' * 2) (by omega)).trans HX0.out; have f9 := ho1.frozenAt (j' * 2))
                all_goals
                  have hst := ho1.stored (j' * 2) (.slice (some ⟨gg, 0, none⟩) (pl + 1) cap')
                  have hrn : gg = g0 ∨ (W2.alloc (Obj.cells #[Value.string p.fst, Value.int IntKind.i64 p.snd] 102)).drew.heap.size ≤ gg := by
                    rcases hat with h | h
                    · exact .inl (by simpa [Value.ownBlock] using h.symm)
                    · exact .inr (by simp; omega)
                  have HGW : Hid (GW w (rs' ++ [(ps ++ [p], (1 : Int))]) (.slice (some ⟨gr, 0, none⟩) (j' + 1) cr) (w1.setCell ⟨gr, j' * 2, none⟩ (.slice (some ⟨gg, 0, none⟩) (pl + 1) cap'))) := Lib.hid (by
                    have hlp : (ps ++ [p]).length = pl + 1 := by simp [HPL.out]
                    have hjr : rs'.length = j' := HJ.out
                    have hxx : xs.length = (rs'.length + 1) * 2 := by rw [hjr]; exact hxl
                    have e1 : (rs' ++ [(ps ++ [p], (1 : Int))]).length = j' + 1 := by simp [hjr]
                    have hk1 := ((HPR2.out.alloc (.cells #[.string p.1, .int .i64 p.2] 102)).below (Below.refl _ _).drew)
                    have hk2 := hk1.last (r := (ps, 1)) (r' := (ps ++ [p], 1)) (g0 := g0) (c0 := cc0) (g := gg) (c := cap') hxx (by rw [hjr]; show _ = some (Value.slice _ ps.length _); rw [HPL.out]; exact HX0.out) hgrow (by show w1.ownsRow _ _ _ (.slice _ (ps ++ [p]).length _) (ps ++ [p]).length (flat (ps ++ [p])); rw [hlp, hF.out]; exact hown1) hrn rfl
                    rw [hjr, show (ps ++ [p], (1 : Int)).1.length = pl + 1 from hlp] at hk2
                    refine ⟨⟨_, by rw [e1]; exact hst.1, hk2.other ho1 (by decide) hst.2⟩, ?_⟩
                    exact Below.grown (Below.grown ((hbW.alloc hzW _).drew) hgrow (by simp; omega) (fun j hj => (o2.lt j hj).1)) hst.2 (by have := hgrow.size; simp at this; omega) (fun j hj => (ho1.lt j hj).1))
                  clear hst ho1 hown1 hgrow hat c9 f9 hrn
                  go_wp2_with fail
                  go_roundw
                  case rel => exact ⟨n + 1, _, true, by go_num, rfl, by omega, HSN, HGW.out⟩
                  case measure => simp [intOf]; omega
          · obtain ⟨b, k, hbk, hk2, hbb⟩ : ∃ b k, bst (l.drop n) 8 = (b, k) ∧ 2 ≤ k ∧ (b1, b2) = (b, b * k) := by
              rcases HX.out with ⟨h, _⟩ | ⟨h0, _, h⟩
              · exact absurd (congrArg Prod.fst h) hb0
              · exact ⟨_, _, rfl, h0, h⟩
            simp only [Prod.mk.injEq] at hbb
            obtain ⟨e1, e2⟩ := hbb
            subst e1; subst e2
            obtain ⟨HSN0, hb8, hnbk, h1b, hnb⟩ := HXF.out b1 k hbk hk2
            have HSN := Lib.hid HSN0
            obtain ⟨q, hq⟩ : ∃ q, b1 * k = q := ⟨_, rfl⟩
            have hdiv0 : q / b1 = k := by rw [← hq]; exact Nat.mul_div_cancel_left k (by omega)
            have hdiv : (q : Int) / (b1 : Int) = (k : Int) := by rw [← hdiv0]; simp
            have hdiv2 : (q : Int).tdiv (b1 : Int) = (k : Int) := by rw [Int.tdiv_eq_ediv_of_nonneg (by omega)]; exact hdiv
            rw [hq] at hnbk HSN hr2
            rw [hq]
            have hb1i : (0 : Int) < (b1 : Int) := by omega
            have hbne : ¬ (b1 : Int) = 0 := by omega
            have hq0 : (0 : Int) ≤ (q : Int) := by omega
            have hkq : k ≤ q := by rw [← hq]; exact Nat.le_mul_of_pos_left _ (by omega)
            have hq1 : 1 ≤ q := by omega
            obtain ⟨e2, he2⟩ : ∃ e2, n + b1 = e2 := ⟨_, rfl⟩
            have m2 : (n : Int) + (b1 : Int) = (e2 : Int) := by omega
            have he2i : (n : Int) ≤ (e2 : Int) := by omega
            have he2c : (e2 : Int) ≤ (cap : Int) := by omega
            have he2n : e2 - n = b1 := by omega
            have HL2 : Hid (((l.drop n).take b1).length = b1) := Lib.hid (by rw [List.length_take, HLEN.out]; omega)
            have HAT : Hid (At W2 (some ⟨g, o + n * 2, none⟩) ((l.drop n).take b1)) := Lib.hid ((drop_at (HA.out.below hbW (Nat.le_refl _)) n).take b1)
            clear hbk hk2 HX HXF HSN0 hdiv0 hq
            generalize (l.drop n).take b1 = lb at *
            have HFL : Hid ((flat lb).length = b1 * 2) := Lib.hid (by rw [flat_length, HL2.out])
            have HFM := Lib.hid (@flat_mem lb)
            have HFA := Lib.hid (flat_at ((HAT.out.alloc (.cells #[] 102)).drew))
            have hrow0 : ((W2.alloc (.cells #[] 102)).drew).ownsRow w.heap.size 102 2 (.slice (some ⟨W2.heap.size, 0, none⟩) 0 0) 0 [] := World.ownsRow_made W2 #[] 0 hzW (Nat.zero_le _) rfl
            clear HAT
            generalize hrsl : rs.length = j' at *
            have HJ := Lib.hid hrsl
            clear hrsl
            have hne2 : n ≤ e2 := by omega
            have hw2 : IntKind.i64.wrap (e2 : Int) = (e2 : Int) := IntWalk.i64_in _ (by omega)
            have hwk : IntKind.i64.wrap (k : Int) = (k : Int) := IntWalk.i64_in _ (by omega)
            clear he2
            rcases hex with ⟨g1, g2⟩ | g1
            all_goals
              go_wp2_with fail
              go_region_law (first
                | (refine step_append_lies _ (by rfl) _ _ _ (by rfl) w.heap.size 102 i0 _ 2 24 Tryd.underlying29 hi0 hz0 hz1 hz2 rfl (by omega) (.slice (some ⟨W2.heap.size, 0, none⟩) 0 0) 0 [] (by rfl) hrow0 ⟨g, o + n * 2, none⟩ b1 (cap - n) (flat lb) (by rfl) HFL.out HFA.out HFM.out (by omega) (by unfold maxLen; omega) (by omega) (by simp; omega) (W2.heap.size + 1) (by simp) ?_; intro gl c2 w1 hown1 hgrow hat hlt1; rw [Nat.zero_add, List.nil_append] at hown1; have ho1 := keep_other ((ho2.alloc (.cells #[] 102)).drew) hrow0 (by decide) hgrow; have hz1' := hgrow.size; simp at hz1')
                | (refine step_append_lies _ (by rfl) _ _ _ (by rfl) w.heap.size 64 i1 _ 2 32 Tryd.underlying53 hi1 hy0 hy1 hy2 rfl (by omega) u5 j' xs (by rfl) (ho1.alloc _) ⟨w1.heap.size, 0, none⟩ 1 1 [.slice (some ⟨gl, 0, none⟩) b1 c2, .int .i64 k] (by rfl) (by rfl) (World.news_of_block (cs := #[.slice (some ⟨gl, 0, none⟩) b1 c2, .int .i64 k]) (t := 64) (fr := (0, 0)) (heap_alloc_new w1 _)) (by simp [Value.oneCell']) (by omega) (by unfold maxLen; omega) (by omega) (by simp; omega) (w1.heap.size + 1) (by simp) ?_; intro gr cr w3 hown3 hgrow3 hat3 hlt3))
              have HGW : Hid (GW w (rs ++ [(lb, (k : Int))]) (.slice (some ⟨gr, 0, none⟩) (j' + 1) cr) w3) := Lib.hid (by
                have hlb : lb.length = b1 := HL2.out
                have hgl : W2.heap.size ≤ gl := by
                  rcases hat with h | h
                  · have : W2.heap.size = gl := by simpa [Value.ownBlock] using h
                    omega
                  · omega
                have hk1 := ((HPR2.out.alloc (.cells #[] 102)).below (Below.refl _ _).drew).kept hgrow (fun jj v g hj hv e => by have := (HLT.out jj v g hj hv).2; simp [Value.ownBlock] at e; omega)
                have hk2 := (hk1.alloc (.cells #[.slice (some ⟨gl, 0, none⟩) b1 c2, .int .i64 k] 64)).other (ho1.alloc (.cells #[.slice (some ⟨gl, 0, none⟩) b1 c2, .int .i64 k] 64)) (by decide) hgrow3
                have ol := keep_other (hown1.alloc (.cells #[.slice (some ⟨gl, 0, none⟩) b1 c2, .int .i64 k] 64)) (ho1.alloc (.cells #[.slice (some ⟨gl, 0, none⟩) b1 c2, .int .i64 k] 64)) (by decide) hgrow3
                have hk3 := hk2.snoc (r := (lb, (k : Int))) (g := gl) (c := c2) (by rw [HJ.out]; exact hxl) (by show w3.ownsRow _ _ _ (.slice _ lb.length _) lb.length _; rw [hlb]; exact ol) (fun jj v g hj hv e => by have := (HLT.out jj v g hj hv).2; simp at e; omega)
                simp only [hlb] at hk3
                refine ⟨⟨_, by rw [HRL.out]; exact hown3, hk3⟩, ?_⟩
                have hb1' : Below w.heap.size w w1 := Below.grown ((hbW.alloc hzW _).drew) hgrow (by simp; omega) (fun j hj => (hrow0.lt j hj).1)
                exact Below.grown (hb1'.alloc hb1'.size _) hgrow3 (by have := hb1'.size; simp; omega) (fun j hj => (ho1.lt j hj).1))
              clear hown1 ho1 hown3 hgrow hgrow3 hat hat3 hrow0 hw2 hwk
              go_wp2_with fail
              go_roundw
              case rel => exact ⟨n + q, _, false, by go_num, rfl, by omega, HSN, HGW.out⟩
              case measure => simp [intOf]; omega
    · have hnl : n = l.length := by omega
      subst hnl
      have HE := Lib.hid HS.out.end
      go_wp2_with fail
      go_ret2
      exact ⟨_, rfl, by rw [HE.out]; exact ⟨⟨xs, ho, hpr⟩, hbw⟩⟩
end Go.Proofs.YtocdinaomkmcbaaDoor
