/-
  The program's Fold.
-/
import Derived.Test.YtocdinaomkmcbaaDoorFH
import Derived.IntWalk
import Derived.Deep.RegionLaw
import Derived.Deep.DrawnRows
namespace Go.Proofs.YtocdinaomkmcbaaDoor
open Go.ChangeShapes Go.WideShapes Go.ChangeAt Go.RowKit Go.Shelf
set_option linter.unusedVariables false

/-- A slice of places from d on. -/
theorem from23 (g o n cap d : Nat) (h1 : d ≤ n) (h2 : n ≤ cap) (l : List Pl) (hl : l.length = n) (W : World) (h : At W (some ⟨g, o, none⟩) l) : At W (if cap = d then some ⟨g, o, none⟩ else some ⟨g, o + d * 2, none⟩) (l.drop d) := by
  split
  · rw [List.drop_of_length_le (by omega)]
    exact fun i p hp => by simp at hp
  · exact drop_at h d
def lenV : Value → Nat
  | .slice _ n _ => n
  | _ => 0
/-- What stands while Fold runs. -/
structure FW (w : World) (rs : List Rn) (v : Value) (W : World) : Prop where
  ex : ∃ xs : List Value, W.ownsRow w.heap.size 58 2 v rs.length xs ∧ RwP 48 w.heap.size 0 W rs xs
  b : Below w.heap.size w W

set_option maxRecDepth 100000 in
set_option maxHeartbeats 4000000 in
theorem fold_good (A : Option Addr) (cap : Nat) (l : List Pl) (w : World) (hA : At w A l) (hcap : l.length ≤ cap) (hc : chk l = 0) (h64 : l.length ≤ 64) :
    Calls Tryd.prog 26 #[.slice A l.length cap] w fun e w' => ∃ v, e = .returned (.tuple #[v, .int .i64 0]) ∧ FW w (fd l) v w' := by
  obtain ⟨i0, hi0, hz0, hz1, hz2⟩ := info_parts info48
  obtain ⟨i1, hi1, hy0, hy1, hy2⟩ := info_parts info58
  have h1 := check_any A cap l w hA (by omega)
  rw [hc] at h1
  have H1 := Lib.hid h1
  have HA := Lib.hid hA
  clear h1 hA hc
  go_enter Tryd.func26, Tryd.ntmps26
  go_wp2_with fail
  refine H1.out.mono ?_
  rintro e W ⟨rfl, hb⟩
  have hz := hb.size
  go_wp2_with fail
  go_loopw [0, 5, 6] (fun t0 t5 t6 wr => ∃ (A' : Option Addr) (c' n : Nat) (rs : List Rn) (al : Bool), t0 = .slice A' (l.length - n) c' ∧ t6 = .bool al ∧ n ≤ l.length ∧ l.length - n ≤ c' ∧ Hid (At w A' (l.drop n)) ∧ Hid (FS l n rs al) ∧ FW w rs t5 wr) (fun t0 _ _ _ => lenV t0)
  case atStart => exact ⟨A, cap, 0, [], false, rfl, rfl, by omega, by omega, Lib.hid (by simpa using HA.out), Lib.hid (FS.start l), ⟨[], World.ownsRow_nil _ _ _ _, RwP.nil _ _ _ _⟩, hb⟩
  case round =>
    obtain ⟨A', c', n, rs, al, rfl, rfl, hn, hc', HA', HS, ⟨xs, ho, hpr⟩, hbw⟩ := hrel
    have hz0' := hbw.size
    by_cases hlt : n < l.length
    · obtain ⟨p, hp⟩ : ∃ p, l[n]? = some p := ⟨_, List.getElem?_eq_getElem hlt⟩
      obtain ⟨g, o, rfl⟩ : ∃ g o, A' = some ⟨g, o, none⟩ := At.some' HA'.out (by simp; omega)
      have hhd : (l.drop n)[0]? = some p := by rw [List.getElem?_drop]; simpa using hp
      obtain ⟨g', o', e', c0w, c1w⟩ := HA'.out 0 p hhd
      injection e' with e'
      injection e' with e1 e2
      subst e1; subst e2
      rw [Nat.zero_mul, Nat.add_zero] at c0w c1w
      have lg := World.block_lt_of_cell? w _ c0w
      have hlen : (l.drop n).length = l.length - n := by simp
      have hcnt := HS.out.cnt
      have H60a := block_any (some ⟨g, o, none⟩) c' (l.drop n) wr (HA'.out.below hbw (Nat.le_refl _)) (by omega) (by omega)
      have hbl := (bst_le (l := l.drop n) (by omega) 8)
      have hb1 := bst_one (l.drop n) 8
      have HSB : Hid (∀ b k, bst (l.drop n) 8 = (b, k) → 2 ≤ k → FS l (n + b * k) (rs ++ [((l.drop n).take b, (k : Int))]) false) := Lib.hid (fun b k h1 h2 => (HS.out.block hlt h1 h2).1)
      rw [hlen] at H60a
      generalize hbk : bst (l.drop n) 8 = bk at *
      obtain ⟨b, k⟩ := bk
      obtain ⟨hbk1, hbk2, hbk3⟩ := hbl
      simp only at hbk1 hbk2 hbk3 H60a
      rw [hlen] at hbk1
      have HBK := Lib.hid hbk
      have H60 := Lib.hid H60a
      have HLEN := Lib.hid hlen
      have hbb : b ≤ b * k := Nat.le_mul_of_pos_right _ (by omega)
      have HA2 : Hid (At w (if c' = b * k then some ⟨g, o, none⟩ else some ⟨g, o + b * k * 2, none⟩) (l.drop (n + b * k))) := Lib.hid (by have := from23 g o (l.length - n) c' (b * k) hbk1 hc' (l.drop n) hlen w HA'.out; rwa [List.drop_drop] at this)
      obtain ⟨q, hq⟩ : ∃ q, b * k = q := ⟨_, rfl⟩
      have hmul : (b : Int) * (k : Int) = (q : Int) := by rw [← hq]; simp
      rw [hq] at HA2 hbk1 hbb
      have hqi : (q : Int) ≤ ((l.length - n : Nat) : Int) := by omega
      have hqs : l.length - n - q = l.length - (n + q) := by omega
      have HQS := Lib.hid hqs
      have HQ := Lib.hid hq
      have hq1 : 1 ≤ q := by omega
      have hcl : Hid (∀ W : World, Below wr.heap.size wr W → Calls Tryd.prog 58 #[.slice (some ⟨g, o, none⟩) b c'] W fun e w' => ∃ g' c2, e = .returned (.slice (some ⟨g', 0, none⟩) b c2) ∧ w'.ownsRow W.heap.size 48 2 (.slice (some ⟨g', 0, none⟩) b c2) b (flat ((l.drop n).take b)) ∧ Below W.heap.size W w' ∧ W.heap.size ≤ g' ∧ g' < w'.heap.size) :=
        Lib.hid (fun W hW => by
          have hl2 : ((l.drop n).take b).length = b := by rw [List.length_take, HLEN.out]; omega
          have := clone_any g o c' ((l.drop n).take b) W (((HA'.out.below hbw (Nat.le_refl _)).below hW (Nat.le_refl _)).take b) (by omega)
          rw [hl2] at this
          refine this.mono fun e w' ⟨v, he, hv, hb'⟩ => ?_
          obtain ⟨g', c2, rfl, f1, f2⟩ := hv.form (by omega)
          exact ⟨g', c2, he, hv, hb', f1, f2⟩)
      clear hbk hlen H60a hq hqs
      by_cases hmore : k = 1 ∧ al = true
      · obtain ⟨rfl, rfl⟩ := hmore
        obtain ⟨rs', ps, rfl⟩ := HS.out.last.1 rfl
        have hb1' : b = 1 := by rcases hb1 with h | h <;> simp at h; exact h
        subst hb1'
        have hqq : q = 1 := by have := HQ.out; omega
        subst hqq
        have HSN := Lib.hid (HS.out.more hp (by rw [HBK.out]))
        have hps : ps.length ≤ 64 := by have := HS.out.few; rw [sum_snoc] at this; simp at this; omega
        have hxl := ho.1
        have hrl : (rs' ++ [(ps, (1 : Int))]).length = rs'.length + 1 := by simp
        rw [hrl] at ho hxl hcnt
        obtain ⟨g0, cc0, x0, x1, o0, x2⟩ := hpr rs'.length (ps, 1) (Nat.zero_le _) (by simp)
        obtain ⟨gr, cr, rfl, r1, r2⟩ := ho.form (by omega)
        have HPR := Lib.hid hpr
        have HX0 := Lib.hid x0
        have HX1 := Lib.hid x1
        have HX2 := Lib.hid x2
        have cP := (ho.cellAt (rs'.length * 2) (by omega)).trans x0
        have fP := ho.frozenAt (rs'.length * 2)
        simp only at o0 cP
        clear hpr x0 x1 x2 hb1 hrl HBK hcl
        generalize hj : rs'.length = j at *
        generalize hpl : ps.length = pl at *
        have HJ := Lib.hid hj
        have HPL := Lib.hid hpl
        clear hj hpl
        have hj0 : (0 : Int) ≤ (j : Int) := Int.natCast_nonneg _
        go_wp2_with fail
        refine H60.out.mono ?_
        rintro e W2 ⟨rfl, hW2⟩
        have hb2 : Below wr.heap.size wr W2 := by obtain ⟨m, e⟩ := hW2; rw [e]; exact below_drewN _ _ _ (Nat.le_refl _)
        clear hW2
        have hbW := hbw.trans (hb2.mono hz0')
        have ho2 := own_below ho hb2
        have o2 := own_below o0 hb2
        have HPR2 := Lib.hid (HPR.out.below hb2)
        have cP2 := cell_below cP hb2 (Nat.le_refl _)
        have fP2 := ho2.frozenAt (j * 2)
        have c0 := cell_below c0w hbW (Nat.le_refl _)
        have c1 := cell_below c1w hbW (Nat.le_refl _)
        have hzW := hbW.size
        clear ho o0 cP fP c0w c1w HPR
        have hF := Lib.hid (show flat (ps ++ [p]) = flat ps ++ cel p from flat_snoc ps p)
        have hcc := own_cap o2
        have cPa := cell_below cP2 ((Below.refl _ W2).alloc (Nat.le_refl _) (.cells #[.string p.1, .int .i64 p.2] 48)) (Nat.le_refl _)
        go_wp2_with fail
        go_region_law (refine step_append_lies _ (by rfl) _ _ _ (by rfl) w.heap.size 48 i0 _ 2 24 Tryd.underlying23 hi0 hz0 hz1 hz2 rfl (by omega) (.slice (some ⟨g0, 0, none⟩) pl cc0) pl (flat ps) (by rfl) ((o2.alloc _).drew) ⟨W2.heap.size, 0, none⟩ 1 1 (cel p) (by rfl) (by rfl) (World.news_of_block (cs := #[.string p.1, .int .i64 p.2]) (t := 48) (fr := (0, 0)) (heap_alloc_new W2 _)) (by simp [cel, Value.oneCell']) (by omega) (by unfold maxLen; omega) (by omega) (by simp; omega) (W2.heap.size + 1) (by simp) ?_; intro gg cap' w1 hown1 hgrow hat hlt1; have ho1 := keep_other ((ho2.alloc (.cells #[.string p.1, .int .i64 p.2] 48)).drew) ((o2.alloc (.cells #[.string p.1, .int .i64 p.2] 48)).drew) (by decide) hgrow; have c9 := (ho1.cellAt (j * 2) (by omega)).trans HX0.out; have f9 := ho1.frozenAt (j * 2))
        all_goals
          have hst := ho1.stored (j * 2) (.slice (some ⟨gg, 0, none⟩) (pl + 1) cap')
          have hrn : gg = g0 ∨ (W2.alloc (Obj.cells #[Value.string p.fst, Value.int IntKind.i64 p.snd] 48)).drew.heap.size ≤ gg := by
            rcases hat with h | h
            · exact .inl (by simpa [Value.ownBlock] using h.symm)
            · exact .inr (by simp; omega)
          have HFW : Hid (FW w (rs' ++ [(ps ++ [p], (1 : Int))]) (.slice (some ⟨gr, 0, none⟩) (j + 1) cr) (w1.setCell ⟨gr, j * 2, none⟩ (.slice (some ⟨gg, 0, none⟩) (pl + 1) cap'))) := Lib.hid (by
            have hlp : (ps ++ [p]).length = pl + 1 := by simp [HPL.out]
            have hjr : rs'.length = j := HJ.out
            have hxx : xs.length = (rs'.length + 1) * 2 := by rw [hjr]; exact hxl
            have e1 : (rs' ++ [(ps ++ [p], (1 : Int))]).length = j + 1 := by simp [hjr]
            have hk1 := ((HPR2.out.alloc (.cells #[.string p.1, .int .i64 p.2] 48)).below (Below.refl _ _).drew)
            have hk2 := hk1.last (r := (ps, 1)) (r' := (ps ++ [p], 1)) (g0 := g0) (c0 := cc0) (g := gg) (c := cap') hxx (by rw [hjr]; show _ = some (Value.slice _ ps.length _); rw [HPL.out]; exact HX0.out) hgrow (by show w1.ownsRow _ _ _ (.slice _ (ps ++ [p]).length _) (ps ++ [p]).length (flat (ps ++ [p])); rw [hlp, hF.out]; exact hown1) hrn rfl
            rw [hjr, show (ps ++ [p], (1 : Int)).1.length = pl + 1 from hlp] at hk2
            refine ⟨⟨_, by rw [e1]; exact hst.1, hk2.other ho1 (by decide) hst.2⟩, ?_⟩
            exact Below.grown (Below.grown ((hbW.alloc hzW _).drew) hgrow (by simp; omega) (fun j hj => (o2.lt j hj).1)) hst.2 (by have := hgrow.size; simp at this; omega) (fun j hj => (ho1.lt j hj).1))
          clear hst ho1 hown1 hgrow hat c9 f9 hrn
          go_wp2_with fail
          go_roundw
          case rel => exact ⟨_, c' - 1, n + 1, _, true, by rw [← HQS.out], rfl, by omega, by omega, HA2, HSN, HFW.out⟩
          case measure => simp [lenV]; omega
      · have hxl := ho.1
        have HLT := Lib.hid (hpr.lt hxl)
        have HPR := Lib.hid hpr
        have HRL : Hid (∀ r : Rn, (rs ++ [r]).length = rs.length + 1) := Lib.hid (fun r => by simp)
        have HL2 : Hid (((l.drop n).take b).length = b) := Lib.hid (by rw [List.length_take, HLEN.out]; omega)
        have HSN : Hid (FS l (n + q) (rs ++ [((l.drop n).take b, (k : Int))]) (decide (k = 1))) := Lib.hid (by
          by_cases hk1 : k = 1
          · subst hk1
            have hb1' : b = 1 := by rcases hb1 with h | h <;> simp at h; exact h
            subst hb1'
            have hal : al = false := by cases al with | false => rfl | true => exact absurd ⟨rfl, rfl⟩ hmore
            subst hal
            have hq1' := HQ.out
            simp only [Nat.mul_one] at hq1'
            subst hq1'
            have := HS.out.first hp (by rw [HBK.out])
            rw [drop_head hp]
            exact this
          · rw [decide_eq_false hk1, ← HQ.out]
            exact HSB.out b k rfl (by omega))
        clear hpr hmul hb1 HSB
        generalize (l.drop n).take b = lb at *
        generalize hj : rs.length = j at *
        have HJ := Lib.hid hj
        clear hj
        have HK1 : Hid (k = 1 → al = false) := Lib.hid (fun h => by cases al with | false => rfl | true => exact absurd ⟨h, rfl⟩ hmore)
        have hmul : (b : Int) * (k : Int) = (q : Int) := by rw [← HQ.out]; simp
        clear hmore
        by_cases hk1 : k = 1
        · have hal := HK1.out hk1
          subst hal
          subst hk1
          have hbq : b = q := by have := HQ.out; omega
          subst hbq
          go_wp2_with fail
          refine H60.out.mono ?_
          rintro e W2 ⟨rfl, hW2⟩
          have hb2 : Below wr.heap.size wr W2 := by obtain ⟨m, e⟩ := hW2; rw [e]; exact below_drewN _ _ _ (Nat.le_refl _)
          clear hW2
          have hbW := hbw.trans (hb2.mono hz0')
          have hzW := hbW.size
          go_wp2_with fail
          refine (hcl.out _ hb2).mono ?_
          rintro e W3 ⟨gl, c2, rfl, ol, hb3, f1, f2⟩
          have hb23 := hb2.trans (hb3.mono hb2.size)
          have ho3 := own_below ho hb23
          have hbW3 := hbW.trans (hb3.mono hzW)
          have hz3 := hbW3.size
          have hz23 := hb2.size
          go_wp2_with (at_builtin; refine wpList_append_lies _ rfl _ _ _ rfl w.heap.size 58 i1 _ 2 32 Tryd.underlying50 hi1 hy0 hy1 hy2 rfl (by omega) u5 j xs rfl (ho3.alloc _) ⟨W3.heap.size, 0, none⟩ 1 1 [.slice (some ⟨gl, 0, none⟩) b c2, .int .i64 1] rfl rfl (World.news_of_block (cs := #[.slice (some ⟨gl, 0, none⟩) b c2, .int .i64 1]) (t := 58) (fr := (0, 0)) (heap_alloc_new W3 _)) (by simp [Value.oneCell']) (by omega) (by unfold maxLen; omega) (by omega) (by simp; omega) (W3.heap.size + 1) (by simp) ?_; intro gg cap' w1 hown1 hgrow hat hlt1)
          have HFW : Hid (FW w (rs ++ [(lb, 1)]) (.slice (some ⟨gg, 0, none⟩) (j + 1) cap') w1) := Lib.hid (by
            have hlb : lb.length = b := HL2.out
            have ho4 := ho3.alloc (.cells #[.slice (some ⟨gl, 0, none⟩) b c2, .int .i64 1] 58)
            have ol1 := own_base (keep_other (ol.alloc (.cells #[.slice (some ⟨gl, 0, none⟩) b c2, .int .i64 1] 58)) ho4 (by decide) hgrow) hzW
            have hk1 := ((HPR.out.below hb23).alloc (.cells #[.slice (some ⟨gl, 0, none⟩) b c2, .int .i64 1] 58)).other ho4 (by decide) hgrow
            have hk2 := hk1.snoc (r := (lb, 1)) (g := gl) (c := c2) (by rw [HJ.out]; exact hxl) (by show w1.ownsRow _ _ _ (.slice _ lb.length _) lb.length _; rw [hlb]; exact ol1) (fun jj v g hj hv e => by have := (HLT.out jj v g hj hv).2; simp at e; omega)
            simp only [hlb] at hk2
            refine ⟨⟨_, by rw [HRL.out]; exact hown1, hk2⟩, ?_⟩
            exact Below.grown (hbW3.alloc hz3 _) hgrow (by simp; omega) (fun j hj => (ho3.lt j hj).1))
          clear ho ho3 hown1 hgrow hat ol hcl
          go_wp2_with fail
          go_roundw
          case rel => exact ⟨_, c' - b, n + b, _, _, by rw [← HQS.out], rfl, by omega, by omega, HA2, HSN, HFW.out⟩
          case measure => simp [lenV]; omega
        · have hk1i : ¬ (k : Int) = 1 := by omega
          have hk1b : ((k : Int) == 1) = false := beq_eq_false_iff_ne.2 hk1i
          have hk1d : decide (k = 1) = false := decide_eq_false hk1
          rw [hk1d] at HSN
          clear hk1d
          go_wp2_with fail
          refine H60.out.mono ?_
          rintro e W2 ⟨rfl, hW2⟩
          have hb2 : Below wr.heap.size wr W2 := by obtain ⟨m, e⟩ := hW2; rw [e]; exact below_drewN _ _ _ (Nat.le_refl _)
          clear hW2
          have hbW := hbw.trans (hb2.mono hz0')
          have hzW := hbW.size
          go_wp2_with fail
          refine (hcl.out _ hb2).mono ?_
          rintro e W3 ⟨gl, c2, rfl, ol, hb3, f1, f2⟩
          have hb23 := hb2.trans (hb3.mono hb2.size)
          have ho3 := own_below ho hb23
          have hbW3 := hbW.trans (hb3.mono hzW)
          have hz3 := hbW3.size
          have hz23 := hb2.size
          go_wp2_with (at_builtin; refine wpList_append_lies _ rfl _ _ _ rfl w.heap.size 58 i1 _ 2 32 Tryd.underlying50 hi1 hy0 hy1 hy2 rfl (by omega) u5 j xs rfl (ho3.alloc _) ⟨W3.heap.size, 0, none⟩ 1 1 [.slice (some ⟨gl, 0, none⟩) b c2, .int .i64 k] rfl rfl (World.news_of_block (cs := #[.slice (some ⟨gl, 0, none⟩) b c2, .int .i64 k]) (t := 58) (fr := (0, 0)) (heap_alloc_new W3 _)) (by simp [Value.oneCell']) (by omega) (by unfold maxLen; omega) (by omega) (by simp; omega) (W3.heap.size + 1) (by simp) ?_; intro gg cap' w1 hown1 hgrow hat hlt1)
          have HFW : Hid (FW w (rs ++ [(lb, (k : Int))]) (.slice (some ⟨gg, 0, none⟩) (j + 1) cap') w1) := Lib.hid (by
            have hlb : lb.length = b := HL2.out
            have ho4 := ho3.alloc (.cells #[.slice (some ⟨gl, 0, none⟩) b c2, .int .i64 k] 58)
            have ol1 := own_base (keep_other (ol.alloc (.cells #[.slice (some ⟨gl, 0, none⟩) b c2, .int .i64 k] 58)) ho4 (by decide) hgrow) hzW
            have hk1 := ((HPR.out.below hb23).alloc (.cells #[.slice (some ⟨gl, 0, none⟩) b c2, .int .i64 k] 58)).other ho4 (by decide) hgrow
            have hk2 := hk1.snoc (r := (lb, (k : Int))) (g := gl) (c := c2) (by rw [HJ.out]; exact hxl) (by show w1.ownsRow _ _ _ (.slice _ lb.length _) lb.length _; rw [hlb]; exact ol1) (fun jj v g hj hv e => by have := (HLT.out jj v g hj hv).2; simp at e; omega)
            simp only [hlb] at hk2
            refine ⟨⟨_, by rw [HRL.out]; exact hown1, hk2⟩, ?_⟩
            exact Below.grown (hbW3.alloc hz3 _) hgrow (by simp; omega) (fun j hj => (ho3.lt j hj).1))
          clear ho ho3 hown1 hgrow hat ol hcl
          go_wp2_with fail
          go_roundw
          case rel => exact ⟨_, c' - q, n + q, _, _, by rw [← HQS.out], rfl, by omega, by omega, HA2, HSN, HFW.out⟩
          case measure => simp [lenV]; omega
    · have hnl : n = l.length := by omega
      subst hnl
      have HE := Lib.hid HS.out.end
      go_wp2_with fail
      go_ret2
      exact ⟨_, rfl, by rw [HE.out]; exact ⟨⟨xs, ho, hpr⟩, hbw⟩⟩
end Go.Proofs.YtocdinaomkmcbaaDoor
