/-
  PlaceTrims: the law's walk.
-/
import Derived.Test.YtocdinaomkmcbaaDoorW
namespace Go.Proofs.YtocdinaomkmcbaaDoor
open Go.ChangeShapes Go.WideShapes Go.ChangeAt Go.RowKit Go.Shelf
set_option linter.unusedVariables false

theorem own_over {w w' : World} {B e size n : Nat} {v : Value} {xs : List Value} {row : Option Nat} (h : w.ownsRow B e size v n xs) (hg : w.grownBy w' row) (hr : ∀ j, row = some j → j < B) : w'.ownsRow B e size v n xs := by
  refine h.kept hg ?_
  cases hv : v.ownBlock with
  | none => exact .inl rfl
  | some i =>
    refine .inr fun e => ?_
    have := hr i e.symm
    have := (h.lt i hv).1
    omega
theorem own_under {w w' : World} {B e size n : Nat} {v : Value} {xs : List Value} {row : Option Nat} (h : w.ownsRow B e size v n xs) (hg : w.grownBy w' row) (g : Nat) (hv : v.ownBlock = some g) (hr : ∀ j, row = some j → g < j) : w'.ownsRow B e size v n xs := by
  refine h.kept hg (.inr fun e => ?_)
  have := hr g (e.symm.trans hv)
  omega
theorem trR_len (l : List Pl) (ps : List ByteArray) : (trR l ps).length ≤ l.length := by
  unfold trR trm
  split
  · rw [List.length_take]; omega
  · simp
theorem strs_len (ps : List ByteArray) : (strs ps).length = ps.length := by simp [strs]
theorem strs_one (ps : List ByteArray) : ∀ u ∈ strs ps, u.oneCell' = true := by
  intro u hu
  obtain ⟨s, _, rfl⟩ := List.mem_map.1 hu
  rfl

set_option maxRecDepth 100000 in
set_option maxHeartbeats 8000000 in
theorem trims_any (A B : Option Addr) (ca cb : Nat) (l : List Pl) (ps : List ByteArray) (w : World) (hA : At w A l) (hB : AtS w B ps) (hB0 : B = none → ps.length = 0 ∧ cb = 0) (hn : l.length ≤ 5864062014634) (hm : ps.length ≤ 8796093022207) (hE : Env w) (h3 : 3 ≤ w.heap.size) :
    Calls Tryd.prog 4 #[.slice A l.length ca, .slice B ps.length cb] w fun e w' => e = .returned (.bool true) ∧ Below w.heap.size w w' := by
  obtain ⟨i0, hi0, hz0, hz1, hz2⟩ := info_parts info9
  have K10 := Lib.hid (lent_any A ca l w hA hn)
  have K24 := Lib.hid (fun (g c : Nat) (A' : Option Addr) (c' : Nat) (W : World) (h1 : At W (some ⟨g, 0, none⟩) l) (h2 : AtS W A' ps) (h3 : l.length ≤ c) => trim_u g 0 c c' A' l ps W h1 h2 hn hm h3)
  have K13 := Lib.hid (fun (W : World) (h1 : Below w.heap.size w W) => ref_any A ca l W (hA.below h1 (Nat.le_refl _)) hn)
  have K25 := Lib.hid (fun (v : Value) (base : Nat) (W : World) (h1 : W.ownsRow base 102 2 v l.length (flat l)) (h2 : Below w.heap.size w W) =>
    show Calls Tryd.prog 25 #[v, .slice B ps.length cb] W fun e w' => ∃ v, e = .returned (.tuple #[v, .int .i64 (chk l)]) ∧ w'.ownsRow W.heap.size 102 2 v (trR l ps).length (flat (trR l ps)) ∧ Below W.heap.size W w' by
      obtain ⟨A', c', rfl, _, _⟩ := own_form h1
      exact rtrim_u A' B c' cb base l ps W h1 (hB.below h2 (Nat.le_refl _)) hn hm)
  have hq := trR_len l ps
  have K21 := Lib.hid (fun (v1 v2 : Value) (e1 e2 B1 B2 : Nat) (W : World) (h1 : W.ownsRow B1 e1 2 v1 (trR l ps).length (flat (trR l ps))) (h2 : W.ownsRow B2 e2 2 v2 (trR l ps).length (flat (trR l ps))) =>
    show Calls Tryd.prog 21 #[v1, v2] W fun e w' => e = .returned (.bool true) ∧ ∃ m, w' = W.drewN m by
      obtain ⟨A1, c1, rfl, a1, _⟩ := own_form h1
      obtain ⟨A2, c2, rfl, a2, _⟩ := own_form h2
      exact same_any A1 A2 c1 c2 _ W a1 a2 (by omega))
  have K18 := Lib.hid (fun (B1 g c : Nat) (W : World) (h1 : Below w.heap.size w W) (h2 : W.ownsRow B1 48 2 (.slice (some ⟨g, 0, none⟩) (l.length + 1) c) (l.length + 1) (flat (l ++ [markP]))) => kept_any A B1 g c ca l W (hA.below h1 (Nat.le_refl _)) hn h2)
  have K22 := Lib.hid (fun (v : Value) (B1 : Nat) (W : World) (h1 : W.ownsRow B1 48 2 v (trR l ps).length (flat (trR l ps))) (h2 : B1 ≤ W.heap.size) => spoil_any v B1 _ _ W h1 h2 (by omega))
  have K24' := Lib.hid (fun (g c : Nat) (A' : Option Addr) (c' : Nat) (W : World) (h1 : At W (some ⟨g, 0, none⟩) (libP l.length)) (h2 : AtS W A' [libD]) (h3 : l.length ≤ c) =>
    show Calls Tryd.prog 24 #[.slice (some ⟨g, 0, none⟩) l.length c, .slice A' 1 c'] W fun e w' => ∃ A2 c2, e = .returned (.tuple #[.slice A2 0 c2, .int .i64 (chk (libP l.length))]) ∧ Below W.heap.size W w' by
      have := trim_u g 0 c c' A' (libP l.length) [libD] W h1 h2 (by rw [libP_len]; exact hn) (by simp) (by rw [libP_len]; exact h3)
      rw [libP_len, lib_trm] at this
      refine this.mono ?_
      rintro e w' ⟨v, rfl, ho, hb⟩
      obtain ⟨A2, c2, rfl, _, _⟩ := own_form (l := []) ho
      exact ⟨A2, c2, rfl, hb⟩)
  have K23 := Lib.hid (fun (W : World) (h1 : Below w.heap.size w W) => alive_any W (hE.below h1 (Nat.le_refl _)) (Nat.le_trans h3 h1.size))
  have KA := Lib.hid (fun (W : World) (h1 : Below w.heap.size w W) => hB.below h1 (Nat.le_refl _))
  have KL := Lib.hid (lib_chk l.length)
  have KS := Lib.hid (⟨strs_len ps, strs_one ps⟩ : (strs ps).length = ps.length ∧ ∀ u ∈ strs ps, u.oneCell' = true)
  clear hA hE
  generalize hcl : chk (libP l.length) = cl at *
  generalize hck : chk l = ck at *
  generalize hR : trR l ps = R at *
  clear hcl hck hR
  go_enter Tryd.func4, Tryd.ntmps4
  go_wp2_with fail
  refine K10.out.mono ?_
  rintro e W1 ⟨g, c1, rfl, oa, b1⟩
  obtain ⟨hc1, hc2⟩ := own_cap oa
  have z1 := b1.size
  have lg : g < W1.heap.size := (oa.lt g rfl).2
  have HB1 := Lib.hid (fun (ad : Addr) (h : B = some ad) => ats_news (w := W1.alloc (.cells #[] 9)) (ad := ad) (l := ps) (by rw [← h]; exact KA.out (W1.alloc (.cells #[] 9)) (b1.alloc z1 _)))
  have op0 : (W1.alloc (.cells #[] 9)).ownsRow W1.heap.size 9 1 (.slice (some ⟨W1.heap.size, 0, none⟩) 0 0) 0 [] := World.ownsRow_made W1 #[] 0 (Nat.le_refl _) (Nat.zero_le _) rfl
  go_wp2_with (first
    | (at_builtin; refine append_src rfl _ _ 44 rfl W1.heap.size 9 i0 _ 1 16 Tryd.underlying44 hi0 hz0 hz1 hz2 rfl (by decide) (.slice (some ⟨W1.heap.size, 0, none⟩) 0 0) 0 [] rfl op0 B ps.length cb (strs ps) rfl (by rw [KS.out.1]; omega) hB0 HB1.out KS.out.2 (by unfold maxLen; omega) (by omega) (by simp) ?_; intro vp W2 op1 g2)
    | (at_builtin; refine wpList_append_lies _ rfl _ _ 44 rfl W1.heap.size 9 i0 _ 1 16 Tryd.underlying44 hi0 hz0 hz1 hz2 rfl (by omega) vp (0 + ps.length) ([] ++ strs ps) rfl (op1.alloc _) ⟨W2.heap.size, 0, none⟩ 1 1 [.string ⟨#[35]⟩] rfl rfl (World.news_of_block (cs := #[.string ⟨#[35]⟩]) (t := 9) (fr := (0, 0)) (heap_alloc_new W2 _)) (by simp [Value.oneCell']) (by omega) (by unfold maxLen; omega) (by omega) (by have := g2.size; simp at this ⊢; omega) (W2.heap.size + 1) (by simp) ?_; intro h cp W3 op2 g3 hat hlt3; obtain ⟨hp1, hp2⟩ := own_cap op2; have hp3 : ps.length ≤ cp := by omega))
  have hz2 := g2.size
  have hz3 := g3.size
  simp only [World.size_alloc] at hz2 hz3
  have b3 : Below W1.heap.size W1 W3 := by
    have x1 : Below W1.heap.size W1 W2 := Below.grown ((Below.refl _ W1).alloc (Nat.le_refl _) _) g2 (by simp) (fun j hj => by simp [Value.ownBlock] at hj; omega)
    exact Below.grown (x1.alloc (by omega) _) g3 (by simp; omega) (fun j hj => (op1.lt j hj).1)
  have oa3 := own_below oa b3
  have t3 := b1.trans (b3.mono z1)
  have m3 := (mark_cells oa3).1
  have as3 : AtS W3 (some ⟨h, 0, none⟩) ps := ats_own op2 (fun j u hu => by rw [List.nil_append, List.getElem?_append_left (List.getElem?_eq_some_iff.1 hu).1]; exact hu) (by omega)
  refine (K24.out g c1 (some ⟨h, 0, none⟩) cp W3 m3 as3 (by omega)).mono ?_
  rintro e W4 ⟨x, rfl, ox, b4⟩
  have z4 := b4.size
  have t4 := t3.trans (b4.mono t3.size)
  go_wp2_with fail
  refine (K13.out W4 t4).mono ?_
  rintro e W5 ⟨rv, rfl, orr, b5⟩
  have z5 := b5.size
  have t5 := t4.trans (b5.mono t4.size)
  go_wp2_with fail
  refine (K25.out rv _ W5 orr t5).mono ?_
  rintro e W6 ⟨y, rfl, oy, b6⟩
  have z6 := b6.size
  have t6 := t5.trans (b6.mono t5.size)
  have c36 := (b4.trans (b5.mono z4)).trans (b6.mono (by omega))
  have oa6 := own_below oa3 c36
  have op6 := own_below op2 c36
  have as6 : AtS W6 (some ⟨h, 0, none⟩) ps := as3.below c36 (Nat.le_refl _)
  go_wp2_with fail
  refine (K24.out g c1 (some ⟨h, 0, none⟩) cp W6 (mark_cells oa6).1 as6 (by omega)).mono ?_
  rintro e W7 ⟨z, rfl, oz, b7⟩
  have z7 := b7.size
  have t7 := t6.trans (b7.mono t6.size)
  have oa7 := own_below oa6 b7
  have op7 := own_below op6 b7
  have oy7 := own_below oy b7
  have ox7 := own_below ox ((b5.trans (b6.mono z5)).trans (b7.mono (by omega)))
  clear m3 as3 as6 oa3 oa6 op6 op1 op0 oa orr
  go_wp2_with fail
  refine (K21.out x y 48 102 _ _ W7 ox7 oy7).mono ?_
  rintro e W8 ⟨rfl, j8, rfl⟩
  have e8 := below_drewN W7.heap.size W7 j8 (Nat.le_refl _)
  have t8 := t7.trans (e8.mono t7.size)
  have oa8 := own_below oa7 e8
  go_wp2_with fail
  refine (K18.out _ g c1 _ t8 oa8).mono ?_
  rintro e W9 ⟨rfl, b9⟩
  have b9' : Below W7.heap.size W7 W9 := e8.trans b9
  have z9 := b9'.size
  have t9 := t7.trans (b9'.mono t7.size)
  have oa9 := own_below oa7 b9'
  have op9 := own_below op7 b9'
  have ox9 := own_below ox7 b9'
  have oy9 := own_below oy7 b9'
  have oz9 := own_below oz b9'
  have as9 := ats_own (l := ps) op9 (fun j u hu => by rw [List.nil_append, List.getElem?_append_left (List.getElem?_eq_some_iff.1 hu).1]; exact hu) (by omega)
  have dm : W9.cell? ⟨h, ps.length, none⟩ = some (.string ⟨#[35]⟩) := by
    rw [op9.cellAt _ (by omega), List.nil_append, List.getElem?_append_right (by rw [KS.out.1]; omega), KS.out.1]; simp
  have hp4 : (ps.length : Int) < (cp : Int) := by omega
  have t9' := KA.out W9 t9
  clear oa7 oa8 op7 oy7 ox7 oz
  go_wp2_with fail
  go_loopw [13] (fun t wr => ∃ k m : Nat, t = .int .i64 k ∧ k ≤ ps.length ∧ wr = W9.drewN m) (fun t _ => ps.length - (intOf t).toNat)
  case atStart => exact ⟨0, 0, rfl, by omega, rfl⟩
  case round =>
    obtain ⟨k, j9, rfl, hk, rfl⟩ := hrel
    by_cases hlt : k < ps.length
    · obtain ⟨s, hs⟩ : ∃ s, ps[k]? = some s := ⟨_, List.getElem?_eq_getElem hlt⟩
      obtain ⟨gp, o', e1, q0⟩ := as9 k s hs
      obtain ⟨rfl, rfl⟩ : h = gp ∧ 0 = o' := by injection e1 with e1; injection e1 with e1 e2; exact ⟨e1, e2⟩
      obtain ⟨gb, ob, e2, q1⟩ := t9' k s hs
      have hk0 : (0 : Int) ≤ (k : Int) := Int.natCast_nonneg _
      have hk1 : (k : Int) < (ps.length : Int) := by omega
      have hk2 : (k : Int) < (ps.length : Int) + 1 := by omega
      subst e2
      rw [Nat.zero_add] at q0
      clear hs as9 t9' e1
      go_wp2_with fail
      go_quiet (fail)
      go_wp2
      go_roundw
      case rel => exact ⟨k + 1, _, by go_num, by omega, rfl⟩
      case measure => simp [intOf]; omega
    · clear as9 t9' dm
      have e9 := below_drewN W9.heap.size W9 j9 (Nat.le_refl _)
      have t9 := t9.trans (e9.mono t9.size)
      have oa9 := own_below oa9 e9
      have ox9 := own_below ox9 e9
      have oy9 := own_below oy9 e9
      have oz9 := own_below oz9 e9
      have z9' := e9.size
      go_wp2_with fail
      refine (K22.out x _ _ ox9 (by omega)).mono ?_
      rintro e W10 ⟨⟨u, rfl⟩, g10⟩
      have z10 := g10.size
      have xlo : ∀ j, x.ownBlock = some j → W3.heap.size ≤ j ∧ j < W4.heap.size := fun j hj => ⟨(ox9.lt j hj).1, (ox.lt j hj).2⟩
      have t10 : Below w.heap.size w W10 := Below.grown t9 g10 (by omega) (fun j hj => by have := (xlo j hj).1; omega)
      have oy10 := own_over oy9 g10 (fun j hj => by have := (xlo j hj).2; omega)
      have oz10 := own_over oz9 g10 (fun j hj => by have := (xlo j hj).2; omega)
      have oa10 := own_under oa9 g10 g rfl (fun j hj => by have := (xlo j hj).1; omega)
      clear oy9 oz9 oa9 ox9
      go_wp2_with fail
      refine (K21.out z y 48 102 _ _ W10 oz10 oy10).mono ?_
      rintro e W11 ⟨rfl, j11, rfl⟩
      have e11 := below_drewN W10.heap.size W10 j11 (Nat.le_refl _)
      have t11 := t10.trans (e11.mono t10.size)
      have oa11 := own_below oa10 e11
      go_wp2_with fail
      refine (K18.out _ g c1 _ t11 oa11).mono ?_
      rintro e W12 ⟨rfl, b12⟩
      have b12' : Below W10.heap.size W10 W12 := e11.trans b12
      have z12 := b12'.size
      have t12 := t10.trans (b12'.mono t10.size)
      have oa12 := own_below oa10 b12'
      have oy12 := own_below oy10 b12'
      have oz12 := own_below oz10 b12'
      clear oa10 oa11 oy10 oz10
      go_wp2_with fail
      go_loopw [14] (fun t wr => ∃ (k : Nat) (L : List Pl), t = .int .i64 k ∧ k ≤ l.length ∧ L.length = l.length + 1 ∧ (∀ j, j < k → L[j]? = some ((libX, (j : Int)) : Pl)) ∧ wr.ownsRow w.heap.size 48 2 (.slice (some ⟨g, 0, none⟩) (l.length + 1) c1) (l.length + 1) (flat L) ∧ W12.grownBy wr (some g)) (fun t _ => l.length - (intOf t).toNat)
      case atStart => exact ⟨0, _, rfl, by omega, by simp, fun j hj => by omega, oa12, World.grownBy.refl _ _⟩
      case round =>
        obtain ⟨i, L, rfl, hi, hL, hLj, ho, hg⟩ := hrel
        by_cases hlt : i < l.length
        · have hl := ho.1
          have c0 := ho.cellAt (i * 2) (by omega)
          have c1' := ho.cellAt (i * 2 + 1) (by omega)
          have f0 := ho.frozenAt (i * 2)
          have f1 := ho.frozenAt (i * 2 + 1)
          rw [List.getElem?_eq_getElem (by omega)] at c0 c1'
          obtain ⟨x0, hx0⟩ : ∃ x, (flat L)[i * 2] = x := ⟨_, rfl⟩
          obtain ⟨x1, hx1⟩ : ∃ x, (flat L)[i * 2 + 1] = x := ⟨_, rfl⟩
          rw [hx0] at c0
          rw [hx1] at c1'
          clear hx0 hx1 hl
          have hi0 : (0 : Int) ≤ (i : Int) := Int.natCast_nonneg _
          have hi1 : (i : Int) < (l.length : Int) := by omega
          have HP := Lib.hid (own_put ho hL i (by omega) ((libX, (i : Int)) : Pl))
          have HJ : Hid (∀ j, j < i + 1 → (L.set i ((libX, (i : Int)) : Pl))[j]? = some ((libX, (j : Int)) : Pl)) := Lib.hid (fun j hj => by
            rw [List.getElem?_set]
            split
            · rename_i h
              subst h
              rw [if_pos (by omega)]
            · exact hLj j (by omega))
          clear ho hLj
          go_wp2_with fail
          go_roundw
          case rel => exact ⟨i + 1, L.set i (libX, (i : Int)), by go_num, by omega, by simp [hL], HJ.out, HP.out.1, grown_trans hg HP.out.2 (fun j e => .inl e)⟩
          case measure => simp [intOf]; omega
        · have hin : i = l.length := by omega
          subst hin
          have hgz := hg.size
          have t13 : Below w.heap.size w wr := Below.grown t12 hg (by omega) (fun j hj => by cases hj; exact (oa12.lt _ rfl).1)
          have oy13 := own_over oy12 hg (fun j hj => by cases hj; omega)
          have oz13 := own_over oz12 hg (fun j hj => by cases hj; omega)
          have ml : At wr (some ⟨g, 0, none⟩) (libP l.length) := at_own ho (fun j u hu => by
            have hjl := (List.getElem?_eq_some_iff.1 hu).1
            rw [flat_length, libP_len] at hjl
            have e1 := flat_get _ (j / 2) _ (libP_get (n := l.length) (by omega))
            have e2 := flat_get _ (j / 2) _ (hLj (j / 2) (by omega))
            rcases Nat.mod_two_eq_zero_or_one j with h0 | h0
            · rw [show j / 2 * 2 = j by omega] at e1 e2
              rw [e2.1, ← e1.1]; exact hu
            · rw [show j / 2 * 2 + 1 = j by omega] at e1 e2
              rw [e2.2, ← e1.2]; exact hu) (by rw [libP_len]; omega)
          clear oy12 oz12 oa12 ho hg hLj
          have hk : (cl = 0 ∧ l.length ≤ 64) ∨ (cl ≠ 0 ∧ 64 < l.length) := by
            have := KL.out
            by_cases h : l.length ≤ 64
            · rw [decide_eq_true h] at this; exact .inl ⟨by simpa using this, h⟩
            · rw [decide_eq_false h] at this; exact .inr ⟨by simpa using this, by omega⟩
          go_wp2_with fail
          refine (K24'.out g c1 (some ⟨wr.heap.size, 0, none⟩) 1 (wr.alloc (.cells #[.string libD] 9)) (ml.alloc _) (fun i s hs => by
            match i, hs with
            | 0, hs => simp at hs; subst hs; exact ⟨_, 0, rfl, by simp⟩
            | i + 1, hs => simp at hs) (by omega)).mono ?_
          rintro e W14 ⟨A2, c2, rfl, b14⟩
          have b14' : Below wr.heap.size wr W14 := ((Below.refl _ wr).alloc (Nat.le_refl _) _).trans (b14.mono (by simp))
          have z14 := b14'.size
          have t14 := t13.trans (b14'.mono t13.size)
          have oy14 := own_below oy13 b14'
          have oz14 := own_below oz13 b14'
          clear oy13 oz13 ml
          go_wp2_with fail
          refine (K21.out z y 48 102 _ _ W14 oz14 oy14).mono ?_
          rintro e W15 ⟨rfl, j15, rfl⟩
          have t15 := t14.trans ((below_drewN W14.heap.size W14 j15 (Nat.le_refl _)).mono t14.size)
          clear oy14 oz14
          rcases hk with ⟨hc, hl6⟩ | ⟨hc, hl6⟩
          · subst hc
            have hl7 : (l.length : Int) ≤ 64 := by omega
            go_wp2_with fail
            refine (K23.out _ t15).mono ?_
            rintro e W16 ⟨rfl, b16⟩
            go_wp2_with fail
            go_ret
            exact ⟨by simp, t15.trans (b16.mono t15.size)⟩
          · have hl7 : ¬ ((l.length : Int) ≤ 64) := by omega
            have hl8 : (64 : Int) < (l.length : Int) := by omega
            have hc0 : ¬ cl = 0 := hc
            have hc1' : decide (cl = 0) = false := decide_eq_false hc
            have hc2' : (cl == 0) = false := beq_eq_false_iff_ne.2 hc
            go_wp2_with fail
            refine (K23.out _ t15).mono ?_
            rintro e W16 ⟨rfl, b16⟩
            go_wp2_with fail
            go_ret
            exact ⟨by simp; omega, t15.trans (b16.mono t15.size)⟩
end Go.Proofs.YtocdinaomkmcbaaDoor
