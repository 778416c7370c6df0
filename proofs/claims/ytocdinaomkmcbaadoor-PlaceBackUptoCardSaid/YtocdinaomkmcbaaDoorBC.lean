/-
  PlaceBack: the law's walk.
-/
import Derived.Test.YtocdinaomkmcbaaDoorBA
import Derived.Test.YtocdinaomkmcbaaDoorBB
import Derived.Test.YtocdinaomkmcbaaDoorFL
import Derived.Test.YtocdinaomkmcbaaDoorTX
namespace Go.Proofs.YtocdinaomkmcbaaDoor
open Go.ChangeShapes Go.WideShapes Go.ChangeAt Go.RowKit Go.Shelf
set_option linter.unusedVariables false

theorem tx_inj {a b : List Pl} (ha : chk a = 0) (hb : chk b = 0) (h : txL a = txL b) : a = b := by
  have h1 := prs_iff.2 ⟨ha, rfl⟩
  have h2 := prs_iff.2 ⟨hb, rfl⟩
  rw [h, h2] at h1
  exact (Option.some.inj h1).symm
theorem joinLe : ∀ (L : List (List UInt8)), (join L).length ≤ (L.map (fun x => x.length + 3)).sum := by
  intro L
  induction L with
  | nil => simp [join]
  | cons x L ih =>
    cases L with
    | nil => simp [join]
    | cons y L =>
      simp only [join, List.length_append, List.map_cons, List.sum_cons] at ih ⊢
      have : sepL.length = 3 := rfl
      omega
theorem tx_len {a : List Pl} (ha : chk a = 0) : (txL a).length ≤ 10000 := by
  obtain ⟨h1, h2⟩ := chk_ok.1 ha
  have hj := joinLe (a.reverse.map txP)
  have hs : ∀ (L : List (List UInt8)), (∀ x ∈ L, x.length ≤ 142) → (L.map (fun x => x.length + 3)).sum ≤ L.length * 145 := by
    intro L
    induction L with
    | nil => simp
    | cons x L ih =>
      intro h
      have := ih (fun y hy => h y (by simp [hy]))
      have := h x (by simp)
      simp only [List.map_cons, List.sum_cons, List.length_cons]
      omega
  have := hs (a.reverse.map txP) (fun x hx => by
    obtain ⟨p, hp, rfl⟩ := List.mem_map.1 hx
    obtain ⟨m1, m2, m3, m4, _⟩ := may_iff.1 (h1 p (by simpa using hp))
    have hi := Lib.itoa_length_le p.2 (by omega) (by omega)
    unfold txP
    have : p.1.data.toList.length = p.1.size := by simp
    simp only [List.length_append, List.length_cons]
    omega)
  have hl : (a.reverse.map txP).length = a.length := by simp
  rw [hl] at this
  unfold txL
  omega
theorem fd_unf {a : List Pl} (ha : chk a = 0) : unf (fd a) = (a, 0) := by
  obtain ⟨al, h⟩ := fd_FS a
  have he : exp (fd a) = a := by rw [h.oexp, List.take_length]
  unfold unf
  rw [he, if_pos, if_pos (chk_ok.1 ha).2, if_pos ha]
  rw [List.all_eq_true]
  intro r hr
  obtain ⟨g1, g2, _⟩ := h.good r hr
  unfold okR
  rw [decide_eq_true g1, decide_eq_true g2]; rfl
/-- How many places the first k runs have. -/
def smR (rs : List Rn) (k : Nat) : Nat := ((rs.take k).map fun r => r.1.length).sum
theorem smR_snoc {rs : List Rn} {k : Nat} {r : Rn} (h : rs[k]? = some r) : smR rs (k + 1) = smR rs k + r.1.length := by
  unfold smR
  rw [List.take_add_one, h]
  simp
theorem fd_sum {a : List Pl} : smR (fd a) (fd a).length ≤ a.length ∧ (0 < smR (fd a) (fd a).length ↔ 0 < a.length) := by
  obtain ⟨al, h⟩ := fd_FS a
  unfold smR
  rw [List.take_length]
  refine ⟨h.few, fun h0 => by have := h.few; omega, fun h0 => ?_⟩
  have h1 := h.any (by omega)
  cases hr : fd a with
  | nil => rw [hr] at h1; simp at h1
  | cons r rs =>
    obtain ⟨_, g2, _⟩ := h.good r (by rw [hr]; simp)
    simp; omega

set_option maxRecDepth 100000 in
set_option maxHeartbeats 8000000 in
theorem back_any (A B : Option Addr) (ca cb : Nat) (l m : List Pl) (w : World) (hA : At w A l) (hB : At w B m) (hn : l.length ≤ 5864062014634) (hm : m.length ≤ 5864062014634) (hs : ∀ p ∈ l, p.1.size ≤ maxLen) (ht : ∀ p ∈ m, p.1.size ≤ maxLen) (hE : Env w) (h3 : 3 ≤ w.heap.size) :
    Calls Tryd.prog 8 #[.slice A l.length ca, .slice B m.length cb] w fun e w' => e = .returned (.bool true) ∧ Below w.heap.size w w' := by
  have K37a := Lib.hid (fit_any A ca l w hA hn hs)
  have K37b := Lib.hid (fun (W : World) (h1 : Below w.heap.size w W) => fit_any B cb m W (hB.below h1 (Nat.le_refl _)) hm ht)
  have hca := fitL_chk l
  have hcb := fitL_chk m
  have hla := fitL_len l
  have hlb := fitL_len m
  clear hA hB hs ht
  generalize fitL l = a at *
  generalize fitL m = b at *
  have K11 := Lib.hid (fun (x : List Pl) (v : Value) (Bx : Nat) (W : World) (h1 : Below w.heap.size w W) (h2 : W.ownsRow Bx 48 2 v x.length (flat x)) (h3 : chk x = 0) =>
    show Calls Tryd.prog 11 #[v] W fun e w' => e = .returned (.tuple #[.string (bts (txL x)), .int .i64 0]) ∧ Below W.heap.size W w' by
      obtain ⟨A1, c1, rfl, a1, _⟩ := own_form h2
      exact text_any A1 c1 x W (hE.below h1 (Nat.le_refl _)) a1 h3)
  have K38 := Lib.hid (fun (x y : List Pl) (v1 v2 : Value) (B1 B2 : Nat) (W : World) (h1 : W.ownsRow B1 48 2 v1 x.length (flat x)) (h2 : W.ownsRow B2 48 2 v2 y.length (flat y)) (hx : x.length ≤ 64) (hy : y.length ≤ 64) =>
    show Calls Tryd.prog 38 #[v1, v2] W fun e w' => e = .returned (.bool (decide (x = y))) ∧ ∃ m, w' = W.drewN m by
      obtain ⟨A1, c1, rfl, a1, _⟩ := own_form h1
      obtain ⟨A2, c2, rfl, a2, _⟩ := own_form h2
      exact alike_any A1 A2 c1 c2 x y W a1 a2 (by omega) (by omega))
  have K38S := Lib.hid (fun (v1 v2 : Value) (B1 B2 : Nat) (W : World) (h1 : W.ownsRow B1 48 2 v1 a.length (flat a)) (h2 : W.ownsRow B2 48 2 v2 a.length (flat a)) =>
    show Calls Tryd.prog 38 #[v1, v2] W fun e w' => e = .returned (.bool true) ∧ ∃ m, w' = W.drewN m by
      have := K38.out a a v1 v2 B1 B2 W h1 h2 hla hla
      rwa [decide_eq_true rfl] at this)
  have hpra := prs_iff.2 ⟨hca, (rfl : txL a = txL a)⟩
  have htl := tx_len hca
  have K19 := Lib.hid (fun (W : World) (h : Below w.heap.size w W) =>
    show Calls Tryd.prog 19 #[.string (bts (txL a))] W fun e w' => ∃ v, e = .returned (.tuple #[v, .int .i64 0]) ∧ w'.ownsRow W.heap.size 48 2 v a.length (flat a) ∧ Below W.heap.size W w' from
    (parse_any (bts (txL a)) W (hE.below h (Nat.le_refl _)) (Nat.le_trans h3 h.size) (by rw [bts_size]; omega)).mono fun e w' ⟨h1, h2⟩ => by
      rcases h1 with ⟨l', v, e1, e2, e3⟩ | ⟨e1, _⟩
      · rw [bts_list, hpra] at e1
        cases e1
        exact ⟨v, e2, e3, h2⟩
      · rw [bts_list, hpra] at e1
        cases e1)
  have K26 := Lib.hid (fun (v : Value) (Bx : Nat) (W : World) (h2 : W.ownsRow Bx 48 2 v a.length (flat a)) =>
    show Calls Tryd.prog 26 #[v] W fun e w' => ∃ v, e = .returned (.tuple #[v, .int .i64 0]) ∧ FW W (fd a) v w' by
      obtain ⟨A1, c1, rfl, a1, hc⟩ := own_form_cap h2
      exact fold_good A1 c1 a W a1 hc hca hla)
  have hfl : (fd a).length ≤ 64 ∧ ∀ r ∈ fd a, r.1.length ≤ 64 := by have := fdR_len a; unfold fdR at this; rw [if_pos hca] at this; exact this
  have K29 := Lib.hid (fun (v : Value) (xs : List Value) (B1 lo : Nat) (W : World) (h1 : W.ownsRow B1 58 2 v (fd a).length xs) (h2 : RwP 48 lo 0 W (fd a) xs) =>
    show Calls Tryd.prog 29 #[v] W fun e w' => ∃ v, e = .returned (.tuple #[v, .int .i64 0]) ∧ w'.ownsRow W.heap.size 48 2 v a.length (flat a) ∧ Below W.heap.size W w' by
      obtain ⟨A1, c1, rfl, a1, _⟩ := h2.at h1
      have := unfold_any A1 c1 (fd a) W a1 (by omega) (fun r hr => by have := hfl.2 r hr; omega)
      rw [fd_unf hca] at this
      exact this)
  have K23 := Lib.hid (fun (W : World) (h1 : Below w.heap.size w W) => alive_any W (hE.below h1 (Nat.le_refl _)) (Nat.le_trans h3 h1.size))
  obtain ⟨al, hFS⟩ := fd_FS a
  have HG := Lib.hid hFS.good
  have HAP := Lib.hid hFS.apart
  have HSUM := Lib.hid (fd_sum (a := a))
  have HRL := Lib.hid hfl.2
  have hrl := hfl.1
  have HINJ := Lib.hid (fun h => tx_inj hca hcb h)
  have HCA := Lib.hid hca
  have HCB := Lib.hid hcb
  clear hE hFS hfl hpra htl hca hcb
  generalize fd a = rs at *
  go_enter Tryd.func8, Tryd.ntmps8
  go_wp2_with fail
  refine K37a.out.mono ?_
  rintro e W1 ⟨va, rfl, oa, b1⟩
  have z1 := b1.size
  go_wp2_with fail
  refine (K37b.out W1 b1).mono ?_
  rintro e W2 ⟨vb, rfl, ob, b2⟩
  have t2 := b1.trans (b2.mono z1)
  have oa2 := own_below oa b2
  go_wp2_with fail
  refine (K11.out a va _ W2 t2 oa2 HCA.out).mono ?_
  rintro e W3 ⟨rfl, b3⟩
  have t3 := t2.trans (b3.mono t2.size)
  have oa3 := own_below oa2 b3
  have ob3 := own_below ob b3
  go_wp2_with fail
  refine (K11.out b vb _ W3 t3 ob3 HCB.out).mono ?_
  rintro e W4 ⟨rfl, b4⟩
  have t4 := t3.trans (b4.mono t3.size)
  have oa4 := own_below oa3 b4
  have ob4 := own_below ob3 b4
  clear oa oa2 oa3 ob ob3 b1 b2 b3 b4 t2 t3 z1
  have K38ab := Lib.hid (K38.out a b va vb _ _ W4 oa4 ob4 hla hlb)
  obtain ⟨sa, hsa⟩ : ∃ x, bts (txL a) = x := ⟨_, rfl⟩
  obtain ⟨sb, hsb⟩ : ∃ x, bts (txL b) = x := ⟨_, rfl⟩
  have HEQ : Hid ((a = b ∧ sa = sb ∧ decide (a = b) = true) ∨ (decide (a = b) = false ∧ ¬ sa.toList = sb.toList)) := Lib.hid (by
    by_cases hab : a = b
    · subst hab
      exact .inl ⟨rfl, by rw [← hsa, ← hsb], decide_eq_true rfl⟩
    · refine .inr ⟨decide_eq_false hab, fun h => hab (HINJ.out ?_)⟩
      have : sa = sb := by rw [Lib.toList_data, Lib.toList_data] at h; exact ByteArray.ext (Array.toList_inj.1 h)
      rw [← hsa, ← hsb] at this
      exact bts_inj this)
  rw [hsa] at K19 ⊢
  rw [hsb]
  clear hsa hsb HINJ HCA HCB
  rcases HEQ.out with ⟨hab, hss, hd⟩ | ⟨hd, hss⟩
  · subst hss
    rw [hd] at K38ab
    clear hab hd HEQ
    go_wp2_with fail
    refine K38ab.out.mono ?_
    rintro e W5 ⟨rfl, j5, hW5⟩
    have b5 : Below W4.heap.size W4 W5 := by rw [hW5]; exact below_drewN _ _ _ (Nat.le_refl _)
    clear hW5
    have t5 := t4.trans (b5.mono t4.size)
    have oa5 := own_below oa4 b5
    clear oa4 ob4
    go_wp2_with fail
    refine (K19.out W5 t5).mono ?_
    rintro e W6 ⟨vx, rfl, ox, b6⟩
    have t6 := t5.trans (b6.mono t5.size)
    have oa6 := own_below oa5 b6
    go_wp2_with fail
    refine (K26.out va _ W6 oa6).mono ?_
    rintro e W7 ⟨vr, rfl, ⟨xs, orr, pr⟩, b7⟩
    have t7 := t6.trans (b7.mono t6.size)
    have oa7 := own_below oa6 b7
    have ox7 := own_below ox b7
    go_wp2_with fail
    refine (K29.out vr xs _ _ W7 orr pr).mono ?_
    rintro e W8 ⟨vy, rfl, oy, b8⟩
    have t8 := t7.trans (b8.mono t7.size)
    have oa8 := own_below oa7 b8
    have ox8 := own_below ox7 b8
    have or8 := own_below orr b8
    have pr8 := pr.below b8
    clear oa5 oa6 oa7 ox ox7 orr pr
    have K38x := Lib.hid (K38S.out vx va _ _ W8 ox8 oa8)
    go_wp2_with fail
    refine K38x.out.mono ?_
    rintro e W9 ⟨rfl, j9, hW9⟩
    have b9 : Below W8.heap.size W8 W9 := by rw [hW9]; exact below_drewN _ _ _ (Nat.le_refl _)
    clear hW9 K38x
    have t9 := t8.trans (b9.mono t8.size)
    have oa9 := own_below oa8 b9
    have oy9 := own_below oy b9
    have K38y := Lib.hid (K38S.out vy va _ _ W9 oy9 oa9)
    go_wp2_with fail
    refine K38y.out.mono ?_
    rintro e W10 ⟨rfl, j10, hW10⟩
    have b10 : Below W9.heap.size W9 W10 := by rw [hW10]; exact below_drewN _ _ _ (Nat.le_refl _)
    clear hW10 K38y
    have t10 := t9.trans (b10.mono t9.size)
    have or10 := own_below or8 (b9.trans (b10.mono b9.size))
    have pr10 := pr8.below (b9.trans (b10.mono b9.size))
    obtain ⟨Aa, ca', rfl, _⟩ := own_form oa9
    obtain ⟨Ax, cx, rfl, hAx⟩ : ∃ Ax cx, vr = .slice Ax rs.length cx ∧ (0 < rs.length → ∃ gx, Ax = some ⟨gx, 0, none⟩) := by
      rcases or10.2 with ⟨h1, h2⟩ | ⟨gx, cx, _, h1, _⟩
      · exact ⟨none, 0, by rw [h1, h2], fun h => by omega⟩
      · exact ⟨_, cx, h1, fun _ => ⟨gx, rfl⟩⟩
    have HAX := Lib.hid hAx
    clear hAx oa8 ox8 or8 pr8 oa9 oy9 oy b5 b6 b7 b8 b9 b10 t5 t6 t7 t8 t9
    have HPR := Lib.hid pr10
    have HOR := Lib.hid or10
    have HBW := Lib.hid t10
    clear pr10 or10 t10
    have HSM : Hid (∀ k r, rs[k]? = some r → smR rs (k + 1) = smR rs k + r.1.length) := Lib.hid (fun k r h => smR_snoc h)
    have HSB : Hid (∀ k, k ≤ rs.length → smR rs k ≤ k * 64) := Lib.hid (fun k => by
      induction k with
      | zero => intro _; simp [smR]
      | succ k ih =>
        intro hk
        obtain ⟨r, hr⟩ : ∃ r, rs[k]? = some r := ⟨_, List.getElem?_eq_getElem (by omega)⟩
        have h1 := smR_snoc hr
        have h2 := ih (by omega)
        have h3 := HRL.out r (List.mem_of_getElem? hr)
        omega)
    go_wp2_with fail
    go_loopw [17, 18] (fun tn t wr => ∃ k : Nat, t = .int .i64 k ∧ tn = .int .i64 (smR rs k) ∧ k ≤ rs.length ∧ wr = W10) (fun _ t _ => rs.length - (intOf t).toNat)
    case atStart => exact ⟨0, rfl, by simp [smR], by omega, rfl⟩
    case round =>
      obtain ⟨k, rfl, rfl, hk, rfl⟩ := hrel
      have hk0 : (0 : Int) ≤ (k : Int) := Int.natCast_nonneg _
      by_cases hlt : k < rs.length
      · have hk1 : (k : Int) < (rs.length : Int) := by omega
        obtain ⟨gx, rfl⟩ := HAX.out (by omega)
        obtain ⟨r, hr⟩ : ∃ r, rs[k]? = some r := ⟨_, List.getElem?_eq_getElem hlt⟩
        have hr64 := HRL.out r (List.mem_of_getElem? hr)
        obtain ⟨g1, g2, g3⟩ := HG.out r (List.mem_of_getElem? hr)
        obtain ⟨g, c, x0, x1, _, _⟩ := HPR.out k r (Nat.zero_le _) hr
        have hxl := HOR.out.1
        have c0 := (HOR.out.cellAt (k * 2) (by omega)).trans x0
        have c1 := (HOR.out.cellAt (k * 2 + 1) (by omega)).trans x1
        have HS := Lib.hid (HSM.out k r hr)
        have hsb := HSB.out k hk
        have hprev : 0 < k → ∃ T : Int, wr.cell? ⟨gx, (k - 1) * 2 + 1, none⟩ = some (.int .i64 T) ∧ (r.2 = 1 → T ≠ 1) := fun h0 => by
          obtain ⟨r', hr'⟩ : ∃ r', rs[k - 1]? = some r' := ⟨_, List.getElem?_eq_getElem (by omega)⟩
          obtain ⟨g', c', y0, y1, _, _⟩ := HPR.out (k - 1) r' (Nat.zero_le _) hr'
          refine ⟨r'.2, (HOR.out.cellAt ((k - 1) * 2 + 1) (by omega)).trans y1, fun h1 => ?_⟩
          have := HAP.out (k - 1) r' r hr' (by rw [show k - 1 + 1 = k by omega]; exact hr)
          rcases this with h | h
          · exact h
          · exact absurd h1 h
        have HPV := Lib.hid hprev
        clear hprev hr x0 x1 hxl
        obtain ⟨rl, rt⟩ := r
        simp only at g1 g2 g3 c0 c1 hr64
        generalize hln : rl.length = n at *
        have HN := Lib.hid (show smR rs (k + 1) = smR rs k + n by rw [HS.out])
        clear hln HS
        generalize hsm : smR rs k = sk at *
        clear hsm
        by_cases hT : 1 < rt
        · have hn8 : (n : Int) ≤ 8 := by have := g3 hT; omega
          have hT1 : ¬ rt < 1 := by omega
          have hTe : ¬ rt = 1 := by omega
          have hTd : decide (rt = 1) = false := decide_eq_false hTe
          have hTb : (rt == 1) = false := beq_eq_false_iff_ne.2 hTe
          clear g3
          by_cases hkz : 0 < k
          · have hkz1 : (0 : Int) < (k : Int) := by omega
            go_wp2_with fail
            go_roundw
            case rel => exact ⟨k + 1, by go_num, by rw [HN.out]; go_num, by omega, trivial⟩
            case measure => simp [intOf]; omega
          · have hkz1 : ¬ (0 : Int) < (k : Int) := by omega
            go_wp2_with fail
            go_roundw
            case rel => exact ⟨k + 1, by go_num, by rw [HN.out]; go_num, by omega, trivial⟩
            case measure => simp [intOf]; omega
        · have hT1 : rt = 1 := by omega
          subst hT1
          clear g3
          by_cases hkz : 0 < k
          · have hkz1 : (0 : Int) < (k : Int) := by omega
            obtain ⟨T, cT, hTT⟩ := HPV.out hkz
            have hTe : ¬ T = 1 := hTT rfl
            have hTd : decide (T = 1) = false := decide_eq_false hTe
            have hTb : (T == 1) = false := beq_eq_false_iff_ne.2 hTe
            clear hTT
            obtain ⟨k', rfl⟩ : ∃ k', k = k' + 1 := ⟨k - 1, by omega⟩
            rw [Nat.add_sub_cancel] at cT
            go_wp2_with fail
            go_roundw
            case rel => exact ⟨k' + 1 + 1, by go_num, by rw [HN.out]; go_num, by omega, trivial⟩
            case measure => simp [intOf]; omega
          · have hkz1 : ¬ (0 : Int) < (k : Int) := by omega
            go_wp2_with fail
            go_roundw
            case rel => exact ⟨k + 1, by go_num, by rw [HN.out]; go_num, by omega, trivial⟩
            case measure => simp [intOf]; omega
      · have hk1 : ¬ (k : Int) < (rs.length : Int) := by omega
        obtain rfl : k = rs.length := by omega
        obtain ⟨s1, s2⟩ := HSUM.out
        generalize smR rs rs.length = sm at *
        have s1i : (sm : Int) ≤ (a.length : Int) := by omega
        by_cases h0 : 0 < sm
        · have h1 := s2.1 h0
          have h0i : (0 : Int) < (sm : Int) := by omega
          have h1i : (0 : Int) < (a.length : Int) := by omega
          go_wp2_with fail
          refine (K23.out _ HBW.out).mono ?_
          rintro e W11 ⟨rfl, b11⟩
          have hb := HBW.out.trans (b11.mono HBW.out.size)
          go_wp2_with fail
          go_ret
          exact ⟨by simp, hb⟩
        · have h1 : ¬ 0 < a.length := fun h => h0 (s2.2 h)
          have h0i : ¬ (0 : Int) < (sm : Int) := by omega
          have h1i : ¬ (0 : Int) < (a.length : Int) := by omega
          go_wp2_with fail
          refine (K23.out _ HBW.out).mono ?_
          rintro e W11 ⟨rfl, b11⟩
          have hb := HBW.out.trans (b11.mono HBW.out.size)
          go_wp2_with fail
          go_ret
          exact ⟨by simp, hb⟩
  · have hss2 : (sa.toList == sb.toList) = false := beq_eq_false_iff_ne.2 hss
    have hss3 : decide (sa = sb) = false := decide_eq_false (fun e => hss (by rw [e]))
    rw [hd] at K38ab
    clear hd HEQ
    go_wp2_with fail
    refine K38ab.out.mono ?_
    rintro e W5 ⟨rfl, j5, hW5⟩
    have b5 : Below W4.heap.size W4 W5 := by rw [hW5]; exact below_drewN _ _ _ (Nat.le_refl _)
    clear hW5
    have t5 := t4.trans (b5.mono t4.size)
    have oa5 := own_below oa4 b5
    clear oa4 ob4
    go_wp2_with fail
    refine (K19.out W5 t5).mono ?_
    rintro e W6 ⟨vx, rfl, ox, b6⟩
    have t6 := t5.trans (b6.mono t5.size)
    have oa6 := own_below oa5 b6
    go_wp2_with fail
    refine (K26.out va _ W6 oa6).mono ?_
    rintro e W7 ⟨vr, rfl, ⟨xs, orr, pr⟩, b7⟩
    have t7 := t6.trans (b7.mono t6.size)
    have oa7 := own_below oa6 b7
    have ox7 := own_below ox b7
    go_wp2_with fail
    refine (K29.out vr xs _ _ W7 orr pr).mono ?_
    rintro e W8 ⟨vy, rfl, oy, b8⟩
    have t8 := t7.trans (b8.mono t7.size)
    have oa8 := own_below oa7 b8
    have ox8 := own_below ox7 b8
    have or8 := own_below orr b8
    have pr8 := pr.below b8
    clear oa5 oa6 oa7 ox ox7 orr pr
    have K38x := Lib.hid (K38S.out vx va _ _ W8 ox8 oa8)
    go_wp2_with fail
    refine K38x.out.mono ?_
    rintro e W9 ⟨rfl, j9, hW9⟩
    have b9 : Below W8.heap.size W8 W9 := by rw [hW9]; exact below_drewN _ _ _ (Nat.le_refl _)
    clear hW9 K38x
    have t9 := t8.trans (b9.mono t8.size)
    have oa9 := own_below oa8 b9
    have oy9 := own_below oy b9
    have K38y := Lib.hid (K38S.out vy va _ _ W9 oy9 oa9)
    go_wp2_with fail
    refine K38y.out.mono ?_
    rintro e W10 ⟨rfl, j10, hW10⟩
    have b10 : Below W9.heap.size W9 W10 := by rw [hW10]; exact below_drewN _ _ _ (Nat.le_refl _)
    clear hW10 K38y
    have t10 := t9.trans (b10.mono t9.size)
    have or10 := own_below or8 (b9.trans (b10.mono b9.size))
    have pr10 := pr8.below (b9.trans (b10.mono b9.size))
    obtain ⟨Aa, ca', rfl, _⟩ := own_form oa9
    obtain ⟨Ax, cx, rfl, hAx⟩ : ∃ Ax cx, vr = .slice Ax rs.length cx ∧ (0 < rs.length → ∃ gx, Ax = some ⟨gx, 0, none⟩) := by
      rcases or10.2 with ⟨h1, h2⟩ | ⟨gx, cx, _, h1, _⟩
      · exact ⟨none, 0, by rw [h1, h2], fun h => by omega⟩
      · exact ⟨_, cx, h1, fun _ => ⟨gx, rfl⟩⟩
    have HAX := Lib.hid hAx
    clear hAx oa8 ox8 or8 pr8 oa9 oy9 oy b5 b6 b7 b8 b9 b10 t5 t6 t7 t8 t9
    have HPR := Lib.hid pr10
    have HOR := Lib.hid or10
    have HBW := Lib.hid t10
    clear pr10 or10 t10
    have HSM : Hid (∀ k r, rs[k]? = some r → smR rs (k + 1) = smR rs k + r.1.length) := Lib.hid (fun k r h => smR_snoc h)
    have HSB : Hid (∀ k, k ≤ rs.length → smR rs k ≤ k * 64) := Lib.hid (fun k => by
      induction k with
      | zero => intro _; simp [smR]
      | succ k ih =>
        intro hk
        obtain ⟨r, hr⟩ : ∃ r, rs[k]? = some r := ⟨_, List.getElem?_eq_getElem (by omega)⟩
        have h1 := smR_snoc hr
        have h2 := ih (by omega)
        have h3 := HRL.out r (List.mem_of_getElem? hr)
        omega)
    go_wp2_with fail
    go_loopw [17, 18] (fun tn t wr => ∃ k : Nat, t = .int .i64 k ∧ tn = .int .i64 (smR rs k) ∧ k ≤ rs.length ∧ wr = W10) (fun _ t _ => rs.length - (intOf t).toNat)
    case atStart => exact ⟨0, rfl, by simp [smR], by omega, rfl⟩
    case round =>
      obtain ⟨k, rfl, rfl, hk, rfl⟩ := hrel
      have hk0 : (0 : Int) ≤ (k : Int) := Int.natCast_nonneg _
      by_cases hlt : k < rs.length
      · have hk1 : (k : Int) < (rs.length : Int) := by omega
        obtain ⟨gx, rfl⟩ := HAX.out (by omega)
        obtain ⟨r, hr⟩ : ∃ r, rs[k]? = some r := ⟨_, List.getElem?_eq_getElem hlt⟩
        have hr64 := HRL.out r (List.mem_of_getElem? hr)
        obtain ⟨g1, g2, g3⟩ := HG.out r (List.mem_of_getElem? hr)
        obtain ⟨g, c, x0, x1, _, _⟩ := HPR.out k r (Nat.zero_le _) hr
        have hxl := HOR.out.1
        have c0 := (HOR.out.cellAt (k * 2) (by omega)).trans x0
        have c1 := (HOR.out.cellAt (k * 2 + 1) (by omega)).trans x1
        have HS := Lib.hid (HSM.out k r hr)
        have hsb := HSB.out k hk
        have hprev : 0 < k → ∃ T : Int, wr.cell? ⟨gx, (k - 1) * 2 + 1, none⟩ = some (.int .i64 T) ∧ (r.2 = 1 → T ≠ 1) := fun h0 => by
          obtain ⟨r', hr'⟩ : ∃ r', rs[k - 1]? = some r' := ⟨_, List.getElem?_eq_getElem (by omega)⟩
          obtain ⟨g', c', y0, y1, _, _⟩ := HPR.out (k - 1) r' (Nat.zero_le _) hr'
          refine ⟨r'.2, (HOR.out.cellAt ((k - 1) * 2 + 1) (by omega)).trans y1, fun h1 => ?_⟩
          have := HAP.out (k - 1) r' r hr' (by rw [show k - 1 + 1 = k by omega]; exact hr)
          rcases this with h | h
          · exact h
          · exact absurd h1 h
        have HPV := Lib.hid hprev
        clear hprev hr x0 x1 hxl
        obtain ⟨rl, rt⟩ := r
        simp only at g1 g2 g3 c0 c1 hr64
        generalize hln : rl.length = n at *
        have HN := Lib.hid (show smR rs (k + 1) = smR rs k + n by rw [HS.out])
        clear hln HS
        generalize hsm : smR rs k = sk at *
        clear hsm
        by_cases hT : 1 < rt
        · have hn8 : (n : Int) ≤ 8 := by have := g3 hT; omega
          have hT1 : ¬ rt < 1 := by omega
          have hTe : ¬ rt = 1 := by omega
          have hTd : decide (rt = 1) = false := decide_eq_false hTe
          have hTb : (rt == 1) = false := beq_eq_false_iff_ne.2 hTe
          clear g3
          by_cases hkz : 0 < k
          · have hkz1 : (0 : Int) < (k : Int) := by omega
            go_wp2_with fail
            go_roundw
            case rel => exact ⟨k + 1, by go_num, by rw [HN.out]; go_num, by omega, trivial⟩
            case measure => simp [intOf]; omega
          · have hkz1 : ¬ (0 : Int) < (k : Int) := by omega
            go_wp2_with fail
            go_roundw
            case rel => exact ⟨k + 1, by go_num, by rw [HN.out]; go_num, by omega, trivial⟩
            case measure => simp [intOf]; omega
        · have hT1 : rt = 1 := by omega
          subst hT1
          clear g3
          by_cases hkz : 0 < k
          · have hkz1 : (0 : Int) < (k : Int) := by omega
            obtain ⟨T, cT, hTT⟩ := HPV.out hkz
            have hTe : ¬ T = 1 := hTT rfl
            have hTd : decide (T = 1) = false := decide_eq_false hTe
            have hTb : (T == 1) = false := beq_eq_false_iff_ne.2 hTe
            clear hTT
            obtain ⟨k', rfl⟩ : ∃ k', k = k' + 1 := ⟨k - 1, by omega⟩
            rw [Nat.add_sub_cancel] at cT
            go_wp2_with fail
            go_roundw
            case rel => exact ⟨k' + 1 + 1, by go_num, by rw [HN.out]; go_num, by omega, trivial⟩
            case measure => simp [intOf]; omega
          · have hkz1 : ¬ (0 : Int) < (k : Int) := by omega
            go_wp2_with fail
            go_roundw
            case rel => exact ⟨k + 1, by go_num, by rw [HN.out]; go_num, by omega, trivial⟩
            case measure => simp [intOf]; omega
      · have hk1 : ¬ (k : Int) < (rs.length : Int) := by omega
        obtain rfl : k = rs.length := by omega
        obtain ⟨s1, s2⟩ := HSUM.out
        generalize smR rs rs.length = sm at *
        have s1i : (sm : Int) ≤ (a.length : Int) := by omega
        by_cases h0 : 0 < sm
        · have h1 := s2.1 h0
          have h0i : (0 : Int) < (sm : Int) := by omega
          have h1i : (0 : Int) < (a.length : Int) := by omega
          go_wp2_with fail
          refine (K23.out _ HBW.out).mono ?_
          rintro e W11 ⟨rfl, b11⟩
          have hb := HBW.out.trans (b11.mono HBW.out.size)
          go_wp2_with fail
          go_ret
          exact ⟨by simp, hb⟩
        · have h1 : ¬ 0 < a.length := fun h => h0 (s2.2 h)
          have h0i : ¬ (0 : Int) < (sm : Int) := by omega
          have h1i : ¬ (0 : Int) < (a.length : Int) := by omega
          go_wp2_with fail
          refine (K23.out _ HBW.out).mono ?_
          rintro e W11 ⟨rfl, b11⟩
          have hb := HBW.out.trans (b11.mono HBW.out.size)
          go_wp2_with fail
          go_ret
          exact ⟨by simp, hb⟩
end Go.Proofs.YtocdinaomkmcbaaDoor
