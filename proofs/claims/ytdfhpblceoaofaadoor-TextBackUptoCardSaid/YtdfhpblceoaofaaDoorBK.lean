/-
  The walk of TextBack.
-/
import Derived.Test.YtdfhpblceoaofaaDoorWO
import Derived.Test.YtdfhpblceoaofaaDoorBM
namespace Go.Proofs.YtdfhpblceoaofaaDoor
open Go.ChangeShapes Go.WideShapes Go.ChangeAt Go.RowKit Go.Shelf
set_option linter.unusedVariables false
attribute [local go_sem] Oper.semAt_some

theorem qtA_prefix (s q rest : ByteArray) (hq : q.data.toList = qtA s) : qtA s <+: (q ++ rest).data.toList := by
  rw [← hq, ByteArray.data_append]; exact ⟨rest.data.toList, by simp⟩
theorem qtA_le (s : ByteArray) (hsz : s.size ≤ 1099511627776) : (qtA s).length ≤ 5 * s.size + 2 := by
  unfold qtA
  rw [qtL_raL]
  have := raL_whole true s hsz
  simp; omega

theorem QB.len {q t : List UInt8} (h : QB q t) : t.length ≤ q.length := by
  induction h with
  | nil => exact Nat.le_refl _
  | plain _ _ _ ih => simp; omega
  | esc _ _ ih => simp; omega
  | hex _ ih => simp; omega
theorem qtA_ge (u : ByteArray) : u.size ≤ (qtA u).length := by
  have := (qtA_QB u).len
  have e : u.data.toList.length = u.size := by simp
  unfold qtA
  simp only [List.length_cons, List.length_append]
  omega

set_option maxRecDepth 100000 in
set_option maxHeartbeats 4000000 in
theorem textBack_in (n : Nat) (hn : 4 ≤ n) (s t rest : ByteArray) (w : World) (h2 : 2 ≤ w.heap.size) (hT : Lib.Utf8Tabs 0 1 w) (hs : s.size ≤ 1048576) (ht : t.size ≤ 1048576) (hr : rest.size ≤ 1048576) :
    CallsIn Fence.wide n Tryd.prog 6 #[.string s, .string t, .string rest] w fun e W' => e = .returned (.bool true) ∧ Below w.heap.size w W' := by
  have h1 : 1 ≤ n := by omega
  have hql := qtA_le s (by omega)
  obtain ⟨q, hq⟩ : ∃ q : ByteArray, q = ⟨(qtA s).toArray⟩ := ⟨_, rfl⟩
  have hqd : q.data.toList = qtA s := by rw [hq]
  have hqs : q.size = (qtA s).length := by rw [hq]; simp [ByteArray.size]
  have hqq : q.size ≤ 5 * s.size + 2 := by omega
  have hqr : (q ++ rest).size ≤ 1099511627776 := by rw [ByteArray.size_append]; omega
  have hpre := qtA_prefix s q rest hqd
  obtain ⟨S, hS⟩ : ∃ S : ByteArray, S = ⟨(shL s (LS s 0)).toArray⟩ := ⟨_, rfl⟩
  obtain ⟨T', hT'⟩ : ∃ T : ByteArray, T = ⟨(shL t (LS t 0)).toArray⟩ := ⟨_, rfl⟩
  have hSz : S.size ≤ 1099511627776 := by
    have h3 := shL_le s (LS s 0)
    have h4 := LS_len s
    have e : S.size = (shL s (LS s 0)).length := by rw [hS]; simp [ByteArray.size]
    omega
  have hSg : Hid (∀ p ∈ G S 0, inDig p.r = false) := Lib.hid (show_good s S (by rw [hS]))
  have hqb : bks (G q 0) = [] := bks_none (quote_good s q hqd)
  have hinj : Hid ((S.toList == T'.toList) = (s.toList == t.toList)) := Lib.hid (by
    rw [Bool.eq_iff_iff, beq_iff_eq, beq_iff_eq, Lib.toList_data, Lib.toList_data, Lib.toList_data, Lib.toList_data]
    constructor
    · intro h
      rw [hS, hT'] at h
      have := show_inj (s := s) (t := t) (by simpa using h)
      rw [this]
    · intro h
      have : s = t := ByteArray.ext (Array.toList_inj.1 h)
      rw [hS, hT', this])
  have c0 := fun W (h : Below w.heap.size w W) => works_any W (Nat.le_trans h2 h.size) (tabs_below hT h h2)
  have c1 := fun W (h : Below w.heap.size w W) => callsIn_wide.1 (quote_in 3 (Nat.le_refl _) s W (Nat.le_trans h2 h.size) (tabs_below hT h h2) (by omega))
  rw [← hq] at c1
  have c2 := fun W (h : Below w.heap.size w W) => unquote_any q W (Nat.le_trans h2 h.size) (tabs_below hT h h2) (by omega)
  have uq : ∀ e, UQs q e → e = .returned (.tuple #[.string s, .int .i64 0]) := by
    rintro e (⟨u, h, hu, rfl⟩ | ⟨h, rfl⟩)
    · rw [← hu s hqd.symm]
    · exact absurd hqd.symm (h _)
  have c3 := fun W (h : Below w.heap.size w W) => front_any (q ++ rest) W (Nat.le_trans h2 h.size) (tabs_below hT h h2) hqr
  have fq : ∀ e, FRs (q ++ rest) e → e = .returned (.tuple #[.string s, .int .i64 (q.size : Int), .int .i64 0]) := by
    rintro e (⟨u, h, hu, rfl⟩ | ⟨h, rfl⟩)
    · rw [← hu s hpre, hqs]
    · exact absurd hpre (h _)
  have c4 := fun W (h : Below w.heap.size w W) => unquote_any t W (Nat.le_trans h2 h.size) (tabs_below hT h h2) (by omega)
  have c5 := fun W (h : Below w.heap.size w W) => callsIn_wide.1 (show_in 3 (Nat.le_refl _) s W (Nat.le_trans h2 h.size) (tabs_below hT h h2) (by omega))
  rw [← hS] at c5
  have c6 := fun W (h : Below w.heap.size w W) => callsIn_wide.1 (show_in 3 (Nat.le_refl _) t W (Nat.le_trans h2 h.size) (tabs_below hT h h2) (by omega))
  rw [← hT'] at c6
  have c7 := fun (u : ByteArray) (hu : qtA u = t.data.toList) W (h : Below w.heap.size w W) => callsIn_wide.1 (quote_in 3 (Nat.le_refl _) u W (Nat.le_trans h2 h.size) (tabs_below hT h h2) (by
    have e := congrArg List.length hu
    have e2 : t.data.toList.length = t.size := by simp
    have := qtA_ge u
    omega))
  have C7 : Hid (∀ (u : ByteArray), qtA u = t.data.toList → ∀ W, Below w.heap.size w W → Calls Tryd.prog 18 #[.string u] W fun e W' => e = .returned (.string t) ∧ Below W.heap.size W W') := Lib.hid (fun u hu W h => by
    have := c7 u hu W h
    rw [hu, show (⟨t.data.toList.toArray⟩ : ByteArray) = t from ba_ext (by simp)] at this
    exact this)
  have c8 := fun W (h : Below w.heap.size w W) => breaks_in (n - 1) (by omega) q W (Nat.le_trans h2 h.size) (tabs_below hT h h2) (by omega)
  rw [hqb] at c8
  have C0 := Lib.hid c0; have C1 := Lib.hid c1; have C2 := Lib.hid c2; have C3 := Lib.hid c3; have C4 := Lib.hid c4; have C5 := Lib.hid c5; have C6 := Lib.hid c6; have C8 := Lib.hid c8
  have UQ := Lib.hid uq; have FQ := Lib.hid fq
  clear c0 c1 c2 c3 c4 c5 c6 c7 c8 uq fq hq hS hT' hqb hpre hqd hqs hql
  refine callsIn_of_wp_marks Tryd.func6 rfl trivial ?_ rfl
  simp only [Tryd.ntmps6, List.size_toArray, List.length_cons, List.length_nil, Nat.reduceAdd, Nat.reduceSub, Array.replicate_succ, Array.replicate_zero, List.push_toArray, List.append_toArray, List.nil_append, List.cons_append]
  have B0 : Below w.heap.size w (w.alloc (.cells #[.bool false] 4)) := (Below.refl _ w).alloc (Nat.le_refl _) _
  have b0 := Boxed.new w 4 (.bool false)
  gi_wp2_with fail
  refine ⟨trivial, ?_⟩
  refine (callsIn_wide.2 (C0.out _ B0)).mono ?_
  rintro e W1 ⟨rfl, x1⟩
  have B1 := B0.trans (x1.mono B0.size)
  have b1 : Boxed W1 w.heap.size 4 (.bool false) := (x1.block _ (by simp)).trans b0
  clear x1 b0 B0
  gi_wp2_with fail
  refine ⟨trivial, ?_⟩
  refine (callsIn_wide.2 (C1.out _ B1)).mono ?_
  rintro e W2 ⟨rfl, x2⟩
  have B2 := B1.trans (x2.mono B1.size)
  have b2 : Boxed W2 w.heap.size 4 (.bool false) := (x2.block _ b1.lt).trans b1
  clear x2 b1 B1
  gi_wp2_with fail
  refine ⟨trivial, ?_⟩
  refine (callsIn_wide.2 (C2.out _ B2)).mono ?_
  rintro e W3 ⟨hu, x3⟩
  obtain rfl := UQ.out _ hu
  clear hu
  have B3 := B2.trans (x3.mono B2.size)
  have b3 : Boxed W3 w.heap.size 4 (.bool false) := (x3.block _ b2.lt).trans b2
  clear x3 b2 B2
  gi_wp2_with fail
  refine ⟨trivial, ?_⟩
  refine (callsIn_wide.2 (C3.out _ B3)).mono ?_
  rintro e W4 ⟨hu, x4⟩
  obtain rfl := FQ.out _ hu
  clear hu
  have B4 := B3.trans (x4.mono B3.size)
  have b4 : Boxed W4 w.heap.size 4 (.bool false) := (x4.block _ b3.lt).trans b3
  clear x4 b3 B3
  gi_wp2_with fail
  refine ⟨trivial, ?_⟩
  refine (callsIn_wide.2 (C4.out _ B4)).mono ?_
  rintro e W5 ⟨hu, x5⟩
  have B5 := B4.trans (x5.mono B4.size)
  have b5 : Boxed W5 w.heap.size 4 (.bool false) := (x5.block _ b4.lt).trans b4
  clear x5 b4 B4
  rcases hu with ⟨u, hu, _, rfl⟩ | ⟨hu, rfl⟩
  · gi_wp2_with fail
    refine ⟨trivial, ?_⟩
    refine (callsIn_wide.2 (C7.out u hu _ B5)).mono ?_
    rintro e W6 ⟨rfl, x6⟩
    have B6 := B5.trans (x6.mono B5.size)
    have b6 : Boxed W6 w.heap.size 4 (.bool false) := (x6.block _ b5.lt).trans b5
    clear x6 b5 B5 hu
    gi_wp2_with fail
    refine ⟨trivial, ?_⟩
    refine (callsIn_wide.2 (C5.out _ B6)).mono ?_
    rintro e W7 ⟨rfl, x7⟩
    have B7 := B6.trans (x7.mono B6.size)
    have b7 : Boxed W7 w.heap.size 4 (.bool false) := (x7.block _ b6.lt).trans b6
    clear x7 b6 B6
    gi_wp2_with fail
    refine ⟨trivial, ?_⟩
    refine (callsIn_wide.2 (C6.out _ B7)).mono ?_
    rintro e W8 ⟨rfl, x8⟩
    have B8 := B7.trans (x8.mono B7.size)
    have b8 : Boxed W8 w.heap.size 4 (.bool false) := (x8.block _ b7.lt).trans b7
    clear x8 b7 B7
    have hI := hinj.out
    gi_wp2_with fail
    clear hI
    refine ⟨trivial, ?_⟩
    refine (callsIn_wide.2 (C5.out _ B8)).mono ?_
    rintro e W9 ⟨rfl, x9⟩
    have B9 := B8.trans (x9.mono B8.size)
    have b9 : Boxed W9 w.heap.size 4 (.bool false) := (x9.block _ b8.lt).trans b8
    clear x9 b8 B8
    gi_wp2_with fail
    refine ⟨trivial, ?_⟩
    refine (callsIn_wide.2 (runes_any S W9)).mono ?_
    rintro e w' ⟨rfl, rfl⟩
    gi_wp2_with fail
    have bN := Boxed.new W9 9 (.string S)
    have bR := b9.alloc (.cells #[.string S] 9)
    have hz9 := B9.size
    have hB0 : Below w.heap.size w (W9.alloc (.cells #[.string S] 9)) := B9.alloc hz9 _
    have hlt9 := b9.lt
    apply with_frm (α := Pc)
    intro fr hfr
    refine wpIn_rangeFunc_ownG rfl h1 (gf := 33) (lb := #[.pointer (some ⟨W9.heap.size, 0, none⟩)]) rfl trivial (enters_of Tryd.func33 (by kernel_rfl) rfl)
      (runes_stops (n - 1) (by omega) W9.heap.size w.heap.size S _ (by simp) (by simp; omega) h2 bN.cell (tabs_below hT hB0 h2) hSz) Kp_t (Kp_b (by simp; omega) (by simp)) (Below.refl _ _) (fun _ => rfl)
      (fun pre V => Boxed V w.heap.size 4 (.bool false) ∧ (Boxed V W9.heap.size 9 (.string S) ∧ Below w.heap.size w V))
      (fun _ pre _ => ∃ p ∈ pre, inDig p.r = true)
      (OwnFrom.and (Own.from (boxed_own w.heap.size 4 (fun _ : List Pc => Value.bool false)) _) (OwnFrom.and (Own.from (boxed_own W9.heap.size 9 (fun _ => Value.string S)) _) (ownFrom_below (Nat.le_refl _) (by simp; omega))))
      (fun _ _ _ _ _ hs _ _ => hs)
      ⟨bR, bN, hB0⟩
      fr ?assign ?body ?done ?stop
    case assign =>
      intro l x V K hK
      rw [hfr] at hK
      dsimp only [encR]
      gi_wp2
      exact hK
    case stop =>
      rintro D c pre V hD hp ⟨p, hpm, hpr⟩ hK
      have := hSg.out p (hp.subset hpm)
      rw [this] at hpr; cases hpr
    case body =>
      rintro l pre x V ⟨bV, bS, hB⟩ hlt
      rw [hfr]
      clear hfr
      have cV := bV.cell
      have fV := bV.frozen
      cases hx : inDig x.r
      · have e1 : decide (x.r < 32) = false := by have := of_decide_eq_false hx; exact decide_eq_false (by omega)
        have e1' : ¬ x.r < 32 := by have := of_decide_eq_false hx; omega
        have e2 : (x.r == 127) = false := by have := of_decide_eq_false hx; simp; omega
        clear hx
        gi_wp2
        exact ⟨KeepsFrom.refl _ _, ⟨⟨Below.refl _ _, rfl⟩, KeepsWalks.refl _⟩, bV, bS, hB⟩
      · have HX : Hid (∃ p ∈ pre ++ [x], inDig p.r = true) := Lib.hid ⟨x, by simp, hx⟩
        have hd := of_decide_eq_true hx
        by_cases h32 : x.r < 32
        · clear hx hd
          gi_wp2
          exact ⟨(KeepsOthers.setCell _ _ _).from _, HX.out⟩
        · have e1 : decide (x.r < 32) = false := decide_eq_false h32
          have e2 : x.r = 127 := by omega
          obtain ⟨xa, xn, xr⟩ := x
          simp only at e2
          subst e2
          clear hx hd
          gi_wp2
          exact ⟨(KeepsOthers.setCell _ _ _).from _, HX.out⟩
    case done =>
      rintro D ys V hD _ ⟨bV, _, hB⟩ hK
      have hDw : W9.heap.size + 1 ≤ D := by simpa using hD
      gi_wp2_with fail
      refine ⟨trivial, ?_⟩
      refine (C8.out _ hB).mono ?_
      rintro e V2 ⟨⟨vb, rfl, hrb⟩, x2⟩
      obtain ⟨ab, capb, rfl⟩ : ∃ a cap, vb = .slice a 0 cap := by
        rcases hrb.2 with ⟨h1, h0⟩ | ⟨g, cap, cur, rfl, _⟩
        · exact ⟨none, 0, h1⟩
        · exact ⟨_, _, rfl⟩
      have b2 : Boxed V2 w.heap.size 4 (.bool false) := (x2.block _ bV.lt).trans bV
      have k2 : V2.heap[D]? = some (.deferred (some [])) := (x2.block _ (Array.getElem?_eq_some_iff.1 hK).1).trans hK
      have B2 := hB.trans (x2.mono hB.size)
      have c2 := b2.cell
      have f2 := b2.frozen
      have b3 := b2.set (.bool true)
      have k3 : (V2.setCell ⟨w.heap.size, 0, none⟩ (.bool true)).heap[D]? = some (.deferred (some [])) := (KeepsOthers.setCell _ _ _).same D _ k2 rfl
      have B3 := B2.setCell (p := ⟨w.heap.size, 0, none⟩) (Nat.le_refl _) (.bool true)
      gi_wp2
      refine ⟨by simp, .inl ⟨_, _, rfl, run_takeDeferred k3, ?_⟩⟩
      have g3 := (b3.kept (grownBy_putObj' _ D (.deferred none)) (fun e => by have := Option.some.inj e; omega)).cell
      exact ⟨.bool true, by simp [results, Tryd.results6, go_sem, g3], rfl, B3.trans (belowK_b (w := w) (Nat.le_refl _) _ D _ _ (by omega) k3 rfl rfl)⟩
  · clear hu
    obtain ⟨W6, rfl⟩ : ∃ W6, W5 = W6 := ⟨_, rfl⟩
    have B6 := B5
    have b6 := b5
    clear b5 B5
    gi_wp2_with fail
    refine ⟨by first | trivial | (intro f hf; cases hf), ?_⟩
    gi_wp2_with fail
    refine ⟨trivial, ?_⟩
    refine (callsIn_wide.2 (C5.out _ B6)).mono ?_
    rintro e W7 ⟨rfl, x7⟩
    have B7 := B6.trans (x7.mono B6.size)
    have b7 : Boxed W7 w.heap.size 4 (.bool false) := (x7.block _ b6.lt).trans b6
    clear x7 b6 B6
    gi_wp2_with fail
    refine ⟨trivial, ?_⟩
    refine (callsIn_wide.2 (C6.out _ B7)).mono ?_
    rintro e W8 ⟨rfl, x8⟩
    have B8 := B7.trans (x8.mono B7.size)
    have b8 : Boxed W8 w.heap.size 4 (.bool false) := (x8.block _ b7.lt).trans b7
    clear x8 b7 B7
    have hI := hinj.out
    gi_wp2_with fail
    clear hI
    refine ⟨trivial, ?_⟩
    refine (callsIn_wide.2 (C5.out _ B8)).mono ?_
    rintro e W9 ⟨rfl, x9⟩
    have B9 := B8.trans (x9.mono B8.size)
    have b9 : Boxed W9 w.heap.size 4 (.bool false) := (x9.block _ b8.lt).trans b8
    clear x9 b8 B8
    gi_wp2_with fail
    refine ⟨trivial, ?_⟩
    refine (callsIn_wide.2 (runes_any S W9)).mono ?_
    rintro e w' ⟨rfl, rfl⟩
    gi_wp2_with fail
    have bN := Boxed.new W9 9 (.string S)
    have bR := b9.alloc (.cells #[.string S] 9)
    have hz9 := B9.size
    have hB0 : Below w.heap.size w (W9.alloc (.cells #[.string S] 9)) := B9.alloc hz9 _
    have hlt9 := b9.lt
    apply with_frm (α := Pc)
    intro fr hfr
    refine wpIn_rangeFunc_ownG rfl h1 (gf := 33) (lb := #[.pointer (some ⟨W9.heap.size, 0, none⟩)]) rfl trivial (enters_of Tryd.func33 (by kernel_rfl) rfl)
      (runes_stops (n - 1) (by omega) W9.heap.size w.heap.size S _ (by simp) (by simp; omega) h2 bN.cell (tabs_below hT hB0 h2) hSz) Kp_t (Kp_b (by simp; omega) (by simp)) (Below.refl _ _) (fun _ => rfl)
      (fun pre V => Boxed V w.heap.size 4 (.bool false) ∧ (Boxed V W9.heap.size 9 (.string S) ∧ Below w.heap.size w V))
      (fun _ pre _ => ∃ p ∈ pre, inDig p.r = true)
      (OwnFrom.and (Own.from (boxed_own w.heap.size 4 (fun _ : List Pc => Value.bool false)) _) (OwnFrom.and (Own.from (boxed_own W9.heap.size 9 (fun _ => Value.string S)) _) (ownFrom_below (Nat.le_refl _) (by simp; omega))))
      (fun _ _ _ _ _ hs _ _ => hs)
      ⟨bR, bN, hB0⟩
      fr ?assign ?body ?done ?stop
    case assign =>
      intro l x V K hK
      rw [hfr] at hK
      dsimp only [encR]
      gi_wp2
      exact hK
    case stop =>
      rintro D c pre V hD hp ⟨p, hpm, hpr⟩ hK
      have := hSg.out p (hp.subset hpm)
      rw [this] at hpr; cases hpr
    case body =>
      rintro l pre x V ⟨bV, bS, hB⟩ hlt
      rw [hfr]
      clear hfr
      have cV := bV.cell
      have fV := bV.frozen
      cases hx : inDig x.r
      · have e1 : decide (x.r < 32) = false := by have := of_decide_eq_false hx; exact decide_eq_false (by omega)
        have e1' : ¬ x.r < 32 := by have := of_decide_eq_false hx; omega
        have e2 : (x.r == 127) = false := by have := of_decide_eq_false hx; simp; omega
        clear hx
        gi_wp2
        exact ⟨KeepsFrom.refl _ _, ⟨⟨Below.refl _ _, rfl⟩, KeepsWalks.refl _⟩, bV, bS, hB⟩
      · have HX : Hid (∃ p ∈ pre ++ [x], inDig p.r = true) := Lib.hid ⟨x, by simp, hx⟩
        have hd := of_decide_eq_true hx
        by_cases h32 : x.r < 32
        · clear hx hd
          gi_wp2
          exact ⟨(KeepsOthers.setCell _ _ _).from _, HX.out⟩
        · have e1 : decide (x.r < 32) = false := decide_eq_false h32
          have e2 : x.r = 127 := by omega
          obtain ⟨xa, xn, xr⟩ := x
          simp only at e2
          subst e2
          clear hx hd
          gi_wp2
          exact ⟨(KeepsOthers.setCell _ _ _).from _, HX.out⟩
    case done =>
      rintro D ys V hD _ ⟨bV, _, hB⟩ hK
      have hDw : W9.heap.size + 1 ≤ D := by simpa using hD
      gi_wp2_with fail
      refine ⟨trivial, ?_⟩
      refine (C8.out _ hB).mono ?_
      rintro e V2 ⟨⟨vb, rfl, hrb⟩, x2⟩
      obtain ⟨ab, capb, rfl⟩ : ∃ a cap, vb = .slice a 0 cap := by
        rcases hrb.2 with ⟨h1, h0⟩ | ⟨g, cap, cur, rfl, _⟩
        · exact ⟨none, 0, h1⟩
        · exact ⟨_, _, rfl⟩
      have b2 : Boxed V2 w.heap.size 4 (.bool false) := (x2.block _ bV.lt).trans bV
      have k2 : V2.heap[D]? = some (.deferred (some [])) := (x2.block _ (Array.getElem?_eq_some_iff.1 hK).1).trans hK
      have B2 := hB.trans (x2.mono hB.size)
      have c2 := b2.cell
      have f2 := b2.frozen
      have b3 := b2.set (.bool true)
      have k3 : (V2.setCell ⟨w.heap.size, 0, none⟩ (.bool true)).heap[D]? = some (.deferred (some [])) := (KeepsOthers.setCell _ _ _).same D _ k2 rfl
      have B3 := B2.setCell (p := ⟨w.heap.size, 0, none⟩) (Nat.le_refl _) (.bool true)
      gi_wp2
      refine ⟨by simp, .inl ⟨_, _, rfl, run_takeDeferred k3, ?_⟩⟩
      have g3 := (b3.kept (grownBy_putObj' _ D (.deferred none)) (fun e => by have := Option.some.inj e; omega)).cell
      exact ⟨.bool true, by simp [results, Tryd.results6, go_sem, g3], rfl, B3.trans (belowK_b (w := w) (Nat.le_refl _) _ D _ _ (by omega) k3 rfl rfl)⟩
end Go.Proofs.YtdfhpblceoaofaaDoor
