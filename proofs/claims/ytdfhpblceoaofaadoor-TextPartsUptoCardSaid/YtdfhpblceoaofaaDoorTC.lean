/-
  The walk of TextParts.
-/
import Derived.Test.YtdfhpblceoaofaaDoorTB
import Derived.Test.YtdfhpblceoaofaaDoorWO
import Derived.Deep.RegionHeld3
import Derived.Deep.CutRange
namespace Go.Proofs.YtdfhpblceoaofaaDoor
open Go.ChangeShapes Go.WideShapes Go.ChangeAt Go.RowKit Go.Shelf
set_option linter.unusedVariables false
attribute [local go_sem] Oper.semAt_some

/-- A cut: what two cells hold stays. -/
theorem cut_keeps (s : ByteArray) (width : Int) (w W3 : World) (a b : Addr) (va vb : Value) (h2 : 2 ≤ w.heap.size) (hT : Lib.Utf8Tabs 0 1 w) (h3 : Below w.heap.size w W3) (hsz : s.size ≤ 1099511627776) (hlo : -9223372036854775808 ≤ width) (hhi : width ≤ 9223372036854775807) (W : World) (hS : W.cell? a = some va ∧ W.cell? b = some vb ∧ Below W3.heap.size W3 W) :
    Calls Tryd.prog 24 #[.string s, .int .i64 width] W fun e W' => e = .returned (.string (s.extract 0 (fitP s width).1)) ∧ (W'.cell? a = some va ∧ W'.cell? b = some vb ∧ Below W3.heap.size W3 W') := by
  obtain ⟨ha, hb, hB⟩ := hS
  have hb3 := h3.trans (hB.mono h3.size)
  refine (cut_any s width W (Nat.le_trans h2 hb3.size) (tabs_below hT hb3 h2) hsz hlo hhi).mono ?_
  rintro e W' ⟨he, hn⟩
  exact ⟨he, (hn.cell (cell_old ha)).trans ha, (hn.cell (cell_old hb)).trans hb, hB.trans (hn.mono hB.size)⟩
theorem cutB_any (s : ByteArray) (width : Int) (w W : World) (h2 : 2 ≤ w.heap.size) (hT : Lib.Utf8Tabs 0 1 w) (hb : Below w.heap.size w W) (hsz : s.size ≤ 1099511627776) (hlo : -9223372036854775808 ≤ width) (hhi : width ≤ 9223372036854775807) :
    Calls Tryd.prog 24 #[.string s, .int .i64 width] W fun e W' => e = .returned (.string (s.extract 0 (fitP s width).1)) ∧ Below W.heap.size W W' :=
  cut_any s width W (Nat.le_trans h2 hb.size) (tabs_below hT hb h2) hsz hlo hhi
theorem kept_at {W W' : World} {D : Nat} {o : Obj} (h : W.heap[D]? = some o) (hb : Below W.heap.size W W') : W'.heap[D]? = some o := (hb.block D (Array.getElem?_eq_some_iff.1 h).1).trans h
/-- What is in hand behind the loop. -/
theorem lk_all {s : ByteArray} {last sum was : Int} (hL : Lk (LS s 0) last sum was) : ∃ bb : Bool, (((LS s 0).length : Int) == 0) = bb ∧ s.toList.isEmpty = bb ∧ decide ((0 : Int) < ((LS s 0).length : Int)) = (!bb) ∧ (bb = true → sum = (rwsum (G s 0) : Int)) ∧
    (bb = false → ∃ i : Nat, i < s.size ∧ last = (i : Int) ∧ was = (pc s i).r ∧ i + (Utf8.decode s i).2 = s.size ∧ 0 ≤ sum ∧ sum + (wd (pc s i).r : Int) = (rwsum (G s 0) : Int)) := by
  rcases hL with ⟨h, rfl, rfl, rfl⟩ | ⟨q, y, h, rfl, rfl, rfl⟩
  · have hz := ls_none h
    refine ⟨true, by rw [h]; rfl, ?_, by rw [h]; rfl, fun _ => by rw [G_end (by omega)]; rfl, fun h => by cases h⟩
    rw [size_zero hz]; rfl
  · have hl : ((LS s 0).length : Int) = (q.length : Int) + 1 := by rw [h, List.length_append, List.length_singleton, Int.natCast_add]; rfl
    have hb1 : (((LS s 0).length : Int) == 0) = false := by
      cases hc : (((LS s 0).length : Int) == 0)
      · rfl
      · have := eq_of_beq hc; omega
    refine ⟨false, hb1, full_str (by have := y.2; omega), decide_eq_true (by omega), (fun h => by cases h), fun _ => ⟨y.1, y.2, rfl, rfl, ls_last h, by omega, ?_⟩⟩
    rw [← wsum_rwsum, h, wsum_snoc, Int.natCast_add]

set_option maxRecDepth 100000 in
set_option maxHeartbeats 8000000 in
theorem textParts_any (s : ByteArray) (one two : Int) (w : World) (h2 : 2 ≤ w.heap.size) (hT : Lib.Utf8Tabs 0 1 w) (hsz : s.size ≤ 1048576) (hlo1 : -9223372036854775808 ≤ one) (hhi1 : one ≤ 9223372036854775807) (hlo2 : -9223372036854775808 ≤ two) (hhi2 : two ≤ 9223372036854775807) :
    Calls Tryd.prog 7 #[.string s, .int .i64 one, .int .i64 two] w fun e W' => e = .returned (.bool true) ∧ Below w.heap.size w W' := by
  have hGl := LS_len s
  refine (callsIn_wide (n := 10)).1 ?_
  refine callsIn_of_wp_marks Tryd.func7 rfl trivial ?_ rfl
  simp only [Tryd.ntmps7, List.size_toArray, List.length_cons, List.length_nil, Nat.reduceAdd, Nat.reduceSub, Array.replicate_succ, Array.replicate_zero, List.push_toArray, List.append_toArray, List.nil_append, List.cons_append]
  refine wpIn_wide.2 ?_
  go_wp2_with fail
  have hB0 : Below w.heap.size w ((((w.alloc (.cells #[.string s] 9)).alloc (.cells #[.int .i64 one] 3)).alloc (.cells #[.int .i64 two] 3)).alloc (.cells #[.bool false] 4)) := ((((Below.refl _ w).alloc (Nat.le_refl _) _).alloc (by simp) _).alloc (by simp; omega) _).alloc (by simp; omega) _
  have hz0 : ((((w.alloc (.cells #[.string s] 9)).alloc (.cells #[.int .i64 one] 3)).alloc (.cells #[.int .i64 two] 3)).alloc (.cells #[.bool false] 4)).heap.size = w.heap.size + 4 := by simp
  have p0 := (((Boxed.new w 9 (.string s)).alloc (.cells #[.int .i64 one] 3)).alloc (.cells #[.int .i64 two] 3)).alloc (.cells #[.bool false] 4)
  have p1 := ((Boxed.new (w.alloc (.cells #[.string s] 9)) 3 (.int .i64 one)).alloc (.cells #[.int .i64 two] 3)).alloc (.cells #[.bool false] 4)
  have p2 := (Boxed.new ((w.alloc (.cells #[.string s] 9)).alloc (.cells #[.int .i64 one] 3)) 3 (.int .i64 two)).alloc (.cells #[.bool false] 4)
  have p3 := Boxed.new (((w.alloc (.cells #[.string s] 9)).alloc (.cells #[.int .i64 one] 3)).alloc (.cells #[.int .i64 two] 3)) 4 (.bool false)
  simp only [World.size_alloc] at p1 p2 p3
  obtain ⟨W0, hW0⟩ : ∃ W0, (((w.alloc (.cells #[.string s] 9)).alloc (.cells #[.int .i64 one] 3)).alloc (.cells #[.int .i64 two] 3)).alloc (.cells #[.bool false] 4) = W0 := ⟨_, rfl⟩
  rw [hW0] at hB0 hz0 p0 p1 p2 p3 ⊢
  clear hW0
  refine (works_any W0 (by omega) (tabs_below hT hB0 h2)).mono ?_
  rintro e W1 ⟨rfl, b1⟩
  have hB1 := hB0.trans (b1.mono hB0.size)
  have hk1 : w.heap.size + 4 ≤ W1.heap.size := by have := b1.size; omega
  have q0 : Boxed W1 _ _ _ := p0.kept (grownBy_below b1) (by simp)
  have q1 : Boxed W1 _ _ _ := p1.kept (grownBy_below b1) (by simp)
  have q2 : Boxed W1 _ _ _ := p2.kept (grownBy_below b1) (by simp)
  have q3 : Boxed W1 _ _ _ := p3.kept (grownBy_below b1) (by simp)
  clear p0 p1 p2 p3 b1 hB0 hz0
  have c0 : ((((W1.alloc (.cells #[.int .i64 0] 3)).alloc (.cells #[.int .i64 0] 3)).alloc (.cells #[.int .i32 0] 21)).alloc (.cells #[.int .i64 0] 3)).cell? ⟨w.heap.size, 0, none⟩ = some (.string s) := ((((q0.alloc _).alloc _).alloc _).alloc _).cell
  have hP : Pi w.heap.size W1.heap.size s one two 0 0 0 0 w (((((W1.alloc (.cells #[.int .i64 0] 3)).alloc (.cells #[.int .i64 0] 3)).alloc (.cells #[.int .i32 0] 21)).alloc (.cells #[.int .i64 0] 3)).alloc (.cells #[.string s] 9)) := by
    have r0 := ((((Boxed.new W1 3 (.int .i64 0)).alloc (.cells #[.int .i64 0] 3)).alloc (.cells #[.int .i32 0] 21)).alloc (.cells #[.int .i64 0] 3)).alloc (.cells #[.string s] 9)
    have r1 := (((Boxed.new (W1.alloc (.cells #[.int .i64 0] 3)) 3 (.int .i64 0)).alloc (.cells #[.int .i32 0] 21)).alloc (.cells #[.int .i64 0] 3)).alloc (.cells #[.string s] 9)
    have r2 := ((Boxed.new ((W1.alloc (.cells #[.int .i64 0] 3)).alloc (.cells #[.int .i64 0] 3)) 21 (.int .i32 0)).alloc (.cells #[.int .i64 0] 3)).alloc (.cells #[.string s] 9)
    have r3 := (Boxed.new (((W1.alloc (.cells #[.int .i64 0] 3)).alloc (.cells #[.int .i64 0] 3)).alloc (.cells #[.int .i32 0] 21)) 3 (.int .i64 0)).alloc (.cells #[.string s] 9)
    have r4 := Boxed.new ((((W1.alloc (.cells #[.int .i64 0] 3)).alloc (.cells #[.int .i64 0] 3)).alloc (.cells #[.int .i32 0] 21)).alloc (.cells #[.int .i64 0] 3)) 9 (.string s)
    simp only [World.size_alloc] at r1 r2 r3 r4
    exact ⟨((((q0.alloc _).alloc _).alloc _).alloc _).alloc _, ((((q1.alloc _).alloc _).alloc _).alloc _).alloc _, ((((q2.alloc _).alloc _).alloc _).alloc _).alloc _, ((((q3.alloc _).alloc _).alloc _).alloc _).alloc _, r0, r1, r2, r3, r4,
      ((((hB1.alloc (by omega) _).alloc (by simp; omega) _).alloc (by simp; omega) _).alloc (by simp; omega) _).alloc (by simp; omega) _⟩
  have hz2 : (((((W1.alloc (.cells #[.int .i64 0] 3)).alloc (.cells #[.int .i64 0] 3)).alloc (.cells #[.int .i32 0] 21)).alloc (.cells #[.int .i64 0] 3)).alloc (.cells #[.string s] 9)).heap.size = W1.heap.size + 5 := by simp
  go_wp2_with (go_at_call 10; refine (runes_any _ _).mono ?_; rintro e w' ⟨rfl, rfl⟩)
  obtain ⟨W2, hW2⟩ : ∃ W2, ((((W1.alloc (.cells #[.int .i64 0] 3)).alloc (.cells #[.int .i64 0] 3)).alloc (.cells #[.int .i32 0] 21)).alloc (.cells #[.int .i64 0] 3)).alloc (.cells #[.string s] 9) = W2 := ⟨_, rfl⟩
  rw [hW2] at hP hz2 ⊢
  clear hW2 q0 q1 q2 q3 c0 hB1
  generalize W1.heap.size = k at *
  have hzl : k + 5 ≤ W2.heap.size := by omega
  have hzu : W2.heap.size ≤ k + 5 := by omega
  refine (wpIn_wide (n := 10)).1 ?_
  apply with_frm (α := Sub s)
  intro fr hfr
  refine wpIn_range_wide (k := 1) rfl (by decide) (gf := 33) (lb := #[.pointer (some ⟨k + 1 + 1 + 1 + 1, 0, none⟩)]) rfl trivial (enters_of Tryd.func33 (by kernel_rfl) rfl)
    (runes_w (10 - 1) (by omega) (k + 1 + 1 + 1 + 1) w.heap.size s W2 (by omega) (by omega) h2 hP.bt.cell (tabs_below hT hP.be h2) (by omega)) Stay.trans (Stay_b (by omega) (by omega)) (fun _ => rfl)
    (fun pre V => ∃ last sum was, Lk pre last sum was ∧ Pi w.heap.size k s one two last sum was pre.length w V)
    (fun _ _ _ => False)
    (pi_own w.heap.size k s one two w (Nat.le_refl _) hk1 _ hz2)
    (fun _ _ _ _ _ hs _ _ => hs)
    ⟨0, 0, 0, .inl ⟨rfl, rfl, rfl, rfl⟩, hP⟩
    fr ?assign ?body ?done ?stop
  case assign =>
    intro l x W K hK
    rw [hfr] at hK
    dsimp only [encS]
    gi_wp2
    exact hK
  case stop =>
    rintro D c pre W _ _ h _
    exact h.elim
  case body =>
    rintro l pre x V ⟨last, sum, was, hL, hP⟩ hpx hN
    rw [hfr]
    clear hfr
    have hst := ls_step hpx
    have hlen := hpx.length_le
    rw [List.length_append, List.length_singleton] at hlen
    have hT0 : Rd W2.heap.size w.heap.size k s one two last sum was (pre.length : Int) w V V := ⟨hP, Same.refl _ _ _, Below.refl _ _⟩
    have bV := hP.bt
    have fl := hP.bl.frozen
    have fw := hP.bw.frozen
    have fn := hP.bn.frozen
    have cL := hP.bl.cell
    have cW := hP.bw.cell
    have cN := hP.bn.cell
    have cl := hP.bl.cell
    have hd : 1 ≤ 10 - 1 - 1 := by decide
    have hxs := x.2
    rcases hL with ⟨rfl, rfl, rfl, rfl⟩ | ⟨q, y, rfl, rfl, rfl, rfl⟩
    · have hx0 := hst.1 rfl
      have t0 : ((x.1 : Int) != 0) = false := by simp [hx0]
      simp only [List.length_nil] at hT0 cN
      have hLk : Hid (Lk ([] ++ [x]) (x.1 : Int) 0 (pc s x.1).r) := Lib.hid (.inr ⟨[], x, rfl, rfl, rfl, rfl⟩)
      have T := ((hT0.setL hk1 hzl (x.1 : Int)).setW hk1 hzl (pc s x.1).r).setN hk1 hzl 1
      clear hst hpx hx0
      gi_wp2
      exact T.done bV hLk.out rfl
    · have hx1 := hst.2 q y rfl
      have hys := y.2
      have hdb := dec_bd s y.1 hys
      have hpt : s.extract y.1 x.1 = part s y.1 := by rw [hx1]; rfl
      have hly : y.1 < x.1 := by omega
      have hn0 : (0 : Int) < ((q ++ [y]).length : Int) := by simp only [List.length_append, List.length_singleton]; omega
      have hd1 : ¬ (x.1 : Int) ≤ (y.1 : Int) := by omega
      have hi1 : (y.1 : Int) ≤ (x.1 : Int) := by omega
      have hi2 : (x.1 : Int) ≤ (s.size : Int) := by omega
      have hi0 : (0 : Int) ≤ (y.1 : Int) := by omega
      have hq := wsum_le q
      have hw4 := wd_le (pc s y.1).r
      simp only [List.length_append, List.length_singleton] at hlen
      have hwr : IntKind.i64.wrap ((wsum q : Int) + (wd (pc s y.1).r : Int)) = (wsum q : Int) + (wd (pc s y.1).r : Int) := IntWalk.i64_in _ (by omega)
      have hwn : IntKind.i64.wrap ((q.length : Int) + 1 + 1) = (q.length : Int) + 1 + 1 := IntWalk.i64_in _ (by omega)
      have HW : Hid (∀ A, Below w.heap.size w A → Calls Tryd.prog 16 #[.string (s.extract y.1 x.1)] A fun e W' => e = .returned (.int .i64 (wd (pc s y.1).r : Int)) ∧ Below A.heap.size A W') := Lib.hid (fun A hA => by
        rw [hpt, ← part_wide hys]
        exact width_any _ w A h2 hT hA (by rw [part_size hys]; omega))
      have hLk : Hid (Lk (q ++ [y] ++ [x]) (x.1 : Int) ((wsum q : Int) + (wd (pc s y.1).r : Int)) (pc s x.1).r) := Lib.hid (.inr ⟨q ++ [y], x, rfl, rfl, by rw [wsum_snoc, Int.natCast_add], rfl⟩)
      have hmx : Tryd.prog.follows .mixedOrders = true := by kernel_rfl
      have cS := hP.bs.cell
      have hT1 : Rd W2.heap.size w.heap.size k s one two (y.1 : Int) (wsum q : Int) (pc s y.1).r ((q.length : Int) + 1) w V V := by
        rw [List.length_append, List.length_singleton, Int.natCast_add] at hT0; exact hT0
      by_cases hr : (pc s y.1).r < 0
      · have hz1 : (((min x.1 s.size - y.1 : Nat) : Int) != 1) = false := by
          have h1 := part_neg hys hr
          rw [part_size hys] at h1
          rw [show min x.1 s.size - y.1 = 1 by omega]; rfl
        have hr0 : ¬ 0 ≤ (pc s y.1).r := by omega
        clear hst hpx hx1 hpt hdb hlen hly hq hw4 hys hxs
        gi_wp2_with fail
        have Td := hT1.drew
        have hbd := Td.pi.be
        have cM : V.drew.cell? ⟨k + 1, 0, none⟩ = some (.int .i64 (wsum q : Int)) := Td.pi.bm.cell
        have fM := Td.pi.bm.frozen
        gi_region_with_o (refine ⟨trivial, ?_⟩; gi_at_call 16; refine (CallsIn.inRound l (callsIn_wide.2 (HW.out _ hbd))).mono ?_; rintro e W3 ⟨rfl, hb⟩; have T1 := Td.call hk1 hN hb; have cM3 := T1.pi.bm.cell; have fM3 := T1.pi.bm.frozen)
        all_goals
          have T2 := (((T1.setM hk1 hzl ((wsum q : Int) + (wd (pc s y.1).r : Int))).setL hk1 hzl (x.1 : Int)).setW hk1 hzl (pc s x.1).r).setN hk1 hzl ((q.length : Int) + 1 + 1)
          have cN3 := T1.pi.bn.cell
          have fN3 := T1.pi.bn.frozen
          have fL3 := T1.pi.bl.frozen
          have fW3 := T1.pi.bw.frozen
          have cL3 := T1.pi.bl.cell
          have cW3 := T1.pi.bw.cell
          (try gi_wp2)
        all_goals exact T2.done bV hLk.out (by simp)
      · have hr0 : 0 ≤ (pc s y.1).r := by omega
        have hcv : (convert 47 9 (.slice (some ⟨V.heap.size, 0, none⟩) 1 1)).run Tryd.prog (V.alloc (.cells #[.int .i32 (pc s y.1).r] 21)) = .ok (.string (s.extract y.1 x.1)) (V.alloc (.cells #[.int .i32 (pc s y.1).r] 21)) := by
          rw [hpt, part_rune hys hr0]; exact conv_rune _ V
        clear hst hpx hx1 hpt hdb hlen hly hq hw4 hys hxs
        gi_wp2_with fail
        have Td := (hT1.alloc hk1 hN (.cells #[.int .i32 (pc s y.1).r] 21)).drew
        have hbd := Td.pi.be
        have cM : (V.alloc (.cells #[.int .i32 (pc s y.1).r] 21)).drew.cell? ⟨k + 1, 0, none⟩ = some (.int .i64 (wsum q : Int)) := Td.pi.bm.cell
        have fM := Td.pi.bm.frozen
        gi_region_with_o (refine ⟨trivial, ?_⟩; gi_at_call 16; refine (CallsIn.inRound l (callsIn_wide.2 (HW.out _ hbd))).mono ?_; rintro e W3 ⟨rfl, hb⟩; have T1 := Td.call hk1 hN hb; have cM3 := T1.pi.bm.cell; have fM3 := T1.pi.bm.frozen)
        all_goals
          have T2 := (((T1.setM hk1 hzl ((wsum q : Int) + (wd (pc s y.1).r : Int))).setL hk1 hzl (x.1 : Int)).setW hk1 hzl (pc s x.1).r).setN hk1 hzl ((q.length : Int) + 1 + 1)
          have cN3 := T1.pi.bn.cell
          have fN3 := T1.pi.bn.frozen
          have fL3 := T1.pi.bl.frozen
          have fW3 := T1.pi.bw.frozen
          have cL3 := T1.pi.bl.cell
          have cW3 := T1.pi.bw.cell
          (try gi_wp2)
        all_goals exact T2.done bV hLk.out (by simp)
  case done =>
    rintro D ys W hD rfl ⟨last, sum, was, hL, hP⟩ hK
    obtain ⟨bb, e1, e2, e3, f1, f2⟩ := lk_all hL
    have cS := hP.bs.cell
    have cN := hP.bn.cell
    clear hL hfr
    have F1 := Lib.hid f1
    have F2 := Lib.hid f2
    clear f1 f2
    have hbb : (bb != bb) = false := by cases bb <;> rfl
    go_upto_if 72 with (fail)
    go_cut [14] from 66 to 97 (fun s14 wx => Pi w.heap.size k s one two last (rwsum (G s 0) : Int) was ((LS s 0).length : Int) w wx ∧ wx.heap[D]? = some (.deferred (some [])))
    case first =>
      cases bb
      · obtain ⟨i, hi, rfl, rfl, hie, hs0, hse⟩ := F2.out rfl
        have hr4 := rwsum_G s
        have hpos : 0 < (LS s 0).length := by have := of_decide_eq_true e3; omega
        have hpos' : (0 : Int) < ((LS s 0).length : Int) := by omega
        clear e3
        have cl := hP.bl.cell
        have cW := hP.bw.cell
        have hi0 : (0 : Int) ≤ (i : Int) := by omega
        have hi1 : (i : Int) ≤ (s.size : Int) := by omega
        have hpt : s.extract i s.size = part s i := by unfold part; rw [hie]
        have hw4 := wd_le (pc s i).r
        have hwr : IntKind.i64.wrap (sum + (wd (pc s i).r : Int)) = sum + (wd (pc s i).r : Int) := IntWalk.i64_in _ (by omega)
        have hwr2 : IntKind.i64.wrap (rwsum (G s 0) : Int) = (rwsum (G s 0) : Int) := IntWalk.i64_in _ (by omega)
        have hmx : Tryd.prog.follows .mixedOrders = true := by kernel_rfl
        have HW : Hid (∀ A, Below w.heap.size w A → Calls Tryd.prog 16 #[.string (s.extract i s.size)] A fun e W' => e = .returned (.int .i64 (wd (pc s i).r : Int)) ∧ Below A.heap.size A W') := Lib.hid (fun A hA => by
          rw [hpt, ← part_wide hi]
          exact width_any _ w A h2 hT hA (by rw [part_size hi]; omega))
        by_cases hr : (pc s i).r < 0
        · have hz1 : (((s.size - i : Nat) : Int) != 1) = false := by
            have h1 := part_neg hi hr
            rw [part_size hi] at h1
            rw [show s.size - i = 1 by omega]; rfl
          have hr0 : ¬ 0 ≤ (pc s i).r := by omega
          clear hpt hw4 hr4
          go_wp2_with fail
          have Td := hP.drew
          have hbd := Td.be
          have cM : W.drew.cell? ⟨k + 1, 0, none⟩ = some (.int .i64 sum) := Td.bm.cell
          have fM := Td.bm.frozen
          refine wp_region_noPanic ?_
          go_region_with (go_at_call 16; refine (HW.out _ hbd).mono ?_; rintro e W3 ⟨rfl, hb⟩; have T1 := Td.call hk1 hb; have cM3 := T1.bm.cell; have fM3 := T1.bm.frozen; have hK3 := (hb.block D (Array.getElem?_eq_some_iff.1 hK).1).trans hK)
          all_goals
            have T2 := T1.setM hk1 (sum + (wd (pc s i).r : Int))
            have hK4 := (KeepsOthers.setCell W3 ⟨k + 1, 0, none⟩ (.int .i64 (sum + (wd (pc s i).r : Int)))).same D _ hK3 rfl
            refine NoPanic.normal ?_
            (try go_wp2_with fail)
            go_meet
            rw [hse] at T2 hK4
            exact ⟨T2, hK4⟩
        · have hr0 : 0 ≤ (pc s i).r := by omega
          have hcv : (convert 47 9 (.slice (some ⟨W.heap.size, 0, none⟩) 1 1)).run Tryd.prog (W.alloc (.cells #[.int .i32 (pc s i).r] 21)) = .ok (.string (s.extract i s.size)) (W.alloc (.cells #[.int .i32 (pc s i).r] 21)) := by
            rw [hpt, part_rune hi hr0]; exact conv_rune _ W
          clear hpt hw4 hr4
          go_wp2_with fail
          have Td := (hP.alloc hk1 (.cells #[.int .i32 (pc s i).r] 21)).drew
          have hbd := Td.be
          have cM : (W.alloc (.cells #[.int .i32 (pc s i).r] 21)).drew.cell? ⟨k + 1, 0, none⟩ = some (.int .i64 sum) := Td.bm.cell
          have fM := Td.bm.frozen
          have hKa : (W.alloc (.cells #[.int .i32 (pc s i).r] 21)).heap[D]? = some (.deferred (some [])) := (Below.heap_alloc W _ D (Array.getElem?_eq_some_iff.1 hK).1).trans hK
          refine wp_region_noPanic ?_
          go_region_with (go_at_call 16; refine (HW.out _ hbd).mono ?_; rintro e W3 ⟨rfl, hb⟩; have T1 := Td.call hk1 hb; have cM3 := T1.bm.cell; have fM3 := T1.bm.frozen; have hK3 := (hb.block D (Array.getElem?_eq_some_iff.1 hKa).1).trans hKa)
          all_goals
            have T2 := T1.setM hk1 (sum + (wd (pc s i).r : Int))
            have hK4 := (KeepsOthers.setCell W3 ⟨k + 1, 0, none⟩ (.int .i64 (sum + (wd (pc s i).r : Int)))).same D _ hK3 rfl
            refine NoPanic.normal ?_
            (try go_wp2_with fail)
            go_meet
            rw [hse] at T2 hK4
            exact ⟨T2, hK4⟩
      · have hs := F1.out rfl
        subst hs
        have hneg : ¬ 0 < (LS s 0).length := by have := of_decide_eq_false e3; omega
        have hneg' : ¬ (0 : Int) < ((LS s 0).length : Int) := by omega
        clear e3
        go_wp2_with fail
        go_meet
        exact ⟨hP, hK⟩
    case rest =>
      obtain ⟨hP, hK⟩ := hcut
      clear cN cS F1 F2 e1 e2 e3
      have hcuts := two_cuts s (min one two) (max one two) (by omega)
      have kN := fun A hA => cutB_any s (min one two) w A h2 hT hA (by omega) (by omega) (by omega)
      have kW := fun A hA => cutB_any s (max one two) w A h2 hT hA (by omega) (by omega) (by omega)
      generalize s.extract 0 (fitP s (min one two)).1 = N at *
      generalize s.extract 0 (fitP s (max one two)).1 = Wc at *
      have HN := Lib.hid kN
      have HWc := Lib.hid kW
      have HC := Lib.hid hcuts
      have hr4 := rwsum_G s
      have g1 := hcuts.nw
      have g2 := hcuts.ws
      have hwe := hcuts.w
      have hne := hcuts.n
      clear kN kW hcuts
      have cS := hP.bs.cell
      have c1 := hP.b1.cell
      have c2 := hP.b2.cell
      go_wp2_with fail
      refine (HN.out _ hP.be).mono ?_
      rintro e A1 ⟨rfl, hb1⟩
      have P1 := hP.call hk1 hb1
      have K1 := kept_at hK hb1
      clear hP hK hb1 cS c1 c2 HN
      have cS := P1.bs.cell
      have c1 := P1.b1.cell
      have c2 := P1.b2.cell
      go_wp2_with fail
      refine (HWc.out _ P1.be).mono ?_
      rintro e A2 ⟨rfl, hb2⟩
      have P2 := P1.call hk1 hb2
      have K2 := kept_at K1 hb2
      clear P1 K1 hb2 cS c1 c2 HWc
      go_wp2_with fail
      have HX := Lib.hid (width_keeps s w A2 ⟨w.heap.size, 0, none⟩ ⟨k + 1, 0, none⟩ (.string s) (.int .i64 (rwsum (G s 0) : Int)) h2 hT P2.be (by omega))
      have kX := cut_keeps s (rwsum (G s 0) : Int) w A2 ⟨w.heap.size, 0, none⟩ ⟨k + 1, 0, none⟩ (.string s) (.int .i64 (rwsum (G s 0) : Int)) h2 hT P2.be (by omega) (by omega) (by omega)
      rw [cut_all] at kX
      have HY := Lib.hid kX
      clear kX
      have d1 : A2.drew.cell? ⟨w.heap.size, 0, none⟩ = some (.string s) := P2.bs.cell
      have d2 : A2.drew.cell? ⟨k + 1, 0, none⟩ = some (.int .i64 (rwsum (G s 0) : Int)) := P2.bm.cell
      have d3 : Below A2.heap.size A2 A2.drew := ⟨rfl, rfl, rfl, Nat.le_refl _, fun _ _ => rfl⟩
      have z1 : decide ((Wc.size : Int) < (N.size : Int)) = false := decide_eq_false (by omega)
      have z2 : decide ((s.size : Int) < (Wc.size : Int)) = false := decide_eq_false (by omega)
      have y1 : decide (Wc.size < N.size) = false := decide_eq_false (by omega)
      have y2 : decide (s.size < Wc.size) = false := decide_eq_false (by omega)
      have y1' : ¬ Wc.size < N.size := by omega
      have y2' : ¬ s.size < Wc.size := by omega
      have z1' : ¬ (Wc.size : Int) < (N.size : Int) := by omega
      have z2' : ¬ (s.size : Int) < (Wc.size : Int) := by omega
      have z3 : (N.size : Int) ≤ (Wc.size : Int) := by omega
      have z4 : (Wc.size : Int) ≤ (s.size : Int) := by omega
      have z5 : (0 : Int) ≤ (N.size : Int) := by omega
      have z6 : (0 : Int) ≤ (Wc.size : Int) := by omega
      go_cut [15, 16, 148] from 108 to 147 (fun s15 s16 s148 wx => s16 = .string Wc ∧ s148 = .bool false ∧ Pi w.heap.size k s one two last (rwsum (G s 0) : Int) was ((LS s 0).length : Int) w wx ∧ wx.heap[D]? = some (.deferred (some [])))
      case first =>
        go_region_held3 (fun w' => w'.cell? ⟨w.heap.size, 0, none⟩ = some (.string s) ∧ w'.cell? ⟨k + 1, 0, none⟩ = some (.int .i64 (rwsum (G s 0) : Int)) ∧ Below A2.heap.size A2 w') ((refine ⟨?_, ?_, ?_⟩) <;> assumption) (first | (go_at_call 16; (with_reducible refine Calls.mono (HX.out _ ?_) ?_); (· ((refine ⟨?_, ?_, ?_⟩) <;> assumption)); rintro e W' ⟨rfl, hS1, hS2, hS3⟩) | (go_at_call 24; (with_reducible refine Calls.mono (HY.out _ ?_) ?_); (· ((refine ⟨?_, ?_, ?_⟩) <;> assumption)); rintro e W' ⟨rfl, hS1, hS2, hS3⟩))
        all_goals (go_wp2_with fail)
        all_goals go_meet
        all_goals exact ⟨rfl, rfl, P2.call hk1 hS3, kept_at K2 hS3⟩
      case rest =>
        clear P2 K2 HX HY d1 d2 d3
        obtain ⟨rfl, rfl, P3, K3⟩ := hcut
        go_wp2_with fail
        refine (width_any Wc w _ h2 hT P3.be (by omega)).mono ?_
        rintro e A4 ⟨rfl, hb4⟩
        have P4 := P3.call hk1 hb4
        have K4 := kept_at K3 hb4
        clear P3 K3 hb4
        have Pa := P4.alloc hk1 (.cells #[.int .i64 (rwsum (G Wc 0) : Int)] 3)
        have c1 := Pa.b1.cell
        have c2 := Pa.b2.cell
        have cS := Pa.bs.cell
        obtain ⟨mb, hmb⟩ : ∃ mb, (if one < two then two else one) = mb := ⟨_, rfl⟩
        have hmx2 : max one two = mb := by rw [← hmb]; split <;> omega
        obtain ⟨m3, hm3⟩ : ∃ m3, (if mb < 0 then 0 else mb) = m3 := ⟨_, rfl⟩
        have htop := HC.out.top
        have hnext := HC.out.next
        rw [hmx2] at htop hnext
        have hM : ¬ m3 < (rwsum (G Wc 0) : Int) := by rw [← hm3]; split <;> omega
        have hM' : (rwsum (G Wc 0) : Int) ≤ m3 := by omega
        have hlob : -9223372036854775808 ≤ mb := by omega
        have hhib : mb ≤ 9223372036854775807 := by omega
        have hwr : IntKind.i64.wrap (mb - (rwsum (G Wc 0) : Int)) = mb - (rwsum (G Wc 0) : Int) := IntWalk.i64_in _ (by omega)
        have HNx := Lib.hid hnext
        have HMX := Lib.hid hmx2
        have HWh := Lib.hid HC.out.whole
        clear htop hnext HC hwe hne hmx2
        go_wp2_with (go_at_call 10; refine (runes_any _ _).mono ?_; rintro e w' ⟨rfl, rfl⟩)
        have Pb := Pa.alloc hk1 (.cells #[.string (s.extract Wc.size s.size)] 9)
        have bW := (Boxed.new A4 3 (.int .i64 (rwsum (G Wc 0) : Int))).alloc (.cells #[.string (s.extract Wc.size s.size)] 9)
        have bR := Boxed.new (A4.alloc (.cells #[.int .i64 (rwsum (G Wc 0) : Int)] 3)) 9 (.string (s.extract Wc.size s.size))
        rw [World.size_alloc] at bR
        have K5 := kept_at (kept_at K4 ((Below.refl _ A4).alloc (Nat.le_refl _) (.cells #[.int .i64 (rwsum (G Wc 0) : Int)] 3))) ((Below.refl _ _).alloc (Nat.le_refl _) (.cells #[.string (s.extract Wc.size s.size)] 9))
        have hz5 : ((A4.alloc (.cells #[.int .i64 (rwsum (G Wc 0) : Int)] 3)).alloc (.cells #[.string (s.extract Wc.size s.size)] 9)).heap.size = A4.heap.size + 2 := by simp
        have hc4 : k + 5 ≤ A4.heap.size := by have := P4.bt.lt; omega
        obtain ⟨A5, hA5⟩ : ∃ A5, (A4.alloc (.cells #[.int .i64 (rwsum (G Wc 0) : Int)] 3)).alloc (.cells #[.string (s.extract Wc.size s.size)] 9) = A5 := ⟨_, rfl⟩
        rw [hA5] at Pb bW bR K5 hz5 ⊢
        clear hA5 P4 K4 Pa c1 c2 cS
        generalize A4.heap.size = c at *
        have hDl : D < A5.heap.size := (Array.getElem?_eq_some_iff.1 K5).1
        have hrz : (s.extract Wc.size s.size).size = s.size - Wc.size := by simp
        have hpc : Hid (Wc.size < s.size → (pc (s.extract Wc.size s.size) 0).r = (pc s Wc.size).r) := Lib.hid (fun h => pc_r_eq (by
          have hb := dec_bd s Wc.size h
          have := dec_part s Wc.size s.size 0 (Nat.le_refl _) (by omega) (by rw [Nat.add_zero]; exact hb.2.2.1)
          rw [Nat.add_zero] at this; exact this))
        generalize s.extract Wc.size s.size = rs at *
        refine (wpIn_wide (n := 10)).1 ?_
        apply with_frm (α := Sub rs)
        intro fr hfr
        refine wpIn_range_wide (k := 1) rfl (by decide) (gf := 33) (lb := #[.pointer (some ⟨c + 1, 0, none⟩)]) rfl trivial (enters_of Tryd.func33 (by kernel_rfl) rfl)
          (runes_w (10 - 1) (by omega) (c + 1) w.heap.size rs A5 (by omega) (by omega) h2 bR.cell (tabs_below hT Pb.be h2) (by omega)) Stay.trans (Stay_b (by omega) (by omega)) (fun _ => rfl)
          (fun pre V => pre = [] ∧ Boxed V (w.heap.size + 1) 3 (.int .i64 one) ∧ Boxed V (w.heap.size + 1 + 1) 3 (.int .i64 two) ∧ Boxed V (w.heap.size + 1 + 1 + 1) 4 (.bool false) ∧ Boxed V w.heap.size 9 (.string s) ∧ Boxed V c 3 (.int .i64 (rwsum (G Wc 0) : Int)) ∧ V.heap[D]? = some (.deferred (some [])) ∧ Below w.heap.size w V)
          (fun cc _ V => cc = .ret ∧ Boxed V (w.heap.size + 1 + 1 + 1) 4 (.bool true) ∧ V.heap[D]? = some (.deferred (some [])) ∧ Below w.heap.size w V)
          ?own1 ?own2
          ⟨rfl, Pb.b1, Pb.b2, Pb.br, Pb.bs, bW, K5, Pb.be⟩
          fr ?assign2 ?body2 ?done2 ?stop2
        case own1 =>
          rintro pre X Y row ⟨h0, q1, q2, q3, q4, q5, q6, q7⟩ hg hr
          have f : ∀ b t' u, Boxed X b t' u → b < A5.heap.size → Boxed Y b t' u := fun b t' u hb hlt => hb.kept hg (fun e => by have := (hr _ e.symm).1; omega)
          exact ⟨h0, f _ _ _ q1 (by omega), f _ _ _ q2 (by omega), f _ _ _ q3 (by omega), f _ _ _ q4 (by omega), f _ _ _ q5 (by omega),
            (hg.block D (Array.getElem?_eq_some_iff.1 q6).1 (fun e => by have := (hr _ e.symm).1; omega)).trans q6, ownFrom_below (β := Unit) (Nat.le_refl _) (by omega) () X Y row q7 hg hr⟩
        case own2 =>
          rintro cc pre X Y row ⟨h0, q3, q6, q7⟩ hg hr
          exact ⟨h0, q3.kept hg (fun e => by have := (hr _ e.symm).1; omega),
            (hg.block D (Array.getElem?_eq_some_iff.1 q6).1 (fun e => by have := (hr _ e.symm).1; omega)).trans q6, ownFrom_below (β := Unit) (Nat.le_refl _) (by omega) () X Y row q7 hg hr⟩
        case assign2 =>
          intro l x W K hK
          rw [hfr] at hK
          dsimp only [encS]
          gi_wp2
          exact hK
        case body2 =>
          rintro l pre x V ⟨rfl, q1, q2, q3, q4, q5, q6, q7⟩ hpx hN
          rw [hfr]
          clear hfr
          have hx0 := (ls_step hpx).1 rfl
          have hxs := x.2
          have hpr := hpc.out (by omega)
          have hnx := HNx.out (by omega)
          have hnx : mb - (rwsum (G Wc 0) : Int) < (wd (pc rs x.1).r : Int) := by rw [hx0, hpr]; exact hnx
          have c1 := q1.cell
          have c2 := q2.cell
          have c3 := q3.cell
          have f3 := q3.frozen
          have c5 := q5.cell
          have hd : 1 ≤ 10 - 1 - 1 := by decide
          have X := Lib.hid (show Same A5.heap.size (A5.heap.size + 2 + 1) V (V.setCell ⟨w.heap.size + 1 + 1 + 1, 0, none⟩ (.bool true)) ∧ (Code.ret = .ret ∧ Boxed (V.setCell ⟨w.heap.size + 1 + 1 + 1, 0, none⟩ (.bool true)) (w.heap.size + 1 + 1 + 1) 4 (.bool true) ∧ (V.setCell ⟨w.heap.size + 1 + 1 + 1, 0, none⟩ (.bool true)).heap[D]? = some (.deferred (some [])) ∧ Below w.heap.size w (V.setCell ⟨w.heap.size + 1 + 1 + 1, 0, none⟩ (.bool true))) from
            ⟨Same.setCell _ _ _ (.inl (by show w.heap.size + 1 + 1 + 1 < A5.heap.size; omega)), rfl, q3.set _, (KeepsOthers.setCell V ⟨w.heap.size + 1 + 1 + 1, 0, none⟩ (.bool true)).same D _ q6 rfl, q7.setCell (p := ⟨w.heap.size + 1 + 1 + 1, 0, none⟩) (by show w.heap.size ≤ w.heap.size + 1 + 1 + 1; omega) _⟩)
          have hmx2 := HMX.out
          clear hpx hN hpr hx0 HNx HWh hz5 HMX
          by_cases r1 : (pc rs x.1).r < 32
          · have e9 : ((pc rs x.1).r == 92) = false := by
              cases hc : ((pc rs x.1).r == 92)
              · rfl
              · have := eq_of_beq hc; omega
            have hv : mb - (rwsum (G Wc 0) : Int) < 4 := by
              have : wd (pc rs x.1).r = 4 := by unfold wd inDig; simp [r1]
              omega
            clear hnx
            gi_wp2
            exact ⟨X.out.1, rfl, X.out.2.2⟩
          · have r1' : 32 ≤ (pc rs x.1).r := by omega
            by_cases r2 : (pc rs x.1).r = 127
            · have e7 : ((pc rs x.1).r == 127) = true := by rw [r2]; rfl
              have e9 : ((pc rs x.1).r == 92) = false := by rw [r2]; rfl
              have hv : mb - (rwsum (G Wc 0) : Int) < 4 := by
                have : wd (pc rs x.1).r = 4 := by rw [r2]; decide
                omega
              clear hnx r2
              gi_wp2
              exact ⟨X.out.1, rfl, X.out.2.2⟩
            · have e7 : ((pc rs x.1).r == 127) = false := by simpa using r2
              by_cases r3 : (pc rs x.1).r = 92
              · have e9 : ((pc rs x.1).r == 92) = true := by rw [r3]; rfl
                have hv : mb - (rwsum (G Wc 0) : Int) < 2 := by
                  have : wd (pc rs x.1).r = 2 := by rw [r3]; decide
                  omega
                clear hnx r3 r2
                gi_wp2
                exact ⟨X.out.1, rfl, X.out.2.2⟩
              · have e9 : ((pc rs x.1).r == 92) = false := by simpa using r3
                have hv : mb - (rwsum (G Wc 0) : Int) < 1 := by
                  have hq : inDig (pc rs x.1).r = false := by unfold inDig; exact decide_eq_false (by omega)
                  have : wd (pc rs x.1).r = 1 := by unfold wd; rw [hq]; simp [r3]
                  omega
                clear hnx r3 r2
                gi_wp2
                exact ⟨X.out.1, rfl, X.out.2.2⟩
        case done2 =>
          rintro D2 ys V hD2 rfl ⟨hnil, q1, q2, q3, q4, q5, q6, q7⟩ hK2
          have hrn := ls_none hnil
          have hws := HWh.out (by omega)
          subst hws
          have cS := q4.cell
          have cR := q3.cell
          have fR := q3.frozen
          go_wp2_with fail
          have qX := q3.set (.bool true)
          have kX := (KeepsOthers.setCell V ⟨w.heap.size + 1 + 1 + 1, 0, none⟩ (.bool true)).same D _ q6 rfl
          have kX2 := (KeepsOthers.setCell V ⟨w.heap.size + 1 + 1 + 1, 0, none⟩ (.bool true)).same D2 _ hK2 rfl
          have lX := q7.setCell (p := ⟨w.heap.size + 1 + 1 + 1, 0, none⟩) (by show w.heap.size ≤ w.heap.size + 1 + 1 + 1; omega) (.bool true)
          generalize V.setCell ⟨w.heap.size + 1 + 1 + 1, 0, none⟩ (.bool true) = X0 at *
          have hne : D ≠ D2 := by omega
          have r1 : Boxed (X0.putObj D2 (.deferred none)) (w.heap.size + 1 + 1 + 1) 4 (.bool true) := qX.kept (grownBy_putObj' _ D2 _) (fun e => by cases e; rw [show _ = _ from qX] at kX2; cases kX2)
          have e01 : (X0.putObj D2 (.deferred none)).heap[D]? = some (.deferred (some [])) := (World.putObj_heap_other hne).trans kX
          have r2 : Boxed ((X0.putObj D2 (.deferred none)).putObj D (.deferred none)) (w.heap.size + 1 + 1 + 1) 4 (.bool true) := r1.kept (grownBy_putObj' _ D _) (fun e => by cases e; rw [show _ = _ from r1] at e01; cases e01)
          have l1 := lX.trans (belowK_b (w := w) (Nat.le_refl _) _ D2 _ (.deferred none) (by omega) kX2 rfl rfl)
          have l2 := l1.trans (belowK_b (w := w) (Nat.le_refl _) _ D _ (.deferred none) (by omega) e01 rfl rfl)
          have cB := r2.cell
          refine ⟨by simp, .inl ⟨_, _, rfl, run_takeDeferred kX2, ?_⟩⟩
          refine ⟨by simp, .inl ⟨_, _, rfl, run_takeDeferred e01, ?_⟩⟩
          exact ⟨.bool true, by simp [results, Tryd.results7, go_sem, cB], rfl, l2⟩
        case stop2 =>
          rintro D2 cc pre V hD2 hp ⟨rfl, q3, q6, q7⟩ hK2
          gi_wp2
          obtain ⟨X0, hX0⟩ : ∃ X0, X0 = V := ⟨_, rfl⟩
          rw [← hX0] at q3 q6 q7 hK2 ⊢
          have qX := q3
          have kX := q6
          have kX2 := hK2
          have lX := q7
          have hne : D ≠ D2 := by omega
          have r1 : Boxed (X0.putObj D2 (.deferred none)) (w.heap.size + 1 + 1 + 1) 4 (.bool true) := qX.kept (grownBy_putObj' _ D2 _) (fun e => by cases e; rw [show _ = _ from qX] at kX2; cases kX2)
          have e01 : (X0.putObj D2 (.deferred none)).heap[D]? = some (.deferred (some [])) := (World.putObj_heap_other hne).trans kX
          have r2 : Boxed ((X0.putObj D2 (.deferred none)).putObj D (.deferred none)) (w.heap.size + 1 + 1 + 1) 4 (.bool true) := r1.kept (grownBy_putObj' _ D _) (fun e => by cases e; rw [show _ = _ from r1] at e01; cases e01)
          have l1 := lX.trans (belowK_b (w := w) (Nat.le_refl _) _ D2 _ (.deferred none) (by omega) kX2 rfl rfl)
          have l2 := l1.trans (belowK_b (w := w) (Nat.le_refl _) _ D _ (.deferred none) (by omega) e01 rfl rfl)
          have cB := r2.cell
          refine ⟨by simp, .inl ⟨_, _, rfl, run_takeDeferred kX2, ?_⟩⟩
          refine ⟨by simp, .inl ⟨_, _, rfl, run_takeDeferred e01, ?_⟩⟩
          exact ⟨.bool true, by simp [results, Tryd.results7, go_sem, cB], rfl, l2⟩
end Go.Proofs.YtdfhpblceoaofaaDoor
