/-
  PlaceTexts: the law's walk.
-/
import Derived.Test.YtocdinaomkmcbaaDoorPA
import Derived.Test.YtocdinaomkmcbaaDoorX
import Derived.Test.YtocdinaomkmcbaaDoorN
namespace Go.Proofs.YtocdinaomkmcbaaDoor
open Go.ChangeShapes Go.WideShapes Go.ChangeAt Go.RowKit Go.Shelf
set_option linter.unusedVariables false

def pr (s : ByteArray) : List Pl := (prs s.data.toList).getD []
def pc (s : ByteArray) : Int := if (prs s.data.toList).isSome then 0 else 4
theorem PR.uni {B : Nat} {s : ByteArray} {e : Ending} {W : World} (h : PR B s e W) : ∃ v, e = .returned (.tuple #[v, .int .i64 (pc s)]) ∧ W.ownsRow B 48 2 v (pr s).length (flat (pr s)) := by
  unfold pr pc
  rcases h with ⟨l, v, h1, h2, h3⟩ | ⟨h1, h2⟩
  · rw [h1]; exact ⟨v, h2, h3⟩
  · rw [h1]; exact ⟨_, h2, World.ownsRow_nil _ _ _ _⟩
theorem PRr.uni {B : Nat} {s : ByteArray} {e : Ending} {W : World} (h : PRr B s e W) : ∃ v, e = .returned (.tuple #[v, .int .i64 (pc s)]) ∧ W.ownsRow B 102 2 v (pr s).length (flat (pr s)) := by
  unfold pr pc
  rcases h with ⟨l, v, h1, h2, h3⟩ | ⟨h1, h2⟩
  · rw [h1]; exact ⟨v, h2, h3⟩
  · rw [h1]; exact ⟨_, h2, World.ownsRow_nil _ _ _ _⟩
theorem pr_len (s : ByteArray) : (pr s).length ≤ 64 := by
  unfold pr
  cases h : prs s.data.toList with
  | none => simp
  | some l => exact (chk_ok.1 (prs_iff.1 h).1).2

set_option maxRecDepth 100000 in
set_option maxHeartbeats 8000000 in
theorem texts_any (A B : Option Addr) (ca cb : Nat) (l m : List Pl) (s : ByteArray) (w : World) (hA : At w A l) (hB : At w B m) (hn : l.length ≤ 5864062014634) (hm : m.length ≤ 5864062014634) (hs : s.size ≤ 1048576) (hE : Env w) (h3 : 3 ≤ w.heap.size) :
    Calls Tryd.prog 3 #[.slice A l.length ca, .slice B m.length cb, .string s] w fun e w' => e = .returned (.bool true) ∧ Below w.heap.size w w' := by
  have K10 := Lib.hid (lent_any A ca l w hA hn)
  have K10' := Lib.hid (fun (W : World) (h : Below w.heap.size w W) => lent_any B cb m W (hB.below h (Nat.le_refl _)) hm)
  have K11 := Lib.hid (fun (g c : Nat) (W : World) (h : Below w.heap.size w W) (h1 : At W (some ⟨g, 0, none⟩) l) => text_u (some ⟨g, 0, none⟩) c l W (hE.below h (Nat.le_refl _)) h1 hn)
  have K13 := Lib.hid (fun (W : World) (h : Below w.heap.size w W) => ref_any A ca l W (hA.below h (Nat.le_refl _)) hn)
  have K13' := Lib.hid (fun (W : World) (h : Below w.heap.size w W) => ref_any B cb m W (hB.below h (Nat.le_refl _)) hm)
  have K12 := Lib.hid (fun (v : Value) (b : Nat) (W : World) (h : W.ownsRow b 102 2 v l.length (flat l)) =>
    show Calls Tryd.prog 12 #[v] W fun e w' => e = .returned (.tuple #[.string (txR l), .int .i64 (chk l)]) ∧ Below W.heap.size W w' by
      obtain ⟨A', c', rfl, a1, _⟩ := own_form h
      exact rtext_any A' c' l W a1 hn)
  have K14 := Lib.hid (fun (g c : Nat) (W : World) (h1 : At W (some ⟨g, 0, none⟩) l) => check_any (some ⟨g, 0, none⟩) c l W h1 hn)
  have K15 := Lib.hid (fun (v : Value) (b : Nat) (W : World) (h : W.ownsRow b 102 2 v l.length (flat l)) =>
    show Calls Tryd.prog 15 #[v] W fun e w' => e = .returned (.int .i64 (chk l)) ∧ Below W.heap.size W w' by
      obtain ⟨A', c', rfl, a1, _⟩ := own_form h
      exact rcheck_any A' c' l W a1 hn)
  have K16 := Lib.hid (fun (g c g' c' : Nat) (W : World) (h1 : At W (some ⟨g, 0, none⟩) l) (h2 : At W (some ⟨g', 0, none⟩) m) => common_any (some ⟨g, 0, none⟩) (some ⟨g', 0, none⟩) c c' l m W h1 h2 hn hm)
  have K16' := Lib.hid (fun (g c g' c' : Nat) (W : World) (h1 : At W (some ⟨g, 0, none⟩) l) (h2 : At W (some ⟨g', 0, none⟩) m) => common_any (some ⟨g', 0, none⟩) (some ⟨g, 0, none⟩) c' c m l W h2 h1 hm hn)
  have K17 := Lib.hid (fun (v1 v2 : Value) (b1 b2 : Nat) (W : World) (h1 : W.ownsRow b1 102 2 v1 l.length (flat l)) (h2 : W.ownsRow b2 102 2 v2 m.length (flat m)) =>
    show Calls Tryd.prog 17 #[v1, v2] W fun e w' => e = .returned (.int .i64 (cm l m)) ∧ ∃ k, w' = W.drewN k by
      obtain ⟨A1, c1, rfl, a1, _⟩ := own_form h1
      obtain ⟨A2, c2, rfl, a2, _⟩ := own_form h2
      exact rcommon_any A1 A2 c1 c2 l m W a1 a2 hn hm)
  have K17' := Lib.hid (fun (v1 v2 : Value) (b1 b2 : Nat) (W : World) (h1 : W.ownsRow b1 102 2 v1 m.length (flat m)) (h2 : W.ownsRow b2 102 2 v2 l.length (flat l)) =>
    show Calls Tryd.prog 17 #[v1, v2] W fun e w' => e = .returned (.int .i64 (cm m l)) ∧ ∃ k, w' = W.drewN k by
      obtain ⟨A1, c1, rfl, a1, _⟩ := own_form h1
      obtain ⟨A2, c2, rfl, a2, _⟩ := own_form h2
      exact rcommon_any A1 A2 c1 c2 m l W a1 a2 hm hn)
  have K18 := Lib.hid (fun (B1 g c : Nat) (W : World) (h1 : Below w.heap.size w W) (h2 : W.ownsRow B1 48 2 (.slice (some ⟨g, 0, none⟩) (l.length + 1) c) (l.length + 1) (flat (l ++ [markP]))) => kept_any A B1 g c ca l W (hA.below h1 (Nat.le_refl _)) hn h2)
  have K18' := Lib.hid (fun (B1 g c : Nat) (W : World) (h1 : Below w.heap.size w W) (h2 : W.ownsRow B1 48 2 (.slice (some ⟨g, 0, none⟩) (m.length + 1) c) (m.length + 1) (flat (m ++ [markP]))) => kept_any B B1 g c cb m W (hB.below h1 (Nat.le_refl _)) hm h2)
  have K19 := Lib.hid (fun (W : World) (h : Below w.heap.size w W) => (parse_any s W (hE.below h (Nat.le_refl _)) (Nat.le_trans h3 h.size) (by omega)).mono fun e w' ⟨h1, h2⟩ => And.intro h1.uni h2)
  have K20 := Lib.hid (fun (W : World) => (rparse_any s W hs).mono fun e w' ⟨h1, h2⟩ => And.intro h1.uni h2)
  have hpl := pr_len s
  have K21 := Lib.hid (fun (v1 v2 : Value) (e1 e2 B1 B2 : Nat) (W : World) (h1 : W.ownsRow B1 e1 2 v1 (pr s).length (flat (pr s))) (h2 : W.ownsRow B2 e2 2 v2 (pr s).length (flat (pr s))) =>
    show Calls Tryd.prog 21 #[v1, v2] W fun e w' => e = .returned (.bool true) ∧ ∃ m, w' = W.drewN m by
      obtain ⟨A1, c1, rfl, a1, _⟩ := own_form h1
      obtain ⟨A2, c2, rfl, a2, _⟩ := own_form h2
      exact same_any A1 A2 c1 c2 _ W a1 a2 (by omega))
  have K22 := Lib.hid (fun (v : Value) (B1 : Nat) (W : World) (h1 : W.ownsRow B1 48 2 v (pr s).length (flat (pr s))) (h2 : B1 ≤ W.heap.size) => spoil_any v B1 _ _ W h1 h2 (by omega))
  have K23 := Lib.hid (fun (W : World) (h1 : Below w.heap.size w W) => alive_any W (hE.below h1 (Nat.le_refl _)) (Nat.le_trans h3 h1.size))
  clear hA hB hE
  generalize hck : chk l = ck at *
  generalize hR : pr s = R at *
  generalize hpc : pc s = q at *
  generalize htx : txR l = tx at *
  generalize hc1 : cm l m = n1 at *
  generalize hc2 : cm m l = n2 at *
  clear hck hR hpc htx hc1 hc2
  go_enter Tryd.func3, Tryd.ntmps3
  go_wp2_with fail
  refine K10.out.mono ?_
  rintro e W1 ⟨g, c1, rfl, oa, t1⟩
  obtain ⟨hc1, hc2⟩ := own_cap oa
  have lg : g < W1.heap.size := (oa.lt g rfl).2
  go_wp2_with fail
  refine (K10'.out W1 t1).mono ?_
  rintro e W2 ⟨g', c2, rfl, ob, b2⟩
  obtain ⟨hc3, hc4⟩ := own_cap ob
  have t2 := t1.trans (b2.mono t1.size)
  have oa2 := own_below oa b2
  clear oa
  go_wp2_with fail
  refine (K11.out g c1 W2 t2 (mark_cells oa2).1).mono ?_
  rintro e W3 ⟨rfl, b3⟩
  have t3 := t2.trans (b3.mono t2.size)
  have oa3 := own_below oa2 b3
  have ob3 := own_below ob b3
  clear oa2 ob
  go_wp2_with fail
  refine (K13.out W3 t3).mono ?_
  rintro e W4 ⟨r4, rfl, o4, b4⟩
  have t4 := t3.trans (b4.mono t3.size)
  have oa4 := own_below oa3 b4
  have ob4 := own_below ob3 b4
  clear oa3 ob3
  go_wp2_with fail
  refine (K12.out r4 _ W4 o4).mono ?_
  rintro e W5 ⟨rfl, b5⟩
  have t5 := t4.trans (b5.mono t4.size)
  have oa5 := own_below oa4 b5
  have ob5 := own_below ob4 b5
  clear oa4 ob4 o4
  go_wp2_with fail
  refine (K14.out g c1 W5 (mark_cells oa5).1).mono ?_
  rintro e W6 ⟨rfl, b6⟩
  have t6 := t5.trans (b6.mono t5.size)
  have oa6 := own_below oa5 b6
  have ob6 := own_below ob5 b6
  clear oa5 ob5
  go_wp2_with fail
  refine (K13.out W6 t6).mono ?_
  rintro e W7 ⟨r7, rfl, o7, b7⟩
  have t7 := t6.trans (b7.mono t6.size)
  have oa7 := own_below oa6 b7
  have ob7 := own_below ob6 b7
  clear oa6 ob6
  go_wp2_with fail
  refine (K15.out r7 _ W7 o7).mono ?_
  rintro e W8 ⟨rfl, b8⟩
  have t8 := t7.trans (b8.mono t7.size)
  have oa8 := own_below oa7 b8
  have ob8 := own_below ob7 b8
  clear oa7 ob7 o7
  go_wp2_with fail
  refine (K16.out g c1 g' c2 W8 (mark_cells oa8).1 (mark_cells ob8).1).mono ?_
  rintro e W9 ⟨rfl, j9, rfl⟩
  have b9 := below_drewN W8.heap.size W8 j9 (Nat.le_refl _)
  have t9 := t8.trans (b9.mono t8.size)
  have oa9 := own_below oa8 b9
  have ob9 := own_below ob8 b9
  clear oa8 ob8
  go_wp2_with fail
  refine (K13.out _ t9).mono ?_
  rintro e W10 ⟨r10, rfl, o10, b10⟩
  have t10 := t9.trans (b10.mono t9.size)
  have oa10 := own_below oa9 b10
  have ob10 := own_below ob9 b10
  clear oa9 ob9
  go_wp2_with fail
  refine (K13'.out _ t10).mono ?_
  rintro e W11 ⟨r11, rfl, o11, b11⟩
  have t11 := t10.trans (b11.mono t10.size)
  have oa11 := own_below oa10 b11
  have ob11 := own_below ob10 b11
  have o10' := own_below o10 b11
  clear oa10 ob10 o10
  go_wp2_with fail
  refine (K17.out r10 r11 _ _ W11 o10' o11).mono ?_
  rintro e W12 ⟨rfl, j12, rfl⟩
  have b12 := below_drewN W11.heap.size W11 j12 (Nat.le_refl _)
  have t12 := t11.trans (b12.mono t11.size)
  have oa12 := own_below oa11 b12
  have ob12 := own_below ob11 b12
  clear oa11 ob11 o10' o11
  go_wp2_with fail
  refine (K16'.out g c1 g' c2 _ (mark_cells oa12).1 (mark_cells ob12).1).mono ?_
  rintro e W13 ⟨rfl, j13, rfl⟩
  have b13 := below_drewN (W11.drewN j12).heap.size (W11.drewN j12) j13 (Nat.le_refl _)
  have t13 := t12.trans (b13.mono t12.size)
  have oa13 := own_below oa12 b13
  have ob13 := own_below ob12 b13
  clear oa12 ob12
  rw [World.drewN_drewN] at t13 oa13 ob13
  clear b12 b13 t12
  go_wp2_with fail
  refine (K13'.out _ t13).mono ?_
  rintro e W14 ⟨r14, rfl, o14, b14⟩
  have t14 := t13.trans (b14.mono t13.size)
  have oa14 := own_below oa13 b14
  have ob14 := own_below ob13 b14
  clear oa13 ob13
  go_wp2_with fail
  refine (K13.out _ t14).mono ?_
  rintro e W15 ⟨r15, rfl, o15, b15⟩
  have t15 := t14.trans (b15.mono t14.size)
  have oa15 := own_below oa14 b15
  have ob15 := own_below ob14 b15
  have o14' := own_below o14 b15
  clear oa14 ob14 o14
  go_wp2_with fail
  refine (K17'.out r14 r15 _ _ W15 o14' o15).mono ?_
  rintro e W16 ⟨rfl, j16, rfl⟩
  have b16 := below_drewN W15.heap.size W15 j16 (Nat.le_refl _)
  have t16 := t15.trans (b16.mono t15.size)
  have oa16 := own_below oa15 b16
  have ob16 := own_below ob15 b16
  clear oa15 ob15 o14' o15
  go_wp2_with fail
  refine (K18.out _ g c1 _ t16 oa16).mono ?_
  rintro e W17 ⟨rfl, b17⟩
  have t17 := t16.trans (b17.mono t16.size)
  have ob17 := own_below ob16 b17
  clear oa16 ob16
  go_wp2_with fail
  refine (K18'.out _ g' c2 _ t17 ob17).mono ?_
  rintro e W18 ⟨rfl, b18⟩
  have t18 := t17.trans (b18.mono t17.size)
  clear ob17
  go_wp2_with fail
  refine (K19.out W18 t18).mono ?_
  rintro e W19 ⟨⟨x, rfl, ox⟩, b19⟩
  have z19 := b19.size
  have t19 := t18.trans (b19.mono t18.size)
  go_wp2_with fail
  refine (K20.out W19).mono ?_
  rintro e W20 ⟨⟨y, rfl, oy⟩, b20⟩
  have z20 := b20.size
  have t20 := t19.trans (b20.mono t19.size)
  go_wp2_with fail
  refine (K19.out W20 t20).mono ?_
  rintro e W21 ⟨⟨z, rfl, oz⟩, b21⟩
  have z21 := b21.size
  have t21 := t20.trans (b21.mono t20.size)
  have oy21 := own_below oy b21
  have ox21 := own_below ox (b20.trans (b21.mono z20))
  clear oy
  go_wp2_with fail
  refine (K21.out x y 48 102 _ _ W21 ox21 oy21).mono ?_
  rintro e W22 ⟨rfl, j22, rfl⟩
  have e22 := below_drewN W21.heap.size W21 j22 (Nat.le_refl _)
  have t22 := t21.trans (e22.mono t21.size)
  have ox22 := own_below ox21 e22
  have oy22 := own_below oy21 e22
  have oz22 := own_below oz e22
  have z22 := e22.size
  clear ox21 oy21 oz
  go_wp2_with fail
  refine (K22.out x _ _ ox22 (by omega)).mono ?_
  rintro e W23 ⟨⟨u, rfl⟩, g23⟩
  have z23 := g23.size
  have z18 := t18.size
  have xlo : ∀ j, x.ownBlock = some j → W18.heap.size ≤ j ∧ j < W19.heap.size := fun j hj => ⟨(ox.lt j hj).1, (ox.lt j hj).2⟩
  have t23 : Below w.heap.size w W23 := Below.grown t22 g23 (by omega) (fun j hj => by have := (xlo j hj).1; omega)
  have oy23 := own_over oy22 g23 (fun j hj => by have := (xlo j hj).2; omega)
  have oz23 := own_over oz22 g23 (fun j hj => by have := (xlo j hj).2; omega)
  clear oy22 oz22 ox22
  go_wp2_with fail
  refine (K21.out z y 48 102 _ _ W23 oz23 oy23).mono ?_
  rintro e W24 ⟨rfl, j24, rfl⟩
  have t24 := t23.trans ((below_drewN W23.heap.size W23 j24 (Nat.le_refl _)).mono t23.size)
  clear oy23 oz23
  go_wp2_with fail
  refine (K23.out _ t24).mono ?_
  rintro e W25 ⟨rfl, b25⟩
  go_wp2_with fail
  go_ret
  exact ⟨by simp, t24.trans (b25.mono t24.size)⟩
end Go.Proofs.YtocdinaomkmcbaaDoor
