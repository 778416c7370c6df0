/-
  PlaceFolds: the law's walk.
-/
import Derived.Test.YtocdinaomkmcbaaDoorFL
namespace Go.Proofs.YtocdinaomkmcbaaDoor
open Go.ChangeShapes Go.WideShapes Go.ChangeAt Go.RowKit Go.Shelf
set_option linter.unusedVariables false

theorem RwP.next {e lo i : Nat} {W W' : World} {rs : List Rn} {xs : List Value} {g n c : Nat} (h : RwP e lo i W rs xs) (hx : xs[i * 2]? = some (.slice (some ⟨g, 0, none⟩) n c)) (hg : W.grownBy W' (some g)) : RwP e lo (i + 1) W' rs xs := fun j r hj hr => by
  obtain ⟨g', c', a, b, d, f⟩ := h j r (by omega) hr
  exact ⟨g', c', a, b, d.kept hg (.inr (fun e => f i _ (by omega) hx e.symm)), f⟩
theorem RwP.same {e lo i : Nat} {W W' : World} {rs : List Rn} {xs : List Value} {r : Rn} {g c : Nat} (h : RwP e lo 0 W rs xs) (hr : rs[i]? = some r) (hx : xs[i * 2]? = some (.slice (some ⟨g, 0, none⟩) r.1.length c)) (hg : W.grownBy W' (some g)) (ho : W'.ownsRow lo e 2 (.slice (some ⟨g, 0, none⟩) r.1.length c) r.1.length (flat r.1)) : RwP e lo 0 W' rs xs := fun j q hj hq => by
  obtain ⟨g', c', a, b, d, f⟩ := h j q (by omega) hq
  by_cases hji : j = i
  · subst hji
    rw [hr] at hq
    cases hq
    rw [hx] at a
    cases a
    exact ⟨g, c, hx, b, ho, f⟩
  · exact ⟨g', c', a, b, d.kept hg (.inr (fun e => f i _ (fun e' => hji e'.symm) hx e.symm)), f⟩
/-- All that the law has in hand while it writes to what Fold answered. -/
structure KI (w : World) (l : List Pl) (rs : List Rn) (ga c1 : Nat) (xs ys zs : List Value) (vx vy vz : Value) (lx ly lz k : Nat) (W : World) : Prop where
  a : W.ownsRow w.heap.size 48 2 (.slice (some ⟨ga, 0, none⟩) (l.length + 1) c1) (l.length + 1) (flat (l ++ [markP]))
  ox : W.ownsRow lx 58 2 vx rs.length xs
  oy : W.ownsRow ly 64 2 vy rs.length ys
  oz : W.ownsRow lz 58 2 vz rs.length zs
  px : RwP 48 lx k W rs xs
  py : RwP 102 ly 0 W rs ys
  pz : RwP 48 lz 0 W rs zs
  b : Below w.heap.size w W
  hal : ga < lx
  hwl : w.heap.size ≤ lx
  hlx : lx ≤ W.heap.size
  hxz : ∀ (j : Nat) (v : Value) (g : Nat), xs[j * 2]? = some v → v.ownBlock = some g → lx ≤ g ∧ g < lz
theorem KI.below {w : World} {l : List Pl} {rs : List Rn} {ga c1 : Nat} {xs ys zs : List Value} {vx vy vz : Value} {lx ly lz k : Nat} {W W' : World} (h : KI w l rs ga c1 xs ys zs vx vy vz lx ly lz k W) (hb : Below W.heap.size W W') : KI w l rs ga c1 xs ys zs vx vy vz lx ly lz k W' :=
  ⟨own_below h.a hb, own_below h.ox hb, own_below h.oy hb, own_below h.oz hb, h.px.below hb, h.py.below hb, h.pz.below hb, h.b.trans (hb.mono h.b.size), h.hal, h.hwl, Nat.le_trans h.hlx hb.size, h.hxz⟩
theorem KI.grow {w : World} {l : List Pl} {rs : List Rn} {ga c1 : Nat} {xs ys zs : List Value} {vx vy vz : Value} {lx ly lz k k' : Nat} {W W' : World} {i g n c n2 : Nat} {x2 : List Value} (h : KI w l rs ga c1 xs ys zs vx vy vz lx ly lz k W)
    (hx : xs[i * 2]? = some (.slice (some ⟨g, 0, none⟩) n c)) (h2 : W.ownsRow lx 48 2 (.slice (some ⟨g, 0, none⟩) n c) n2 x2) (hg : W.grownBy W' (some g)) (hp : RwP 48 lx k' W' rs xs) : KI w l rs ga c1 xs ys zs vx vy vz lx ly lz k' W' := by
  obtain ⟨g1, g2⟩ := h.hxz i _ g hx rfl
  have hal := h.hal
  have hwl := h.hwl
  have hlx := h.hlx
  refine ⟨own_under h.a hg ga rfl (fun j e => by cases e; omega), keep_other h.ox h2 (by decide) hg, keep_other h.oy h2 (by decide) hg, keep_other h.oz h2 (by decide) hg, hp, h.py.other h2 (by decide) hg, h.pz.kept hg (fun j v g' hj hv e => ?_), Below.grown h.b hg h.b.size (fun j e => by cases e; omega), h.hal, h.hwl, Nat.le_trans h.hlx hg.size, h.hxz⟩
  cases e
  have := (h.pz.lt h.oz.1 j v g hj hv).1
  omega

set_option maxRecDepth 100000 in
set_option maxHeartbeats 8000000 in
theorem folds_any (A : Option Addr) (ca : Nat) (l : List Pl) (w : World) (hA : At w A l) (hn : l.length ≤ 5864062014634) (hE : Env w) (h3 : 3 ≤ w.heap.size) :
    Calls Tryd.prog 5 #[.slice A l.length ca] w fun e w' => e = .returned (.bool true) ∧ Below w.heap.size w w' := by
  obtain ⟨i0, hi0, hz0, hz1, hz2⟩ := info_parts info48
  have K10 := Lib.hid (lent_any A ca l w hA hn)
  have K26 := Lib.hid (fun (g c : Nat) (W : World) (h1 : At W (some ⟨g, 0, none⟩) l) (h3 : l.length ≤ c) => fold_any (some ⟨g, 0, none⟩) c l W h1 h3 hn)
  have K13 := Lib.hid (fun (W : World) (h1 : Below w.heap.size w W) => ref_any A ca l W (hA.below h1 (Nat.le_refl _)) hn)
  have K27 := Lib.hid (fun (v : Value) (base : Nat) (W : World) (h1 : W.ownsRow base 102 2 v l.length (flat l)) =>
    show Calls Tryd.prog 27 #[v] W fun e w' => ∃ v, e = .returned (.tuple #[v, .int .i64 (chk l)]) ∧ GW W (fdR l) v w' by
      obtain ⟨A', c', rfl, ha, hc⟩ := own_form_cap h1
      exact rfold_any A' c' l W ha hc hn)
  obtain ⟨hr1, hr2⟩ := fdR_len l
  have K28 := Lib.hid (fun (vx vy : Value) (xs ys : List Value) (Bx By lx ly : Nat) (W : World) (h1 : W.ownsRow Bx 58 2 vx (fdR l).length xs) (h2 : RwP 48 lx 0 W (fdR l) xs) (h3 : W.ownsRow By 64 2 vy (fdR l).length ys) (h4 : RwP 102 ly 0 W (fdR l) ys) =>
    show Calls Tryd.prog 28 #[vx, vy] W fun e w' => e = .returned (.bool true) ∧ Below W.heap.size W w' by
      obtain ⟨A1, c1, rfl, a1, _⟩ := h2.at h1
      obtain ⟨A2, c2, rfl, a2, _⟩ := h4.at h3
      exact runs_any A1 A2 c1 c2 (fdR l) W a1 a2 (by omega) (fun r hr => by have := hr2 r hr; omega))
  have K18 := Lib.hid (fun (B1 g c : Nat) (W : World) (h1 : Below w.heap.size w W) (h2 : W.ownsRow B1 48 2 (.slice (some ⟨g, 0, none⟩) (l.length + 1) c) (l.length + 1) (flat (l ++ [markP]))) => kept_any A B1 g c ca l W (hA.below h1 (Nat.le_refl _)) hn h2)
  have K23 := Lib.hid (fun (W : World) (h1 : Below w.heap.size w W) => alive_any W (hE.below h1 (Nat.le_refl _)) (Nat.le_trans h3 h1.size))
  have HR2 := Lib.hid hr2
  clear hA hE hr2
  generalize hck : chk l = ck at *
  generalize hR : fdR l = rs at *
  clear hck hR
  go_enter Tryd.func5, Tryd.ntmps5
  go_wp2_with fail
  refine K10.out.mono ?_
  rintro e W1 ⟨ga, c1, rfl, oa, b1⟩
  obtain ⟨hc1, hc2⟩ := own_cap oa
  have z1 := b1.size
  have lga : ga < W1.heap.size := (oa.lt ga rfl).2
  go_wp2_with fail
  refine (K26.out ga c1 W1 (mark_cells oa).1 (by omega)).mono ?_
  rintro e W2 ⟨vx, rfl, ⟨xs, ox, px⟩, b2⟩
  have z2 := b2.size
  have t2 := b1.trans (b2.mono z1)
  have hlx := px.lt ox.1
  go_wp2_with fail
  refine (K13.out W2 t2).mono ?_
  rintro e W3 ⟨rv, rfl, orr, b3⟩
  have z3 := b3.size
  have t3 := t2.trans (b3.mono t2.size)
  go_wp2_with fail
  refine (K27.out rv _ W3 orr).mono ?_
  rintro e W4 ⟨vy, rfl, ⟨ys, oy, py⟩, b4⟩
  have z4 := b4.size
  have t4 := t3.trans (b4.mono t3.size)
  have oa4 := own_below oa ((b2.trans (b3.mono z2)).trans (b4.mono (by omega)))
  go_wp2_with fail
  refine (K26.out ga c1 W4 (mark_cells oa4).1 (by omega)).mono ?_
  rintro e W5 ⟨vz, rfl, ⟨zs, oz, pz⟩, b5⟩
  have z5 := b5.size
  have t5 := t4.trans (b5.mono t4.size)
  have hk5 : KI w l rs ga c1 xs ys zs vx vy vz W1.heap.size W3.heap.size W4.heap.size 0 W5 := by
    have b35 := (b3.trans (b4.mono z3)).trans (b5.mono (by omega))
    exact ⟨own_below oa4 b5, own_below ox b35, own_below oy b5, oz, px.below b35, py.below b5, pz, t5, lga, z1, by omega, fun j v g hj hv => ⟨(hlx j v g hj hv).1, by have := (hlx j v g hj hv).2; omega⟩⟩
  have hck : decide (ck = ck) = true := decide_eq_true rfl
  clear hck oa oa4 ox oy oz px py pz hlx orr b2 b3 b4 b5
  go_wp2_with fail
  refine (K28.out vx vy xs ys _ _ _ _ W5 hk5.ox hk5.px hk5.oy hk5.py).mono ?_
  rintro e W6 ⟨rfl, b6⟩
  have hk6 := hk5.below b6
  go_wp2_with fail
  refine (K18.out _ ga c1 W6 hk6.b hk6.a).mono ?_
  rintro e W7 ⟨rfl, b7⟩
  have hk7 := hk6.below b7
  clear hk5 hk6 b6 b7
  obtain ⟨Ax, cx, rfl, hAx⟩ : ∃ Ax cx, vx = .slice Ax rs.length cx ∧ (0 < rs.length → ∃ gx, Ax = some ⟨gx, 0, none⟩) := by
    rcases hk7.ox.2 with ⟨h1, h2⟩ | ⟨gx, cx, _, h1, _⟩
    · exact ⟨none, 0, by rw [h1, h2], fun h => by omega⟩
    · exact ⟨_, cx, h1, fun _ => ⟨gx, rfl⟩⟩
  have HAX := Lib.hid hAx
  clear hAx
  generalize W1.heap.size = lx at *
  generalize W3.heap.size = ly at *
  generalize W4.heap.size = lz at *
  clear z1 z2 z3 z4 z5 b1 t2 t3 t4 t5 lga
  go_wp2_with fail
  go_loopw [10] (fun t wr => ∃ i : Nat, t = .int .i64 i ∧ i ≤ rs.length ∧ Hid (KI w l rs ga c1 xs ys zs (.slice Ax rs.length cx) vy vz lx ly lz 0 wr)) (fun t _ => rs.length - (intOf t).toNat)
  case atStart => exact ⟨0, rfl, by omega, Lib.hid hk7⟩
  case round =>
    obtain ⟨i, rfl, hi, HK⟩ := hrel
    generalize hV : wr = V at *
    clear hV
    have hii0 : (0 : Int) ≤ (i : Int) := Int.natCast_nonneg _
    by_cases hlt : i < rs.length
    · have hi1 : (i : Int) < (rs.length : Int) := by omega
      obtain ⟨gx, rfl⟩ := HAX.out (by omega)
      obtain ⟨r, hr⟩ : ∃ r, rs[i]? = some r := ⟨_, List.getElem?_eq_getElem hlt⟩
      have hr64 := HR2.out r (List.mem_of_getElem? hr)
      obtain ⟨g, c, x0, x1, o2, x2⟩ := HK.out.px i r (Nat.zero_le _) hr
      have hxl := HK.out.ox.1
      have c0 := (HK.out.ox.cellAt (i * 2) (by omega)).trans x0
      have HO := Lib.hid o2
      have HX0 := Lib.hid x0
      have HRR := Lib.hid hr
      have hgV : g < V.heap.size := (o2.lt g rfl).2
      have HFL : Hid ((flat r.1).length = r.1.length * 2) := Lib.hid (flat_length r.1)
      have hlV : lx ≤ V.heap.size := HK.out.hlx
      clear hr x0 x1 x2 o2 hk7 hxl
      generalize hnn : r.1.length = n at *
      have HNN := Lib.hid hnn
      clear hnn
      go_wp2_with fail
      go_loopw [11, 12] (fun v t wr => ∃ (k g1 c1' : Nat) (ls : List Value), t = .int .i64 k ∧ k ≤ 40 ∧ v = .slice (some ⟨g1, 0, none⟩) (n + k) c1' ∧ wr.ownsRow lx 48 2 (.slice (some ⟨g1, 0, none⟩) (n + k) c1') (n + k) ls ∧ V.grownBy wr (some g) ∧ ((g1 = g ∧ c1' = c ∧ ls.take (n * 2) = flat r.1) ∨ (V.heap.size ≤ g1 ∧ wr.ownsRow lx 48 2 (.slice (some ⟨g, 0, none⟩) n c) n (flat r.1)))) (fun _ t _ => 40 - (intOf t).toNat)
      case atStart => exact ⟨0, g, c, flat r.1, rfl, by omega, rfl, HO.out, World.grownBy.refl _ _, .inl ⟨rfl, rfl, by rw [← HFL.out]; exact List.take_length⟩⟩
      case round =>
        obtain ⟨k, g1, c1', ls, rfl, hk, rfl, ho, hg, hor⟩ := hrel
        have hz := hg.size
        by_cases hk40 : k < 40
        · have hk4 : (k : Int) < 40 := by omega
          have HOR := Lib.hid hor
          clear hor
          go_wp2_with (at_builtin; refine wpList_append_two rfl _ _ _ rfl lx 48 i0 _ 2 24 Tryd.underlying23 hi0 hz0 hz1 hz2 rfl (by omega) g1 (n + k) c1' ls rfl (ho.alloc _) ⟨wr.heap.size, 0, none⟩ 1 1 (cel (⟨#[94]⟩, 0)) rfl rfl (World.news_of_block (cs := #[.string ⟨#[94]⟩, .int .i64 0]) (t := 48) (fr := (0, 0)) (heap_alloc_new wr _)) (by simp [cel, Value.oneCell']) (by omega) (by unfold maxLen; omega) (by omega) (by simp; omega) ?_; intro gg cap' w1 hown1 hat)
          have hga : V.grownBy (wr.alloc (.cells #[.string ⟨#[94]⟩, .int .i64 0] 48)) (some g) := grown_trans hg (World.grownBy_alloc wr _ none) (fun j e => by cases e)
          have hoa := ho.alloc (.cells #[.string ⟨#[94]⟩, .int .i64 0] 48)
          have hll : n * 2 ≤ ls.length := by rw [ho.1]; omega
          have hnew : V.grownBy w1 (some g) ∧ ((gg = g ∧ cap' = c ∧ (ls ++ cel (⟨#[94]⟩, 0)).take (n * 2) = flat r.1) ∨ (V.heap.size ≤ gg ∧ w1.ownsRow lx 48 2 (.slice (some ⟨g, 0, none⟩) n c) n (flat r.1))) := by
            rcases hat with ⟨rfl, rfl, h1⟩ | ⟨h0, h1⟩
            · rcases HOR.out with ⟨rfl, rfl, h2⟩ | ⟨h2, h3⟩
              · exact ⟨grown_trans hga h1 (fun j e => .inl e), .inl ⟨rfl, rfl, by rw [List.take_append_of_le_length hll]; exact h2⟩⟩
              · refine ⟨grown_trans hga h1 (fun j e => by cases e; exact .inr h2), .inr ⟨h2, ((h3.alloc _).kept h1 (.inr (by simp [Value.ownBlock]; omega)))⟩⟩
            · refine ⟨grown_trans hga h1 (fun j e => by cases e), .inr ⟨by simp at h0; omega, ?_⟩⟩
              rcases HOR.out with ⟨rfl, rfl, h2⟩ | ⟨h2, h3⟩
              · rw [← h2]
                exact (own_front hoa).kept h1 (.inr (by simp [Value.ownBlock]))
              · exact (h3.alloc _).kept h1 (.inr (by simp [Value.ownBlock]))
          have HN := Lib.hid hnew
          clear hnew hga hoa hat HOR ho
          go_wp2_with fail
          go_roundw
          case rel => exact ⟨k + 1, gg, cap', _, by go_num, by omega, rfl, hown1, HN.out.1, HN.out.2⟩
          case measure => simp [intOf]; omega
        · have hk4 : ¬ (k : Int) < 40 := by omega
          obtain rfl : k = 40 := by omega
          have hoi : wr.ownsRow lx 48 2 (.slice (some ⟨g, 0, none⟩) n c) n (flat r.1) := by
            rcases hor with ⟨rfl, rfl, h2⟩ | ⟨_, h3⟩
            · rw [← h2]; exact own_front ho
            · exact h3
          have hk2 : KI w l rs ga c1 xs ys zs (.slice (some ⟨gx, 0, none⟩) rs.length cx) vy vz lx ly lz 0 wr := HK.out.grow HX0.out HO.out hg (HK.out.px.same HRR.out (by rw [HNN.out]; exact HX0.out) hg (by rw [HNN.out]; exact hoi))
          clear hor hoi ho hg
          have hn4 : ¬ ((n : Int) + 40 < 40) := by omega
          go_wp2_with fail
          refine (K28.out _ vy xs ys _ _ _ _ wr hk2.ox hk2.px hk2.oy hk2.py).mono ?_
          rintro e W9 ⟨rfl, b9⟩
          have HK9 := Lib.hid (hk2.below b9)
          clear hk2 b9
          go_wp2_with fail
          go_roundw
          case rel => exact ⟨i + 1, by go_num, by omega, HK9⟩
          case measure => simp [intOf]; omega
    · have hi1 : ¬ (i : Int) < (rs.length : Int) := by omega
      have HK0 := HK
      clear hk7
      go_wp2_with fail
      go_loopw [13] (fun t wr => ∃ i : Nat, t = .int .i64 i ∧ i ≤ rs.length ∧ Hid (KI w l rs ga c1 xs ys zs (.slice Ax rs.length cx) vy vz lx ly lz i wr)) (fun t _ => rs.length - (intOf t).toNat)
      case atStart => exact ⟨0, rfl, by omega, HK0⟩
      case round =>
        obtain ⟨i2, rfl, hi2, HK2⟩ := hrel
        have hi20 : (0 : Int) ≤ (i2 : Int) := Int.natCast_nonneg _
        by_cases hlt2 : i2 < rs.length
        · have hi21 : (i2 : Int) < (rs.length : Int) := by omega
          obtain ⟨gx, rfl⟩ := HAX.out (by omega)
          obtain ⟨r, hr⟩ : ∃ r, rs[i2]? = some r := ⟨_, List.getElem?_eq_getElem hlt2⟩
          have hr64 := HR2.out r (List.mem_of_getElem? hr)
          obtain ⟨g, c, x0, x1, o2, x2⟩ := HK2.out.px i2 r (Nat.le_refl _) hr
          have hxl := HK2.out.ox.1
          have c0 := (HK2.out.ox.cellAt (i2 * 2) (by omega)).trans x0
          have H22 := Lib.hid (spoil_any _ lx _ _ wr o2 HK2.out.hlx (by omega))
          have HNX : Hid (∀ W', wr.grownBy W' (some g) → KI w l rs ga c1 xs ys zs (.slice (some ⟨gx, 0, none⟩) rs.length cx) vy vz lx ly lz (i2 + 1) W') := Lib.hid (fun W' hg => HK2.out.grow x0 o2 hg (HK2.out.px.next x0 hg))
          clear hr x0 x1 x2 o2 hxl
          generalize r.1.length = n at *
          go_wp2_with fail
          refine H22.out.mono ?_
          rintro e W9 ⟨⟨u, rfl⟩, g9⟩
          have HK9 := Lib.hid (HNX.out W9 g9)
          go_wp2_with fail
          go_roundw
          case rel => exact ⟨i2 + 1, by go_num, by omega, HK9⟩
          case measure => simp [intOf]; omega
        · have hi21 : ¬ (i2 : Int) < (rs.length : Int) := by omega
          have hk2 := HK2.out
          go_wp2_with fail
          refine (K28.out vz vy zs ys _ _ _ _ wr hk2.oz hk2.pz hk2.oy hk2.py).mono ?_
          rintro e W9 ⟨rfl, b9⟩
          have hk9 := hk2.below b9
          clear hk2
          go_wp2_with fail
          refine (K18.out _ ga c1 W9 hk9.b hk9.a).mono ?_
          rintro e W10 ⟨rfl, b10⟩
          have hk10 := hk9.below b10
          clear hk9
          go_wp2_with fail
          refine (K23.out _ hk10.b).mono ?_
          rintro e W11 ⟨rfl, b11⟩
          have hb := hk10.b.trans (b11.mono hk10.b.size)
          clear hk10
          go_wp2_with fail
          go_ret
          exact ⟨by simp, hb⟩
end Go.Proofs.YtocdinaomkmcbaaDoor
