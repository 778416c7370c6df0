/-
  The iterator of text.words.
-/
import Derived.Test.YtdfhpblceoaofaaDoorFF
namespace Go.Proofs.YtdfhpblceoaofaaDoor
open Go.ChangeShapes Go.WideShapes Go.ChangeAt Go.RowKit Go.Shelf
set_option linter.unusedVariables false
attribute [local go_sem] Oper.semAt_some

def encP (x : ByteArray × Nat) : Array Value := #[.string x.1, .int .i64 (x.2 : Int)]
theorem ownFrom_kq {β : Type} {n₀ Bs Bf B : Nat} {w₀ : World} (hn : n₀ ≤ B) (hs : Bs < B) (hf : Bf < B) (h0 : n₀ ≤ w₀.heap.size) (hs0 : Bs < w₀.heap.size) (hf0 : Bf < w₀.heap.size) : OwnFrom B (fun (_ : β) W => Kq n₀ Bs Bf w₀ W) :=
  fun s A C row h hg hr => by
    have hz := h.1.size
    exact ⟨ownFrom_below (β := Unit) h0 hn () A C row h.1 hg hr, (hg.block Bs (by omega) (fun e => by have := (hr _ e.symm).1; omega)).trans h.2.1, (hg.block Bf (by omega) (fun e => by have := (hr _ e.symm).1; omega)).trans h.2.2⟩
theorem size_zero {y : ByteArray} (h : y.size = 0) : y.toList = [] := by
  have e : y.data.toList.length = y.size := by simp
  rw [Lib.toList_data]; exact List.eq_nil_of_length_eq_zero (by omega)
theorem size_pos {y : ByteArray} (h : 0 < y.size) : y.toList.isEmpty = false := by
  rw [Lib.toList_data]
  cases hl : y.data.toList with
  | nil =>
    have e : y.data.toList.length = y.size := by simp
    rw [hl] at e; simp at e; omega
  | cons a l => rfl

/-- What a round of the caller has come to. -/
def Out (n₀ Bs Bw E : Nat) (J Jx : List (ByteArray × Nat) → World → Prop) (q : List (ByteArray × Nat)) (W1 : World) (b : Bool) (W' : World) : Prop :=
  (b = true ∧ J q W' ∧ Kq n₀ Bs Bw W1 W' ∧ Same E (E + 5) W1 W') ∨ (b = false ∧ Jx q W' ∧ Same E (E + 5) W1 W')
theorem NoB.same3 {a : Nat} {W : World} (h : NoB a (a + 5) W) : NoB a (a + 3) W := fun j h1 h2 => h j h1 (by omega)
/-- The measure of the inner loop. -/
def strSize (v : Value) : Nat := match v with | .string y => y.size | _ => 0

set_option maxRecDepth 100000 in
set_option maxHeartbeats 4000000 in
theorem words_in (n : Nat) (hn : 8 ≤ n) (l Bs Bw n₀ : Nat) (s : ByteArray) (width : Int) (J Jx : List (ByteArray × Nat) → World → Prop) (W : World) (hJ : OwnFrom W.heap.size J) (hJx : OwnFrom W.heap.size Jx)
    (hY : ∀ pre x W1, J pre W1 → pre ++ [x] <+: WL width s → W.heap.size + 5 ≤ W1.heap.size → NoB W.heap.size (W.heap.size + 5) W1 → YieldAt Fence.wide (n - 1) Tryd.prog l (encP x) W1 fun e W' =>
      (e = .returned (.bool true) ∧ J (pre ++ [x]) W' ∧ Kq n₀ Bs Bw W1 W' ∧ Same W.heap.size (W.heap.size + 5) W1 W') ∨ (e = .returned (.bool false) ∧ Jx (pre ++ [x]) W' ∧ Same W.heap.size (W.heap.size + 5) W1 W'))
    (hBs : Bs < W.heap.size) (hBw : Bw < W.heap.size) (hn₀ : n₀ ≤ W.heap.size) (h2 : 2 ≤ n₀) (hs : W.cell? ⟨Bs, 0, none⟩ = some (.string s)) (hw : W.cell? ⟨Bw, 0, none⟩ = some (.int .i64 width)) (hT : Lib.Utf8Tabs 0 1 W) (hsz : s.size ≤ 1099511627776) (hw4 : 4 ≤ width) (hhi : width ≤ 9223372036854775807) (h0 : J [] W) :
    CallsIn Fence.wide n Tryd.prog 58 #[.func (.yield l) #[] #[], .pointer (some ⟨Bs, 0, none⟩), .pointer (some ⟨Bw, 0, none⟩)] W fun e W' => (∃ v, e = .returned v) ∧
      ((∃ ys, ys = WL width s ∧ J ys W') ∨ (∃ pre, pre <+: WL width s ∧ Jx pre W')) := by
  have h1 : 1 ≤ n := by omega
  refine callsIn_of_wp_marks Tryd.func58 rfl trivial ?_ rfl
  simp only [Tryd.ntmps58, List.size_toArray, List.length_cons, List.length_nil, Nat.reduceAdd, Nat.reduceSub, Array.replicate_succ, Array.replicate_zero, List.push_toArray, List.append_toArray, List.nil_append, List.cons_append]
  gi_wp2_with (refine ⟨trivial, ?_⟩; gi_at_call 59; refine (callsIn_wide.2 (fieldsSeq_any _ _)).mono ?_; rintro e w' ⟨rfl, rfl⟩)
  have bY := ((Boxed.new W 32 (.func (.yield l) #[] #[])).alloc (.cells #[.string s] 9)).alloc (.cells #[.func (.func 60) #[] #[]] 79)
  have bS := (Boxed.new (W.alloc (.cells #[.func (.yield l) #[] #[]] 32)) 9 (.string s)).alloc (.cells #[.func (.func 60) #[] #[]] 79)
  have bF := Boxed.new ((W.alloc (.cells #[.func (.yield l) #[] #[]] 32)).alloc (.cells #[.string s] 9)) 79 (.func (.func 60) #[] #[])
  simp only [World.size_alloc] at bS bF
  have hB0 : Below W.heap.size W (((W.alloc (.cells #[.func (.yield l) #[] #[]] 32)).alloc (.cells #[.string s] 9)).alloc (.cells #[.func (.func 60) #[] #[]] 79)) := (((Below.refl _ W).alloc (Nat.le_refl _) _).alloc (by simp) _).alloc (by simp; omega) _
  have hz0 : (((W.alloc (.cells #[.func (.yield l) #[] #[]] 32)).alloc (.cells #[.string s] 9)).alloc (.cells #[.func (.func 60) #[] #[]] 79)).heap.size = W.heap.size + 3 := by simp
  have hJ0 : J [] (((W.alloc (.cells #[.func (.yield l) #[] #[]] 32)).alloc (.cells #[.string s] 9)).alloc (.cells #[.func (.func 60) #[] #[]] 79)) := hJ.alloc _ (hJ.alloc _ (hJ.alloc _ h0))
  obtain ⟨W0, hW0⟩ : ∃ W0, ((W.alloc (.cells #[.func (.yield l) #[] #[]] 32)).alloc (.cells #[.string s] 9)).alloc (.cells #[.func (.func 60) #[] #[]] 79) = W0 := ⟨_, rfl⟩
  rw [hW0] at bY bS bF hB0 hz0 hJ0 ⊢
  clear hW0
  have hza : W.heap.size + 3 ≤ W0.heap.size := by omega
  have hzb : W0.heap.size ≤ W.heap.size + 3 := by omega
  clear hz0
  have hT0 := tabs_below hT hB0 (by omega)
  have hN0 : NoB W.heap.size (W.heap.size + 3) W0 := ((NoB.box bY (by decide)).join (NoB.box bS (by decide))).join (NoB.box bF (by decide))
  have hK0 : Kq n₀ Bs Bw W W0 := Kq.of_below hB0 hn₀ hBs hBw
  apply with_frm (α := ByteArray)
  intro fr hfr
  refine wpIn_range_wide (k := 0) rfl h1 (gf := 65) (lb := #[.pointer (some ⟨W.heap.size + 1, 0, none⟩), .pointer (some ⟨W.heap.size + 1 + 1, 0, none⟩)]) rfl trivial (enters_of Tryd.func65 (by kernel_rfl) rfl)
    (fields_w (n - 1) (by omega) (W.heap.size + 1) (W.heap.size + 1 + 1) n₀ s W0 (by omega) (by omega) (by omega) h2 bS.cell bF.cell hT0 hsz) Kq_t (Kq_b (by omega) (by omega) (by omega)) (fun _ => rfl)
    (fun pre V => J (pre.flatMap (Pt width)) V ∧ ((Boxed V W.heap.size 32 (.func (.yield l) #[] #[]) ∧ NoB W.heap.size (W.heap.size + 3) V) ∧ Kq n₀ Bs Bw W V))
    (fun c pre V => c = .ret ∧ ∃ q, q <+: WL width s ∧ Jx q V)
    (OwnFrom.and (fun pre A B row h hg hr => hJ _ A B row h hg (fun r e => ⟨by have := (hr r e).1; omega, (hr r e).2⟩)) (OwnFrom.and (OwnFrom.and (Own.from (boxed_own W.heap.size 32 (fun _ => Value.func (.yield l) #[] #[])) _) (ownFrom_nob (by omega))) (ownFrom_kq (by omega) (by omega) (by omega) hn₀ hBs hBw)))
    (fun c pre A B row hs hg hr => ⟨hs.1, hs.2.elim fun q hq => ⟨q, hq.1, hJx _ A B row hq.2 hg (fun r e => ⟨by have := (hr r e).1; omega, (hr r e).2⟩)⟩⟩)
    ⟨hJ0, ⟨bY, hN0⟩, hK0⟩
    fr ?assign ?body ?done ?stop
  case assign =>
    intro l x W K hK
    rw [hfr] at hK
    dsimp only [encF]
    gi_wp2
    exact hK
  case body =>
    rintro l2 pre x V ⟨hJv, ⟨bYv, hNv⟩, hKv⟩ hpx hNl
    rw [hfr]
    clear hfr
    have hd : 1 ≤ n - 1 - 1 := by omega
    have hxm : x ∈ FL s := hpx.subset (by simp)
    have hxs := (FL_size hxm).2
    clear hxm
    have hN5 : NoB W.heap.size (W.heap.size + 5) V := fun j h1 h2 => by
      rcases Nat.lt_or_ge j (W.heap.size + 3) with h | h
      · exact hNv j h1 h
      · exact hNl j (by omega) (by omega)
    have hVz := hN5.top (by omega)
    clear hNv hNl
    have hVs := hKv.1.size
    have hr0 : Hid ((pre ++ [x]).flatMap (Pt width) = pre.flatMap (Pt width) ++ Pt width x) := Lib.hid (by simp)
    have hpw : Hid (∀ q, q <+: Pt width x → pre.flatMap (Pt width) ++ q <+: WL width s) := Lib.hid (fun q hq => by
      obtain ⟨r, hr⟩ := hpx
      obtain ⟨r2, hr2⟩ := hq
      refine ⟨r2 ++ r.flatMap (Pt width), ?_⟩
      unfold WL
      rw [← hr, List.flatMap_append, hr0.out, ← hr2]; simp)
    clear hpx
    gi_wp2
    gi_loopw [4] (fun v wr => ∃ (y : ByteArray) (q : List (ByteArray × Nat)), v = .string y ∧ y.size ≤ x.size ∧ Hid (q ++ Pt width y = Pt width x) ∧ J (pre.flatMap (Pt width) ++ q) wr ∧ Boxed wr W.heap.size 32 (.func (.yield l) #[] #[]) ∧ Kq n₀ Bs Bw W wr ∧ Below n₀ V wr ∧ Same W.heap.size (W.heap.size + 5) V wr) (fun v _ => strSize v)
    case atStart => exact ⟨x, [], rfl, Nat.le_refl _, Lib.hid rfl, by rw [List.append_nil]; exact hJv, bYv, hKv, Below.refl _ _, Same.refl _ _ _⟩
    case round =>
      obtain ⟨y, q, rfl, hyx, HQ, hJr, bYr, hKr, hK2, hS⟩ := hrel
      have hZ := hK2.size
      by_cases h0 : y.size = 0
      · have e1 := size_zero h0
        have HE : Hid (q = Pt width x) := Lib.hid (by rw [← HQ.out, Pt_nil h0, List.append_nil])
        gi_wp2
        exact ⟨hS.mono (by omega) (by omega), hZ, ⟨hK2, hS _ (by omega) (by omega), hS _ (by omega) (by omega)⟩, by rw [hr0.out, ← HE.out]; exact hJr, ⟨bYr, (hN5.same hS).same3⟩, hKr⟩
      · have e1 := size_pos (y := y) (by omega)
        have e2 : (!y.toList.isEmpty) = true := by rw [e1]; rfl
        have kw : wr.cell? ⟨Bw, 0, none⟩ = some (.int .i64 width) := (World.cell?_of_block (a := ⟨Bw, 0, none⟩) hKr.2.2).trans hw
        have hzr := hKr.1.size
        have hc := fits_in (n - 1 - 1 - 1) (by omega) y width wr (by omega) (tabs_below hT hKr.1 h2) (by omega) (by omega) hhi
        have hpl := fit_le y width
        have hpp := fit_pos y width hw4 (by omega)
        have HP := Lib.hid (Pt_cons hw4 (x := y) (by omega))
        generalize (fitP y width).1 = p at *
        generalize (fitP y width).2 = k at *
        have HC := Lib.hid hc
        clear hc
        have hmx : Tryd.prog.follows .mixedOrders = true := by kernel_rfl
        have hpi : (p : Int) ≤ (y.size : Int) := by omega
        have hx1 : pre.flatMap (Pt width) ++ (q ++ [(y.extract 0 p, k)]) <+: WL width s := hpw.out _ ⟨Pt width (y.extract p y.size), by rw [← HQ.out, HP.out]; simp⟩
        rw [← List.append_assoc] at hx1
        gi_wp2_with fail
        refine ⟨trivial, ?_⟩
        refine (CallsIn.inRound l2 HC.out).mono ?_
        rintro e W2 ⟨rfl, hb⟩
        have hzb2 := hb.size
        have hJ2 := hJ _ _ _ none hJr (grownBy_below hb) (fun r e => by cases e)
        have bY2 : Boxed W2 W.heap.size 32 (.func (.yield l) #[] #[]) := (hb.block _ (by omega)).trans bYr
        have cY2 := bY2.cell
        have hKr2 := Kq_t hKr (Kq.of_below hb (by omega) (by omega) (by omega))
        have hK22 := hK2.trans (hb.mono (by omega))
        have hS2 := hS.trans (Same.of_below hb (by omega))
        clear hb hJr bYr hKr hK2 hS kw HC
        obtain ⟨fn, tmps, assign, body, hy, hR⟩ := hY (pre.flatMap (Pt width) ++ q) (y.extract 0 p, k) W2.drew (hJ _ _ _ none hJ2 ⟨rfl, rfl, rfl, Nat.le_refl _, fun _ _ _ => rfl⟩ (fun r e => by cases e)) hx1 (by simp; omega) (hN5.same hS2)
        dsimp only [encP] at hy
        have hR2 : RoundIn (Fence.wide.inRound l2) (n - 1 - 1 - 1) Tryd.prog l fn tmps assign body W2.drew fun e W' => ∃ b, e = .returned (.bool b) ∧ Out n₀ Bs Bw W.heap.size J Jx (pre.flatMap (Pt width) ++ q ++ [(y.extract 0 p, k)]) W2.drew b W' :=
          RoundIn.deep rfl _ (hR.mono (fun e W' h => by
            rcases h with ⟨rfl, h⟩ | ⟨rfl, h⟩
            · exact ⟨true, rfl, .inl ⟨rfl, h⟩⟩
            · exact ⟨false, rfl, .inr ⟨rfl, h⟩⟩))
        have HR := Lib.hid hR2
        clear hR hR2
        gi_wp2
        apply with_frm (α := Bool)
        intro fb hfb
        refine wpIn_mono (Q := fun e a' W3 => e = .normal ∧ ∃ b, a' = fb b ∧ Out n₀ Bs Bw W.heap.size J Jx (pre.flatMap (Pt width) ++ q ++ [(y.extract 0 p, k)]) W2.drew b W3) ?reg ?rest
        case reg =>
          gi_region_with_o (refine HR.out.mono ?_; rintro e W3 ⟨b, rfl, hO⟩)
          all_goals exact ⟨rfl, b, (congrFun hfb b).symm, hO⟩
        case rest =>
          rintro e a' W3 ⟨rfl, b, rfl, hO⟩
          rw [hfb]
          rcases hO with ⟨rfl, hJ3, hk3, hs3⟩ | ⟨rfl, hx3, hs3⟩
          · have hz3 := hk3.1.size
            have hk3' : Kq n₀ Bs Bw W2 W3 := Kq_t ⟨(Below.refl _ W2).drew, rfl, rfl⟩ hk3
            have hs3' : Same W.heap.size (W.heap.size + 5) W2 W3 := hs3
            clear hk3 hs3
            gi_wp2
            exact ⟨⟨y.extract p y.size, q ++ [(y.extract 0 p, k)], rfl, by simp; omega, Lib.hid (by rw [← HQ.out, HP.out]; simp), by rw [← List.append_assoc]; exact hJ3, hs3'.boxed bY2 (Nat.le_refl _) (by omega), Kq_t hKr2 hk3', hK22.trans hk3'.1, hS2.trans hs3'⟩, by simp [strSize]; omega⟩
          · have hs3' : Same W.heap.size (W.heap.size + 5) W2 W3 := hs3
            clear hs3
            gi_wp2
            exact ⟨(hS2.trans hs3').mono (by omega) (by omega), rfl, _, hx1, hx3⟩
  case done =>
    rintro D ys V hD rfl ⟨hJv, _, hKv⟩ hK
    gi_wp2
    refine ⟨by simp, .inl ⟨_, _, rfl, run_takeDeferred hK, ?_⟩⟩
    exact ⟨_, results_none rfl _ _ _, ⟨_, rfl⟩, .inl ⟨_, rfl, hJ.putObj _ hJv (by omega) hK rfl⟩⟩
  case stop =>
    rintro D c pre V hD hp ⟨rfl, q, hq, hx⟩ hK
    gi_wp2
    refine ⟨by simp, .inl ⟨_, _, rfl, run_takeDeferred hK, ?_⟩⟩
    exact ⟨_, results_none rfl _ _ _, ⟨_, rfl⟩, .inr ⟨q, hq, hJx.putObj _ hx (by omega) hK rfl⟩⟩
/-- **words(s, width)**: text and width are boxed; the function value captures the boxes. -/
theorem wordsSeq_any (s : ByteArray) (width : Int) (w : World) :
    Calls Tryd.prog 46 #[.string s, .int .i64 width] w fun e w' => e = .returned (.func (.func 58) #[] #[.pointer (some ⟨w.heap.size, 0, none⟩), .pointer (some ⟨w.heap.size + 1, 0, none⟩)]) ∧ w' = (w.alloc (.cells #[.string s] 9)).alloc (.cells #[.int .i64 width] 3) := by
  go_enter Tryd.func46, Tryd.ntmps46
  go_wp2
  go_ret
  exact ⟨rfl, rfl⟩
/-- **The iterator's contract.** -/
theorem words_w (n : Nat) (hn : 8 ≤ n) (Bs Bw n₀ : Nat) (s : ByteArray) (width : Int) (w : World) (hBs : Bs < w.heap.size) (hBw : Bw < w.heap.size) (hn₀ : n₀ ≤ w.heap.size) (h2 : 2 ≤ n₀) (hs : w.cell? ⟨Bs, 0, none⟩ = some (.string s)) (hw : w.cell? ⟨Bw, 0, none⟩ = some (.int .i64 width)) (hT : Lib.Utf8Tabs 0 1 w) (hsz : s.size ≤ 1099511627776) (hw4 : 4 ≤ width) (hhi : width ≤ 9223372036854775807) :
    SeqW Fence.wide n Tryd.prog 58 #[.pointer (some ⟨Bs, 0, none⟩), .pointer (some ⟨Bw, 0, none⟩)] encP 5 (Kq n₀ Bs Bw) (fun ys => ys = WL width s) (fun pre => pre <+: WL width s) w := fun l J Jx W hW hJ hJx hY h0 =>
  words_in n hn l Bs Bw n₀ s width J Jx W hJ hJx hY (Nat.lt_of_lt_of_le hBs hW.size) (Nat.lt_of_lt_of_le hBw hW.size) (Nat.le_trans hn₀ hW.size) h2 ((hW.cell (p := ⟨Bs, 0, none⟩) hBs).trans hs) ((hW.cell (p := ⟨Bw, 0, none⟩) hBw).trans hw) (tabs_below hT (hW.mono hn₀) h2) hsz hw4 hhi h0
end Go.Proofs.YtdfhpblceoaofaaDoor
