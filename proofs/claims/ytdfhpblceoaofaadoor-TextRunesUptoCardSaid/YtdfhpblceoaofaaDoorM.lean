/-
  The walk of TextRunes.
-/
import Derived.Test.YtdfhpblceoaofaaDoorL
import Derived.Laws.EntriesVeiled
namespace Go.Proofs.YtdfhpblceoaofaaDoor
open Go.ChangeShapes Go.WideShapes Go.ChangeAt Go.RowKit Go.Shelf
set_option linter.unusedVariables false
attribute [local go_sem] Oper.semAt_some

theorem own_len {w : World} {B e size n : Nat} {v : Value} {xs : List Value} (h : w.ownsRow B e size v n xs) : ∃ a cap, v = .slice a n cap := by
  rcases h.2 with ⟨rfl, rfl⟩ | ⟨g, cap, cur, rfl, _⟩
  · exact ⟨none, 0, rfl⟩
  · exact ⟨_, cap, rfl⟩

theorem with_frame {G : Prop} (z : Nat × Int → Act) (h : ∀ fr, fr = z → G) : G := h z rfl
theorem ownFrom_or {β : Type} {B : Nat} {I J : β → World → Prop} (h : OwnFrom B I) (k : OwnFrom B J) : OwnFrom B (fun s W => I s W ∨ J s W) := fun s W W' row hs hg hr => hs.imp (fun a => h s W W' row a hg hr) (fun a => k s W W' row a hg hr)
theorem walks_join {H0 B : Nat} {W X : World} {o : Obj} (hb : Below H0 W X) (hk : KeepsFrom B W X) (hB : B ≤ H0 + 1) (hc : W.heap[H0]? = some o) (ho : o.isWalk = false) : KeepsWalks W X := ⟨hb.size, fun i u hi hu => by
  by_cases h1 : i < H0
  · rw [hb.block i h1]; exact hi
  · by_cases h2 : i = H0
    · subst h2; rw [hc] at hi; cases hi; rw [ho] at hu; cases hu
    · exact hk.same i u (by omega) hi (Obj.not_cells_of_walk hu)⟩
theorem prefix_next {α : Type} {pre L : List α} {x p : α} (h : pre <+: L) (hp : L[pre.length]? = some p) : (pre ++ [x] <+: L) ↔ x = p := by
  obtain ⟨t, rfl⟩ := h
  rw [List.getElem?_append_right (Nat.le_refl _), Nat.sub_self] at hp
  cases t with
  | nil => simp at hp
  | cons y t =>
    simp at hp
    subst hp
    constructor
    · intro hx
      rw [List.prefix_append_right_inj] at hx
      simpa using hx
    · rintro rfl
      exact ⟨t, by simp⟩
theorem prefix_len {α : Type} {pre L : List α} (h : pre <+: L) (hl : L.length ≤ pre.length) : pre = L := List.IsPrefix.eq_of_length_le h hl

/-- The cells of the document's own pieces. -/
theorem want_at {s : ByteArray} {W : World} {B : Nat} {a : Option Addr} {cap : Nat} (hrow : W.ownsRow B 28 3 (.slice a (G s 0).length cap) (G s 0).length (flatP s (G s 0))) (k : Nat) (p : Nat × Int) (hp : (T s)[k]? = some p) :
    ∃ g, a = some ⟨g, 0, none⟩ ∧ g < W.heap.size ∧ W.cell? ⟨g, k * 3, none⟩ = some (.int .i64 (p.1 : Int)) ∧ W.cell? ⟨g, k * 3 + 2, none⟩ = some (.int .i32 p.2) := by
  unfold T at hp
  rw [List.getElem?_map] at hp
  obtain ⟨q, hq, rfl⟩ : ∃ q, (G s 0)[k]? = some q ∧ two q = p := by
    cases h : (G s 0)[k]? with
    | none => rw [h] at hp; simp at hp
    | some q => rw [h] at hp; exact ⟨q, rfl, by simpa using hp⟩
  have hk : k < (G s 0).length := (List.getElem?_eq_some_iff.1 hq).1
  have hf := flatP_at s _ k q hq
  rcases hrow.2 with ⟨h, h0⟩ | ⟨g, cap', cur, h, _, hg, _⟩
  · omega
  · cases h
    exact ⟨g, rfl, (Array.getElem?_eq_some_iff.1 hg).1, (hrow.cellAt (k * 3) (by omega)).trans hf.1, (hrow.cellAt (k * 3 + 2) (by omega)).trans hf.2⟩

set_option maxRecDepth 100000 in
set_option maxHeartbeats 8000000 in
theorem textRunes_in (n : Nat) (hn : 12 ≤ n) (s : ByteArray) (stop : Int) (w : World) (h2 : 2 ≤ w.heap.size) (hT : Lib.Utf8Tabs 0 1 w) (hsz : s.size ≤ 1099511627776) :
    CallsIn Fence.wide n Tryd.prog 3 #[.string s, .int .i64 stop] w fun e W' => e = .returned (.bool true) ∧ Below w.heap.size w W' := by
  have h1 : 1 ≤ n := by omega
  have hGl := G_le s
  have hfn : ∀ (x : Option Addr) (wx : World), (binOp .eql 25 (.func (.func 33) #[] #[.pointer x]) .nilFunc).run Tryd.prog wx = .ok (.bool false) wx := fun _ _ => by kernel_rfl
  refine callsIn_of_wp_marks Tryd.func3 rfl trivial ?_ rfl
  simp only [Tryd.ntmps3, List.size_toArray, List.length_cons, List.length_nil, Nat.reduceAdd, Nat.reduceSub, Array.replicate_succ, Array.replicate_zero, List.push_toArray, List.append_toArray, List.nil_append, List.cons_append]
  gi_wp2_with fail
  refine ⟨trivial, ?_⟩
  refine (callsIn_wide.2 (pieces_any s _ hsz)).mono ?_
  rintro e W1 ⟨⟨vW, rfl, hrow⟩, hB1⟩
  obtain ⟨a, cap, rfl⟩ : ∃ a cap, vW = .slice a (G s 0).length cap := own_len hrow
  gi_wp2_with fail
  refine ⟨trivial, ?_⟩
  refine (callsIn_wide.2 (runes_any s _)).mono ?_
  rintro e W2 ⟨rfl, rfl⟩
  gi_wp2_with fail
  clear hfn
  have sz0 : ((w.alloc (.cells #[.int .i64 stop] 3)).alloc (.cells #[.bool false] 4)).heap.size = w.heap.size + 2 := by simp
  have b3 := ((Boxed.new w 3 (.int .i64 stop)).alloc (.cells #[.bool false] 4)).kept (grownBy_below hB1) (by simp)
  have b4 := (Boxed.new (w.alloc (.cells #[.int .i64 stop] 3)) 4 (.bool false)).kept (grownBy_below hB1) (by simp)
  rw [World.size_alloc] at b4
  have hBw1 : Below w.heap.size w W1 := (((Below.refl _ w).alloc (Nat.le_refl _) (.cells #[.int .i64 stop] 3)).alloc (by simp) (.cells #[.bool false] 4)).trans (hB1.mono (by rw [sz0]; omega))
  have hz1 : w.heap.size + 2 ≤ W1.heap.size := by have := hB1.size; rw [sz0] at this; exact this
  clear hB1 sz0
  have b5 := ((Boxed.new W1 22 (.slice a (G s 0).length cap)).alloc (.cells #[.string s] 9)).alloc (.cells #[.func (.func 33) #[] #[.pointer (some ⟨W1.heap.size + 1, 0, none⟩)]] 25)
  have b6 := (Boxed.new (W1.alloc (.cells #[.slice a (G s 0).length cap] 22)) 9 (.string s)).alloc (.cells #[.func (.func 33) #[] #[.pointer (some ⟨W1.heap.size + 1, 0, none⟩)]] 25)
  have b7 := Boxed.new ((W1.alloc (.cells #[.slice a (G s 0).length cap] 22)).alloc (.cells #[.string s] 9)) 25 (.func (.func 33) #[] #[.pointer (some ⟨W1.heap.size + 1, 0, none⟩)])
  simp only [World.size_alloc] at b6 b7
  have b3 := ((b3.alloc (.cells #[.slice a (G s 0).length cap] 22)).alloc (.cells #[.string s] 9)).alloc (.cells #[.func (.func 33) #[] #[.pointer (some ⟨W1.heap.size + 1, 0, none⟩)]] 25)
  have b4 := ((b4.alloc (.cells #[.slice a (G s 0).length cap] 22)).alloc (.cells #[.string s] 9)).alloc (.cells #[.func (.func 33) #[] #[.pointer (some ⟨W1.heap.size + 1, 0, none⟩)]] 25)
  have hr0 := ((hrow.alloc (.cells #[.slice a (G s 0).length cap] 22)).alloc (.cells #[.string s] 9)).alloc (.cells #[.func (.func 33) #[] #[.pointer (some ⟨W1.heap.size + 1, 0, none⟩)]] 25)
  have hBw := ((hBw1.alloc (by omega) (.cells #[.slice a (G s 0).length cap] 22)).alloc (by simp; omega) (.cells #[.string s] 9)).alloc (by simp; omega) (.cells #[.func (.func 33) #[] #[.pointer (some ⟨W1.heap.size + 1, 0, none⟩)]] 25)
  have hz0 : (((W1.alloc (.cells #[.slice a (G s 0).length cap] 22)).alloc (.cells #[.string s] 9)).alloc (.cells #[.func (.func 33) #[] #[.pointer (some ⟨W1.heap.size + 1, 0, none⟩)]] 25)).heap.size = W1.heap.size + 3 := by simp
  obtain ⟨W0, hW0⟩ : ∃ W0, ((W1.alloc (.cells #[.slice a (G s 0).length cap] 22)).alloc (.cells #[.string s] 9)).alloc (.cells #[.func (.func 33) #[] #[.pointer (some ⟨W1.heap.size + 1, 0, none⟩)]] 25) = W0 := ⟨_, rfl⟩
  rw [hW0] at b3 b4 b5 b6 b7 hr0 hBw hz0 ⊢
  clear hW0 hrow hBw1
  generalize hk : W1.heap.size = k at *
  clear hk
  have hza : k + 3 ≤ W0.heap.size := by omega
  have hzb : W0.heap.size ≤ k + 3 := by omega
  clear hz0
  have hT0 := tabs_below hT hBw h2
  have hwant := want_at hr0
  clear hr0 hT
  refine wpIn_loop_rounds 3 ?_
  simp only [roundsIn_succ]
  have hV0 := Below.refl W0.heap.size W0
  -- round 0
  have hR0 := Below.refl W0.heap.size W0
  have zZ0 := hV0.size
  have b3 : Boxed W0 w.heap.size 3 (.int .i64 stop) := (hV0.block _ (by omega)).trans b3
  have b4 : Boxed W0 (w.heap.size + 1) 4 (.bool false) := (hV0.block _ (by omega)).trans b4
  have b5 : Boxed W0 k 22 (.slice a (G s 0).length cap) := (hV0.block _ (by omega)).trans b5
  have b6 : Boxed W0 (k + 1) 9 (.string s) := (hV0.block _ (by omega)).trans b6
  have b7 : Boxed W0 (k + 1 + 1) 25 (.func (.func 33) #[] #[.pointer (some ⟨k + 1, 0, none⟩)]) := (hV0.block _ (by omega)).trans b7
  have hT0 := tabs_below hT0 hV0 (by omega)
  have hwant : ∀ (i : Nat) (p : Nat × Int), (T s)[i]? = some p → ∃ g, a = some ⟨g, 0, none⟩ ∧ g < W0.heap.size ∧ W0.cell? ⟨g, i * 3, none⟩ = some (.int .i64 (p.1 : Int)) ∧ W0.cell? ⟨g, i * 3 + 2, none⟩ = some (.int .i32 p.2) := fun i p hp => by
    obtain ⟨g, e, hg, x0, x2⟩ := hwant i p hp
    exact ⟨g, e, by omega, (hV0.cell (p := ⟨g, i * 3, none⟩) hg).trans x0, (hV0.cell (p := ⟨g, i * 3 + 2, none⟩) hg).trans x2⟩
  have c6_0 : W0.cell? ⟨k + 1 + 1, 0, none⟩ = some (.func (.func 33) #[] #[.pointer (some ⟨k + 1, 0, none⟩)]) := (hR0.cell (p := ⟨k + 1 + 1, 0, none⟩) (by show k + 1 + 1 < _; omega)).trans b7.cell
  have zV0 := hR0.size
  have hk6_0 : k + 1 + 1 < W0.heap.size := by omega
  have hk7_0 : ¬ k + 1 + 1 = W0.heap.size := by omega
  gi_wp2_with fail
  have bN0 := Boxed.new W0 3 (.int .i64 0)
  have hL0 := hR0.alloc zV0 (.cells #[.int .i64 0] 3)
  apply with_frame
  intro fr0 hfr0
  refine wpIn_rangeFunc_ownH rfl h1 (gf := 33) (lb := #[.pointer (some ⟨k + 1, 0, none⟩)]) rfl trivial (enters_of Tryd.func33 (by kernel_rfl) rfl)
    (runes_tell (n - 1) (by omega) (k + 1) W0.heap.size s _ (by simp <;> omega) (by simp <;> omega) (by omega) ((hL0.cell (p := ⟨k + 1, 0, none⟩) (by show k + 1 < _; omega)).trans b6.cell) (tabs_below hT0 hL0 (by omega)) hsz) Kp_t (Kp_b (by simp <;> omega) (by simp <;> omega)) (Below.refl _ _) (fun _ => rfl)
    (fun pre W => pre <+: T s ∧ Boxed W W0.heap.size 3 (.int .i64 (pre.length : Int)) ∧ Below W0.heap.size W0 W)
    (fun _ pre W => ¬ pre <+: T s)
    (OwnFrom.and (ownFrom_pure _ (fun pre => pre <+: T s)) (OwnFrom.and (Own.from (boxed_own W0.heap.size 3 (fun pre : List (Nat × Int) => Value.int .i64 (pre.length : Int))) _) (ownFrom_below (Nat.le_refl _) (by simp <;> omega))))
    (fun _ _ _ _ _ hs _ _ => hs)
    ⟨List.nil_prefix, bN0, hL0⟩
    (fun x a' _ => a' = fr0 x)
    (fun _ _ _ _ _ _ hs _ _ => hs)
    ?assign0 ?body0 ?done0 ?stop0
  case assign0 =>
    rintro l pre x W K hi hK
    dsimp only [encT]
    gi_wp2
    exact hK _ _ (KeepsFrom.refl _ _) ⟨⟨Below.refl _ _, rfl⟩, KeepsWalks.refl _⟩ hi (congrFun hfr0 x).symm
  case body0 =>
    rintro l pre x a' W hl ⟨rl, hrl⟩ ⟨hpre, bN, hB⟩ ha hlt
    obtain rfl := ha.trans (congrFun hfr0 x)
    clear hfr0
    clear ha
    have hTl : (T s).length = (G s 0).length := by unfold T; simp
    have hlt1 : pre.length < (G s 0).length := by omega
    have hlt2 : (pre.length : Int) < ((G s 0).length : Int) := by omega
    clear hTl
    obtain ⟨⟨pa, pr⟩, hp⟩ : ∃ p, (T s)[pre.length]? = some p := ⟨_, List.getElem?_eq_getElem hlt⟩
    have hpx := prefix_next (x := x) hpre hp
    obtain ⟨g, rfl, hg, q0, q2⟩ := hwant _ _ hp
    have c8 := bN.cell
    have f8 := bN.frozen
    have c5 : W.cell? ⟨k, 0, none⟩ = some (.slice (some ⟨g, 0, none⟩) (G s 0).length cap) := (hB.cell (p := ⟨k, 0, none⟩) (by show k < _; omega)).trans b5.cell
    have c3 : W.cell? ⟨w.heap.size, 0, none⟩ = some (.int .i64 stop) := (hB.cell (p := ⟨w.heap.size, 0, none⟩) (by show w.heap.size < _; omega)).trans b3.cell
    have d0 : W.cell? ⟨g, pre.length * 3, none⟩ = some (.int .i64 (pa : Int)) := (hB.cell (p := ⟨g, pre.length * 3, none⟩) hg).trans q0
    have d2 : W.cell? ⟨g, pre.length * 3 + 2, none⟩ = some (.int .i32 pr) := (hB.cell (p := ⟨g, pre.length * 3 + 2, none⟩) hg).trans q2
    clear q0 q2
    have h1r : 1 ≤ n - 1 - 1 := by omega
    by_cases hx : x = (pa, pr)
    · have HX := Lib.hid (hpx.2 hx)
      clear hpx hp
      subst hx
      by_cases hst : (pre.length : Int) = stop
      · have hst1 : ((pre.length : Int) == stop) = true := by simpa using hst
        subst hst
        have c6 : W.cell? ⟨k + 1 + 1, 0, none⟩ = some (.func (.func 33) #[] #[.pointer (some ⟨k + 1, 0, none⟩)]) := (hB.cell (p := ⟨k + 1 + 1, 0, none⟩) (by show k + 1 + 1 < _; omega)).trans b7.cell
        have zW := hB.size
        have k6 : k + 1 + 1 < W.heap.size := by omega
        have k7 : ¬ k + 1 + 1 = W.heap.size := by omega
        gi_wp2_with fail
        have bM := Boxed.new W 3 (.int .i64 0)
        have hsW : W0.heap.size + 1 ≤ W.heap.size := bN.lt
        have hrl' : (W.alloc (.cells #[.int .i64 0] 3)).heap[l]? = some (.loop rl) := (Below.heap_alloc W _ l (Array.getElem?_eq_some_iff.1 hrl).1).trans hrl
        have hBa := hB.alloc zW (.cells #[.int .i64 0] 3)
        apply with_frame
        intro frI hfrI
        refine wpIn_rangeFunc_ownN (l₀ := l) (r₀ := rl) rfl hrl' h1r (gf := 33) (lb := #[.pointer (some ⟨k + 1, 0, none⟩)]) rfl trivial (enters_of Tryd.func33 (by kernel_rfl) rfl)
          ((runes_tell (n - 1 - 1 - 1) (by omega) (k + 1) W0.heap.size s _ (by simp <;> omega) (by simp <;> omega) (by omega) ((hBa.cell (p := ⟨k + 1, 0, none⟩) (by show k + 1 < _; omega)).trans b6.cell) (tabs_below hT0 hBa (by omega)) hsz).inRound l) Kp_t (Kp_b (by simp <;> omega) (by simp <;> omega)) (Below.refl _ _) (fun _ => rfl)
          (fun pre' W' => (pre' <+: T s ∧ pre'.length ≤ pre.length) ∧ ((Boxed W' W.heap.size 3 (.int .i64 (pre'.length : Int)) ∧ Boxed W' W0.heap.size 3 (.int .i64 (pre.length : Int))) ∧ (Below W0.heap.size W W' ∧ KeepsFrom (W0.alloc (.cells #[.int .i64 0] 3)).heap.size W W')))
          (fun c pre' W' => (c = .ret ∧ ¬ pre' <+: T s) ∨ (c = .exit 4 ∧ ((Boxed W' W.heap.size 3 (.int .i64 ((pre.length : Int) + 1)) ∧ Boxed W' W0.heap.size 3 (.int .i64 (pre.length : Int))) ∧ (Below W0.heap.size W W' ∧ KeepsFrom (W0.alloc (.cells #[.int .i64 0] 3)).heap.size W W'))))
          (OwnFrom.and (ownFrom_pure _ (fun pre' => pre' <+: T s ∧ pre'.length ≤ pre.length)) (OwnFrom.and (OwnFrom.and (Own.from (boxed_own W.heap.size 3 (fun pre' : List (Nat × Int) => Value.int .i64 (pre'.length : Int))) _) (Own.from (boxed_own W0.heap.size 3 (fun pre' : List (Nat × Int) => Value.int .i64 (pre.length : Int))) _)) (OwnFrom.and (ownFrom_below zW (by simp <;> omega)) (ownFrom_keepsFrom (by simp <;> omega)))))
          (fun c => ownFrom_or (ownFrom_pure _ (fun pre' => c = .ret ∧ ¬ pre' <+: T s)) (OwnFrom.and (ownFrom_pure _ (fun _ => c = .exit 4)) (OwnFrom.and (OwnFrom.and (Own.from (boxed_own W.heap.size 3 (fun pre' : List (Nat × Int) => Value.int .i64 ((pre.length : Int) + 1))) _) (Own.from (boxed_own W0.heap.size 3 (fun pre' : List (Nat × Int) => Value.int .i64 (pre.length : Int))) _)) (OwnFrom.and (ownFrom_below zW (by simp <;> omega)) (ownFrom_keepsFrom (by simp <;> omega))))))
          ⟨⟨List.nil_prefix, Nat.zero_le _⟩, ⟨bM, bN.alloc _⟩, (Below.refl _ W).alloc zW _, (KeepsOthers.alloc _ _).from _⟩
          (fun x a' _ => a' = frI x)
          (fun _ _ _ _ _ _ hs _ _ => hs)
          ?assignI ?bodyI ?doneI ?stopI
        case assignI =>
          rintro l2 pre' x W' K hi hK
          dsimp only [encT]
          gi_wp2
          exact hK _ _ (KeepsFrom.refl _ _) ⟨⟨Below.refl _ _, rfl⟩, KeepsWalks.refl _⟩ hi (congrFun hfrI x).symm
        case doneI =>
          rintro ys W' rfl ⟨⟨_, hle⟩, _⟩
          omega
        case bodyI =>
          rintro l2 pre' x a' W' _ _ ⟨⟨hpre', hle⟩, ⟨bM', bN'⟩, hBW, hKF⟩ ha hlt'
          obtain rfl := ha.trans (congrFun hfrI x)
          clear ha hfrI
          have hTl : (T s).length = (G s 0).length := by unfold T; simp
          have hlt3 : pre'.length < (G s 0).length := by omega
          have hlt4 : (pre'.length : Int) < ((G s 0).length : Int) := by omega
          clear hTl
          obtain ⟨⟨pa', pr'⟩, hp'⟩ : ∃ p, (T s)[pre'.length]? = some p := ⟨_, List.getElem?_eq_getElem hlt'⟩
          have hpx' := prefix_next (x := x) hpre' hp'
          obtain ⟨g', eg, hg', q0, q2⟩ := hwant _ _ hp'
          obtain rfl : g = g' := by cases eg; rfl
          have hB' := hB.trans hBW
          have c11 := bM'.cell
          have f11 := bM'.frozen
          have c5' : W'.cell? ⟨k, 0, none⟩ = some (.slice (some ⟨g, 0, none⟩) (G s 0).length cap) := (hB'.cell (p := ⟨k, 0, none⟩) (by show k < _; omega)).trans b5.cell
          have c3' : W'.cell? ⟨w.heap.size, 0, none⟩ = some (.int .i64 (pre.length : Int)) := (hB'.cell (p := ⟨w.heap.size, 0, none⟩) (by show w.heap.size < _; omega)).trans b3.cell
          have d0' : W'.cell? ⟨g, pre'.length * 3, none⟩ = some (.int .i64 (pa' : Int)) := (hB'.cell (p := ⟨g, pre'.length * 3, none⟩) hg').trans q0
          have d2' : W'.cell? ⟨g, pre'.length * 3 + 2, none⟩ = some (.int .i32 pr') := (hB'.cell (p := ⟨g, pre'.length * 3 + 2, none⟩) hg').trans q2
          clear q0 q2 eg
          by_cases hx : x = (pa', pr')
          · have HX' := Lib.hid (hpx'.2 hx)
            clear hpx' hp'
            subst hx
            have bM2 := bM'.set (.int .i64 ((pre'.length : Int) + 1))
            have bN2 := bN'.other (B' := W.heap.size) (by omega) (.int .i64 ((pre'.length : Int) + 1))
            have hBW2 := hBW.setCell (p := ⟨W.heap.size, 0, none⟩) zW (.int .i64 ((pre'.length : Int) + 1))
            have hKF2 := hKF.trans ((KeepsOthers.setCell W' ⟨W.heap.size, 0, none⟩ (.int .i64 ((pre'.length : Int) + 1))).from (W0.alloc (.cells #[.int .i64 0] 3)).heap.size)
            have hK2 := (KeepsOthers.setCell W' ⟨W.heap.size, 0, none⟩ (.int .i64 ((pre'.length : Int) + 1)))
            by_cases hm : pre'.length = pre.length
            · have hm1 : (pre.length : Int) < (pre'.length : Int) + 1 := by omega
              have HM := Lib.hid hm
              clear hm
              gi_wp2
              exact ⟨hK2.from _, .inr ⟨rfl, ⟨by rw [← HM.out]; exact bM2, bN2⟩, hBW2, hKF2⟩⟩
            · have hm1 : (pre'.length : Int) + 1 ≤ (pre.length : Int) := by omega
              clear hm
              gi_wp2
              exact ⟨hK2.from _, ⟨⟨(Below.refl _ W').setCell (p := ⟨W.heap.size, 0, none⟩) zW _, Below.heap_setCell _ _ _ _ (fun e => by have e' : k + 1 = W.heap.size := e; omega)⟩, hK2.walks⟩, ⟨HX'.out, by simp; omega⟩, ⟨by rw [List.length_append]; exact bM2, bN2⟩, hBW2, hKF2⟩
          · have HX' := Lib.hid (show ¬ pre' ++ [x] <+: T s from fun h => hx (hpx'.1 h))
            have c4 : W'.cell? ⟨w.heap.size + 1, 0, none⟩ = some (.bool false) := (hB'.cell (p := ⟨w.heap.size + 1, 0, none⟩) (by show w.heap.size + 1 < _; omega)).trans b4.cell
            have f4 : W'.frozen? ⟨w.heap.size + 1, 0, none⟩ = false := (hB'.frozen (p := ⟨w.heap.size + 1, 0, none⟩) (by show w.heap.size + 1 < _; omega)).trans b4.frozen
            obtain ⟨xa, xr⟩ := x
            by_cases ha : pa' = xa
            · have hr : ¬ pr' = xr := fun e => hx (by rw [ha, e])
              have t0 : ((pa' : Int) != (xa : Int)) = false := by simp [ha]
              have t2 : (pr' != xr) = true := by simpa using hr
              clear hx ha hr hp' hpx'
              gi_wp2
              exact ⟨(KeepsOthers.setCell _ _ _).from _, .inl ⟨rfl, HX'.out⟩⟩
            · have t0 : ((pa' : Int) != (xa : Int)) = true := by simp; omega
              clear hx ha hp' hpx'
              gi_wp2
              exact ⟨(KeepsOthers.setCell _ _ _).from _, .inl ⟨rfl, HX'.out⟩⟩
        case stopI =>
          rintro c pre' W' hp h
          rcases h with ⟨rfl, hx⟩ | ⟨rfl, ⟨bM', bN'⟩, hBW, hKF⟩
          · exact absurd hp hx
          · have c11 := bM'.cell
            have c8' := bN'.cell
            have f8' := bN'.frozen
            have c3' : W'.cell? ⟨w.heap.size, 0, none⟩ = some (.int .i64 (pre.length : Int)) := (hBW.cell (p := ⟨w.heap.size, 0, none⟩) (by show w.heap.size < _; omega)).trans c3
            have hK2 := (KeepsOthers.setCell W' ⟨W0.heap.size, 0, none⟩ (.int .i64 ((pre.length : Int) + 1)))
            have hBW2 := hBW.setCell (p := ⟨W0.heap.size, 0, none⟩) zV0 (.int .i64 ((pre.length : Int) + 1))
            have hKF2 := hKF.trans (hK2.from (W0.alloc (.cells #[.int .i64 0] 3)).heap.size)
            gi_wp2
            exact ⟨hKF2, ⟨⟨hBW2, hBW2.block (k + 1) (by omega)⟩, walks_join hBW2 hKF2 (by simp) bN rfl⟩, HX.out, by rw [List.length_append]; exact bN'.set _, hB.trans hBW2⟩
      · have hst1 : ((pre.length : Int) == stop) = false := by simpa using hst
        clear hst
        gi_wp2
        exact ⟨(KeepsOthers.setCell _ _ _).from _, ⟨⟨(Below.refl _ W).setCell (p := ⟨W0.heap.size, 0, none⟩) zV0 _, Below.heap_setCell _ _ _ _ (fun e => by have e' : k + 1 = W0.heap.size := e; omega)⟩, (KeepsOthers.setCell _ _ _).walks⟩, HX.out, by rw [List.length_append]; exact bN.set _, hB.setCell (p := ⟨W0.heap.size, 0, none⟩) zV0 _⟩
    · have HX := Lib.hid (show ¬ pre ++ [x] <+: T s from fun h => hx (hpx.1 h))
      have c4 : W.cell? ⟨w.heap.size + 1, 0, none⟩ = some (.bool false) := (hB.cell (p := ⟨w.heap.size + 1, 0, none⟩) (by show w.heap.size + 1 < _; omega)).trans b4.cell
      have f4 : W.frozen? ⟨w.heap.size + 1, 0, none⟩ = false := (hB.frozen (p := ⟨w.heap.size + 1, 0, none⟩) (by show w.heap.size + 1 < _; omega)).trans b4.frozen
      obtain ⟨xa, xr⟩ := x
      by_cases ha : pa = xa
      · have hr : ¬ pr = xr := fun e => hx (by rw [ha, e])
        have t0 : ((pa : Int) != (xa : Int)) = false := by simp [ha]
        have t2 : (pr != xr) = true := by simpa using hr
        clear hx ha hr hp hpx
        gi_wp2
        exact ⟨(KeepsOthers.setCell _ _ _).from _, HX.out⟩
      · have t0 : ((pa : Int) != (xa : Int)) = true := by simp; omega
        clear hx ha hp hpx
        gi_wp2
        exact ⟨(KeepsOthers.setCell _ _ _).from _, HX.out⟩
  case stop0 =>
    rintro D c pre W hD hp hx _
    exact absurd hp hx
  case done0 =>
    rintro D0 ys V1 hD0 rfl ⟨_, bN, hB⟩ hK0
    have hTl : (T s).length = (G s 0).length := by unfold T; simp
    have t8 : (((T s).length : Int) != ((G s 0).length : Int)) = false := by simp [hTl]
    clear hTl
    have c8 := bN.cell
    have c5 : V1.cell? ⟨k, 0, none⟩ = some (.slice a (G s 0).length cap) := (hB.cell (p := ⟨k, 0, none⟩) (by show k < _; omega)).trans b5.cell
    have hV1 := hV0.trans (hB.mono zZ0)
    clear bN
    -- round 1
    have hR1 := Below.refl V1.heap.size V1
    have zZ1 := hV1.size
    have b3 : Boxed V1 w.heap.size 3 (.int .i64 stop) := (hV1.block _ (by omega)).trans b3
    have b4 : Boxed V1 (w.heap.size + 1) 4 (.bool false) := (hV1.block _ (by omega)).trans b4
    have b5 : Boxed V1 k 22 (.slice a (G s 0).length cap) := (hV1.block _ (by omega)).trans b5
    have b6 : Boxed V1 (k + 1) 9 (.string s) := (hV1.block _ (by omega)).trans b6
    have b7 : Boxed V1 (k + 1 + 1) 25 (.func (.func 33) #[] #[.pointer (some ⟨k + 1, 0, none⟩)]) := (hV1.block _ (by omega)).trans b7
    have hT0 := tabs_below hT0 hV1 (by omega)
    have hwant : ∀ (i : Nat) (p : Nat × Int), (T s)[i]? = some p → ∃ g, a = some ⟨g, 0, none⟩ ∧ g < V1.heap.size ∧ V1.cell? ⟨g, i * 3, none⟩ = some (.int .i64 (p.1 : Int)) ∧ V1.cell? ⟨g, i * 3 + 2, none⟩ = some (.int .i32 p.2) := fun i p hp => by
      obtain ⟨g, e, hg, x0, x2⟩ := hwant i p hp
      exact ⟨g, e, by omega, (hV1.cell (p := ⟨g, i * 3, none⟩) hg).trans x0, (hV1.cell (p := ⟨g, i * 3 + 2, none⟩) hg).trans x2⟩
    have c6_1 : V1.cell? ⟨k + 1 + 1, 0, none⟩ = some (.func (.func 33) #[] #[.pointer (some ⟨k + 1, 0, none⟩)]) := (hR1.cell (p := ⟨k + 1 + 1, 0, none⟩) (by show k + 1 + 1 < _; omega)).trans b7.cell
    have zV1 := hR1.size
    have hk6_1 : k + 1 + 1 < V1.heap.size := by omega
    have hk7_1 : ¬ k + 1 + 1 = V1.heap.size := by omega
    gi_wp2_with fail
    simp only [roundsIn_succ]
    gi_wp2_with fail
    have bN1 := Boxed.new V1 3 (.int .i64 0)
    have hL1 := hR1.alloc zV1 (.cells #[.int .i64 0] 3)
    apply with_frame
    intro fr1 hfr1
    refine wpIn_rangeFunc_ownH rfl h1 (gf := 33) (lb := #[.pointer (some ⟨k + 1, 0, none⟩)]) rfl trivial (enters_of Tryd.func33 (by kernel_rfl) rfl)
      (runes_tell (n - 1) (by omega) (k + 1) V1.heap.size s _ (by simp <;> omega) (by simp <;> omega) (by omega) ((hL1.cell (p := ⟨k + 1, 0, none⟩) (by show k + 1 < _; omega)).trans b6.cell) (tabs_below hT0 hL1 (by omega)) hsz) Kp_t (Kp_b (by simp <;> omega) (by simp <;> omega)) (Below.refl _ _) (fun _ => rfl)
      (fun pre W => pre <+: T s ∧ Boxed W V1.heap.size 3 (.int .i64 (pre.length : Int)) ∧ Below V1.heap.size V1 W)
      (fun _ pre W => ¬ pre <+: T s)
      (OwnFrom.and (ownFrom_pure _ (fun pre => pre <+: T s)) (OwnFrom.and (Own.from (boxed_own V1.heap.size 3 (fun pre : List (Nat × Int) => Value.int .i64 (pre.length : Int))) _) (ownFrom_below (Nat.le_refl _) (by simp <;> omega))))
      (fun _ _ _ _ _ hs _ _ => hs)
      ⟨List.nil_prefix, bN1, hL1⟩
      (fun x a' _ => a' = fr1 x)
      (fun _ _ _ _ _ _ hs _ _ => hs)
      ?assign1 ?body1 ?done1 ?stop1
    case assign1 =>
      rintro l pre x W K hi hK
      dsimp only [encT]
      gi_wp2
      exact hK _ _ (KeepsFrom.refl _ _) ⟨⟨Below.refl _ _, rfl⟩, KeepsWalks.refl _⟩ hi (congrFun hfr1 x).symm
    case body1 =>
      rintro l pre x a' W hl ⟨rl, hrl⟩ ⟨hpre, bN, hB⟩ ha hlt
      obtain rfl := ha.trans (congrFun hfr1 x)
      clear hfr1
      clear ha
      have hTl : (T s).length = (G s 0).length := by unfold T; simp
      have hlt1 : pre.length < (G s 0).length := by omega
      have hlt2 : (pre.length : Int) < ((G s 0).length : Int) := by omega
      clear hTl
      obtain ⟨⟨pa, pr⟩, hp⟩ : ∃ p, (T s)[pre.length]? = some p := ⟨_, List.getElem?_eq_getElem hlt⟩
      have hpx := prefix_next (x := x) hpre hp
      obtain ⟨g, rfl, hg, q0, q2⟩ := hwant _ _ hp
      have c8 := bN.cell
      have f8 := bN.frozen
      have c5 : W.cell? ⟨k, 0, none⟩ = some (.slice (some ⟨g, 0, none⟩) (G s 0).length cap) := (hB.cell (p := ⟨k, 0, none⟩) (by show k < _; omega)).trans b5.cell
      have c3 : W.cell? ⟨w.heap.size, 0, none⟩ = some (.int .i64 stop) := (hB.cell (p := ⟨w.heap.size, 0, none⟩) (by show w.heap.size < _; omega)).trans b3.cell
      have d0 : W.cell? ⟨g, pre.length * 3, none⟩ = some (.int .i64 (pa : Int)) := (hB.cell (p := ⟨g, pre.length * 3, none⟩) hg).trans q0
      have d2 : W.cell? ⟨g, pre.length * 3 + 2, none⟩ = some (.int .i32 pr) := (hB.cell (p := ⟨g, pre.length * 3 + 2, none⟩) hg).trans q2
      clear q0 q2
      have h1r : 1 ≤ n - 1 - 1 := by omega
      by_cases hx : x = (pa, pr)
      · have HX := Lib.hid (hpx.2 hx)
        clear hpx hp
        subst hx
        by_cases hst : (pre.length : Int) = stop
        · have hst1 : ((pre.length : Int) == stop) = true := by simpa using hst
          subst hst
          have c6 : W.cell? ⟨k + 1 + 1, 0, none⟩ = some (.func (.func 33) #[] #[.pointer (some ⟨k + 1, 0, none⟩)]) := (hB.cell (p := ⟨k + 1 + 1, 0, none⟩) (by show k + 1 + 1 < _; omega)).trans b7.cell
          have zW := hB.size
          have k6 : k + 1 + 1 < W.heap.size := by omega
          have k7 : ¬ k + 1 + 1 = W.heap.size := by omega
          gi_wp2_with fail
          have bM := Boxed.new W 3 (.int .i64 0)
          have hsW : V1.heap.size + 1 ≤ W.heap.size := bN.lt
          have hrl' : (W.alloc (.cells #[.int .i64 0] 3)).heap[l]? = some (.loop rl) := (Below.heap_alloc W _ l (Array.getElem?_eq_some_iff.1 hrl).1).trans hrl
          have hBa := hB.alloc zW (.cells #[.int .i64 0] 3)
          apply with_frame
          intro frI hfrI
          refine wpIn_rangeFunc_ownN (l₀ := l) (r₀ := rl) rfl hrl' h1r (gf := 33) (lb := #[.pointer (some ⟨k + 1, 0, none⟩)]) rfl trivial (enters_of Tryd.func33 (by kernel_rfl) rfl)
            ((runes_tell (n - 1 - 1 - 1) (by omega) (k + 1) V1.heap.size s _ (by simp <;> omega) (by simp <;> omega) (by omega) ((hBa.cell (p := ⟨k + 1, 0, none⟩) (by show k + 1 < _; omega)).trans b6.cell) (tabs_below hT0 hBa (by omega)) hsz).inRound l) Kp_t (Kp_b (by simp <;> omega) (by simp <;> omega)) (Below.refl _ _) (fun _ => rfl)
            (fun pre' W' => (pre' <+: T s ∧ pre'.length ≤ pre.length) ∧ ((Boxed W' W.heap.size 3 (.int .i64 (pre'.length : Int)) ∧ Boxed W' V1.heap.size 3 (.int .i64 (pre.length : Int))) ∧ (Below V1.heap.size W W' ∧ KeepsFrom (V1.alloc (.cells #[.int .i64 0] 3)).heap.size W W')))
            (fun c pre' W' => (c = .ret ∧ ¬ pre' <+: T s) ∨ (c = .exit 4 ∧ ((Boxed W' W.heap.size 3 (.int .i64 ((pre.length : Int) + 1)) ∧ Boxed W' V1.heap.size 3 (.int .i64 (pre.length : Int))) ∧ (Below V1.heap.size W W' ∧ KeepsFrom (V1.alloc (.cells #[.int .i64 0] 3)).heap.size W W'))))
            (OwnFrom.and (ownFrom_pure _ (fun pre' => pre' <+: T s ∧ pre'.length ≤ pre.length)) (OwnFrom.and (OwnFrom.and (Own.from (boxed_own W.heap.size 3 (fun pre' : List (Nat × Int) => Value.int .i64 (pre'.length : Int))) _) (Own.from (boxed_own V1.heap.size 3 (fun pre' : List (Nat × Int) => Value.int .i64 (pre.length : Int))) _)) (OwnFrom.and (ownFrom_below zW (by simp <;> omega)) (ownFrom_keepsFrom (by simp <;> omega)))))
            (fun c => ownFrom_or (ownFrom_pure _ (fun pre' => c = .ret ∧ ¬ pre' <+: T s)) (OwnFrom.and (ownFrom_pure _ (fun _ => c = .exit 4)) (OwnFrom.and (OwnFrom.and (Own.from (boxed_own W.heap.size 3 (fun pre' : List (Nat × Int) => Value.int .i64 ((pre.length : Int) + 1))) _) (Own.from (boxed_own V1.heap.size 3 (fun pre' : List (Nat × Int) => Value.int .i64 (pre.length : Int))) _)) (OwnFrom.and (ownFrom_below zW (by simp <;> omega)) (ownFrom_keepsFrom (by simp <;> omega))))))
            ⟨⟨List.nil_prefix, Nat.zero_le _⟩, ⟨bM, bN.alloc _⟩, (Below.refl _ W).alloc zW _, (KeepsOthers.alloc _ _).from _⟩
            (fun x a' _ => a' = frI x)
            (fun _ _ _ _ _ _ hs _ _ => hs)
            ?assignI ?bodyI ?doneI ?stopI
          case assignI =>
            rintro l2 pre' x W' K hi hK
            dsimp only [encT]
            gi_wp2
            exact hK _ _ (KeepsFrom.refl _ _) ⟨⟨Below.refl _ _, rfl⟩, KeepsWalks.refl _⟩ hi (congrFun hfrI x).symm
          case doneI =>
            rintro ys W' rfl ⟨⟨_, hle⟩, _⟩
            omega
          case bodyI =>
            rintro l2 pre' x a' W' _ _ ⟨⟨hpre', hle⟩, ⟨bM', bN'⟩, hBW, hKF⟩ ha hlt'
            obtain rfl := ha.trans (congrFun hfrI x)
            clear ha hfrI
            have hTl : (T s).length = (G s 0).length := by unfold T; simp
            have hlt3 : pre'.length < (G s 0).length := by omega
            have hlt4 : (pre'.length : Int) < ((G s 0).length : Int) := by omega
            clear hTl
            obtain ⟨⟨pa', pr'⟩, hp'⟩ : ∃ p, (T s)[pre'.length]? = some p := ⟨_, List.getElem?_eq_getElem hlt'⟩
            have hpx' := prefix_next (x := x) hpre' hp'
            obtain ⟨g', eg, hg', q0, q2⟩ := hwant _ _ hp'
            obtain rfl : g = g' := by cases eg; rfl
            have hB' := hB.trans hBW
            have c11 := bM'.cell
            have f11 := bM'.frozen
            have c5' : W'.cell? ⟨k, 0, none⟩ = some (.slice (some ⟨g, 0, none⟩) (G s 0).length cap) := (hB'.cell (p := ⟨k, 0, none⟩) (by show k < _; omega)).trans b5.cell
            have c3' : W'.cell? ⟨w.heap.size, 0, none⟩ = some (.int .i64 (pre.length : Int)) := (hB'.cell (p := ⟨w.heap.size, 0, none⟩) (by show w.heap.size < _; omega)).trans b3.cell
            have d0' : W'.cell? ⟨g, pre'.length * 3, none⟩ = some (.int .i64 (pa' : Int)) := (hB'.cell (p := ⟨g, pre'.length * 3, none⟩) hg').trans q0
            have d2' : W'.cell? ⟨g, pre'.length * 3 + 2, none⟩ = some (.int .i32 pr') := (hB'.cell (p := ⟨g, pre'.length * 3 + 2, none⟩) hg').trans q2
            clear q0 q2 eg
            by_cases hx : x = (pa', pr')
            · have HX' := Lib.hid (hpx'.2 hx)
              clear hpx' hp'
              subst hx
              have bM2 := bM'.set (.int .i64 ((pre'.length : Int) + 1))
              have bN2 := bN'.other (B' := W.heap.size) (by omega) (.int .i64 ((pre'.length : Int) + 1))
              have hBW2 := hBW.setCell (p := ⟨W.heap.size, 0, none⟩) zW (.int .i64 ((pre'.length : Int) + 1))
              have hKF2 := hKF.trans ((KeepsOthers.setCell W' ⟨W.heap.size, 0, none⟩ (.int .i64 ((pre'.length : Int) + 1))).from (V1.alloc (.cells #[.int .i64 0] 3)).heap.size)
              have hK2 := (KeepsOthers.setCell W' ⟨W.heap.size, 0, none⟩ (.int .i64 ((pre'.length : Int) + 1)))
              by_cases hm : pre'.length = pre.length
              · have hm1 : (pre.length : Int) < (pre'.length : Int) + 1 := by omega
                have HM := Lib.hid hm
                clear hm
                gi_wp2
                exact ⟨hK2.from _, .inr ⟨rfl, ⟨by rw [← HM.out]; exact bM2, bN2⟩, hBW2, hKF2⟩⟩
              · have hm1 : (pre'.length : Int) + 1 ≤ (pre.length : Int) := by omega
                clear hm
                gi_wp2
                exact ⟨hK2.from _, ⟨⟨(Below.refl _ W').setCell (p := ⟨W.heap.size, 0, none⟩) zW _, Below.heap_setCell _ _ _ _ (fun e => by have e' : k + 1 = W.heap.size := e; omega)⟩, hK2.walks⟩, ⟨HX'.out, by simp; omega⟩, ⟨by rw [List.length_append]; exact bM2, bN2⟩, hBW2, hKF2⟩
            · have HX' := Lib.hid (show ¬ pre' ++ [x] <+: T s from fun h => hx (hpx'.1 h))
              have c4 : W'.cell? ⟨w.heap.size + 1, 0, none⟩ = some (.bool false) := (hB'.cell (p := ⟨w.heap.size + 1, 0, none⟩) (by show w.heap.size + 1 < _; omega)).trans b4.cell
              have f4 : W'.frozen? ⟨w.heap.size + 1, 0, none⟩ = false := (hB'.frozen (p := ⟨w.heap.size + 1, 0, none⟩) (by show w.heap.size + 1 < _; omega)).trans b4.frozen
              obtain ⟨xa, xr⟩ := x
              by_cases ha : pa' = xa
              · have hr : ¬ pr' = xr := fun e => hx (by rw [ha, e])
                have t0 : ((pa' : Int) != (xa : Int)) = false := by simp [ha]
                have t2 : (pr' != xr) = true := by simpa using hr
                clear hx ha hr hp' hpx'
                gi_wp2
                exact ⟨(KeepsOthers.setCell _ _ _).from _, .inl ⟨rfl, HX'.out⟩⟩
              · have t0 : ((pa' : Int) != (xa : Int)) = true := by simp; omega
                clear hx ha hp' hpx'
                gi_wp2
                exact ⟨(KeepsOthers.setCell _ _ _).from _, .inl ⟨rfl, HX'.out⟩⟩
          case stopI =>
            rintro c pre' W' hp h
            rcases h with ⟨rfl, hx⟩ | ⟨rfl, ⟨bM', bN'⟩, hBW, hKF⟩
            · exact absurd hp hx
            · have c11 := bM'.cell
              have c8' := bN'.cell
              have f8' := bN'.frozen
              have c3' : W'.cell? ⟨w.heap.size, 0, none⟩ = some (.int .i64 (pre.length : Int)) := (hBW.cell (p := ⟨w.heap.size, 0, none⟩) (by show w.heap.size < _; omega)).trans c3
              have hK2 := (KeepsOthers.setCell W' ⟨V1.heap.size, 0, none⟩ (.int .i64 ((pre.length : Int) + 1)))
              have hBW2 := hBW.setCell (p := ⟨V1.heap.size, 0, none⟩) zV1 (.int .i64 ((pre.length : Int) + 1))
              have hKF2 := hKF.trans (hK2.from (V1.alloc (.cells #[.int .i64 0] 3)).heap.size)
              gi_wp2
              exact ⟨hKF2, ⟨⟨hBW2, hBW2.block (k + 1) (by omega)⟩, walks_join hBW2 hKF2 (by simp) bN rfl⟩, HX.out, by rw [List.length_append]; exact bN'.set _, hB.trans hBW2⟩
        · have hst1 : ((pre.length : Int) == stop) = false := by simpa using hst
          clear hst
          gi_wp2
          exact ⟨(KeepsOthers.setCell _ _ _).from _, ⟨⟨(Below.refl _ W).setCell (p := ⟨V1.heap.size, 0, none⟩) zV1 _, Below.heap_setCell _ _ _ _ (fun e => by have e' : k + 1 = V1.heap.size := e; omega)⟩, (KeepsOthers.setCell _ _ _).walks⟩, HX.out, by rw [List.length_append]; exact bN.set _, hB.setCell (p := ⟨V1.heap.size, 0, none⟩) zV1 _⟩
      · have HX := Lib.hid (show ¬ pre ++ [x] <+: T s from fun h => hx (hpx.1 h))
        have c4 : W.cell? ⟨w.heap.size + 1, 0, none⟩ = some (.bool false) := (hB.cell (p := ⟨w.heap.size + 1, 0, none⟩) (by show w.heap.size + 1 < _; omega)).trans b4.cell
        have f4 : W.frozen? ⟨w.heap.size + 1, 0, none⟩ = false := (hB.frozen (p := ⟨w.heap.size + 1, 0, none⟩) (by show w.heap.size + 1 < _; omega)).trans b4.frozen
        obtain ⟨xa, xr⟩ := x
        by_cases ha : pa = xa
        · have hr : ¬ pr = xr := fun e => hx (by rw [ha, e])
          have t0 : ((pa : Int) != (xa : Int)) = false := by simp [ha]
          have t2 : (pr != xr) = true := by simpa using hr
          clear hx ha hr hp hpx
          gi_wp2
          exact ⟨(KeepsOthers.setCell _ _ _).from _, HX.out⟩
        · have t0 : ((pa : Int) != (xa : Int)) = true := by simp; omega
          clear hx ha hp hpx
          gi_wp2
          exact ⟨(KeepsOthers.setCell _ _ _).from _, HX.out⟩
    case stop1 =>
      rintro D c pre W hD hp hx _
      exact absurd hp hx
    case done1 =>
      rintro D1 ys V2 hD1 rfl ⟨_, bN, hB⟩ hK1
      have hTl : (T s).length = (G s 0).length := by unfold T; simp
      have t8 : (((T s).length : Int) != ((G s 0).length : Int)) = false := by simp [hTl]
      clear hTl
      have c8 := bN.cell
      have c5 : V2.cell? ⟨k, 0, none⟩ = some (.slice a (G s 0).length cap) := (hB.cell (p := ⟨k, 0, none⟩) (by show k < _; omega)).trans b5.cell
      have hV2 := hV1.trans (hB.mono zZ1)
      clear bN
      gi_wp2_with fail
      simp only [roundsIn_succ]
      gi_wp2_with fail
      have hT2 := tabs_below hT0 hB (by omega)
      have hBw2 := hBw.trans (hV2.mono (by omega))
      refine ⟨trivial, ?_⟩
      refine (callsIn_wide.2 (rbreaks_any s _ hsz)).mono ?_
      rintro e X1 ⟨⟨v0, rfl, hb0⟩, x1⟩
      obtain ⟨a0, cap0, rfl⟩ := own_len hb0
      gi_wp2_with fail
      refine ⟨trivial, ?_⟩
      have hz2 := hV2.size
      have hzx1 := x1.size
      refine (breaks_in (n - 1) (by omega) s X1 (by omega) (tabs_below hT2 x1 (by omega)) hsz).mono ?_
      rintro e X2 ⟨⟨va, rfl, hba⟩, x2⟩
      obtain ⟨a1, cap1, rfl⟩ := own_len hba
      gi_wp2_with fail
      refine ⟨trivial, ?_⟩
      have hzx2 := x2.size
      have x12 := x1.trans (x2.mono hzx1)
      refine (breaks_in (n - 1) (by omega) s X2 (by omega) (tabs_below hT2 x12 (by omega)) hsz).mono ?_
      rintro e X3 ⟨⟨vb, rfl, hbb⟩, x3⟩
      obtain ⟨a2, cap2, rfl⟩ := own_len hbb
      have hzx3 := x3.size
      have r0 := ((reads_of_own hb0).below x2).below x3
      have r1 := (reads_of_own hba).below x3
      have r2 := reads_of_own hbb
      have hxl : (bks (G s 0)).length ≤ 1099511627776 := Nat.le_trans (bks_le _) (by omega)
      generalize hxs : bks (G s 0) = xs at *
      clear hxs
      gi_wp2_with fail
      refine ⟨trivial, ?_⟩
      refine (callsIn_wide.2 (same_any _ _ xs _ r1 r0 hxl)).mono ?_
      rintro e X4 ⟨rfl, m1, rfl⟩
      gi_wp2_with fail
      refine ⟨trivial, ?_⟩
      refine (callsIn_wide.2 (same_any _ _ xs (X3.drewN m1) (r2.drewN m1) (r0.drewN m1) hxl)).mono ?_
      rintro e X5 ⟨rfl, m2, rfl⟩
      rw [World.drewN_drewN]
      generalize m1 + m2 = m at *
      have hu0 : ∀ g, Value.ownBlock (.slice a0 xs.length cap0) = some g → g < X1.heap.size := fun g hg => (hb0.lt g hg).2
      have hu1 : ∀ g, Value.ownBlock (.slice a1 xs.length cap1) = some g → X1.heap.size ≤ g ∧ g < X2.heap.size := fun g hg => hba.lt g hg
      have hD1' : D1 < X1.heap.size := by have := (Array.getElem?_eq_some_iff.1 hK1).1; omega
      have hD0' : D0 < V2.heap.size := by have := (Array.getElem?_eq_some_iff.1 hK0).1; have := hB.size; omega
      have hT : Tail w V2.heap.size X2.heap.size D0 D1 (.slice a0 xs.length cap0) (.slice a2 xs.length cap2) xs (X3.drewN m) :=
        { h0 := own_drewN (own_below (own_below hb0 x2) x3) m
          hb := own_drewN hbb m
          box := (((x12.trans (x3.mono (by omega))).block _ (by omega)).trans ((hB.block _ (by omega)).trans b4))
          d0 := (((x12.trans (x3.mono (by omega))).block _ hD0').trans ((hB.block _ (Array.getElem?_eq_some_iff.1 hK0).1).trans hK0))
          d1 := (((x12.trans (x3.mono (by omega))).block _ (Array.getElem?_eq_some_iff.1 hK1).1).trans hK1)
          below := (hBw2.trans ((x12.trans (x3.mono (by omega))).mono (by omega))).trans ⟨rfl, rfl, rfl, Nat.le_refl _, fun _ _ => rfl⟩ }
      have hA : (X3.drewN m).ownsRow X1.heap.size 3 1 (.slice a1 xs.length cap1) xs.length (xs.map (Value.int .i64)) := own_drewN (own_below hba x3) m
      have hF : ∀ g, Value.ownBlock (.slice a1 xs.length cap1) = some g → Free w D0 D1 (.slice a0 xs.length cap0) (.slice a2 xs.length cap2) g := fun g hg =>
        ⟨fun e => by have := hu0 g e; have := (hu1 g hg).1; omega, fun e => by have := (hbb.lt g e).1; have := (hu1 g hg).2; omega, by have := (hu1 g hg).1; omega, by have := (hu1 g hg).1; omega, by have := (hu1 g hg).1; omega⟩
      have hXs : X1.heap.size ≤ (X3.drewN m).heap.size := by show X1.heap.size ≤ X3.heap.size; omega
      obtain ⟨Y, hY⟩ : ∃ Y, X3.drewN m = Y := ⟨_, rfl⟩
      rw [hY] at hT hA hXs ⊢
      clear hY r0 r1 r2 hb0 hba hbb x1 x2 x3 x12 hu0 hu1
      gi_wp2_with fail
      gi_loopw [17] (fun t wr => ∃ (i : Nat) (ys : List Int), t = .int .i64 i ∧ i ≤ xs.length ∧ ys.length = xs.length ∧ wr.ownsRow X1.heap.size 3 1 (.slice a1 xs.length cap1) xs.length (ys.map (Value.int .i64)) ∧ Tail w V2.heap.size X2.heap.size D0 D1 (.slice a0 xs.length cap0) (.slice a2 xs.length cap2) xs wr ∧ X1.heap.size ≤ wr.heap.size) (fun t _ => xs.length - (intOf t).toNat)
      case atStart => exact ⟨0, xs, rfl, by omega, rfl, hA, hT, hXs⟩
      case round =>
        obtain ⟨i, ys, rfl, hi, hy, hA, hT, hXs⟩ := hrel
        by_cases hlt : i < xs.length
        · have hlt' : (i : Int) < (xs.length : Int) := by omega
          rcases hA.2 with ⟨h, h0⟩ | ⟨g, cap', cur, h, _⟩
          · omega
          · cases h
            have hc : wr.cell? ⟨g, i, none⟩ = some (.int .i64 (ys[i]?.getD 0)) := by
              rw [hA.cellAt i (by omega), List.getElem?_map, List.getElem?_eq_getElem (by omega)]; simp
            have hf := hA.frozenAt i
            have HS := own_store hA i (-9)
            have HT := hT.step HS.2 (fun j hj => by cases hj; exact hF g rfl)
            have hsz2 := HS.2.size
            have HY := Lib.hid (show (ys.set i (-9)).length = xs.length by simp [hy])
            clear hy
            gi_wp2
            exact ⟨⟨i + 1, ys.set i (-9), (by go_num), hlt, HY.out, HS.1, HT, Nat.le_trans hXs hsz2⟩, by simp [intOf]; omega⟩
        · gi_wp2_with fail
          have hF0 := hF
          have HY := Lib.hid hy
          clear hy hF
          gi_loopw [15, 18] (fun v t wr => ∃ (j : Nat) (ys : List Int), t = .int .i64 j ∧ j ≤ 20 ∧ Hid (ys.length = xs.length + j) ∧ wr.ownsRow X1.heap.size 3 1 v ys.length (ys.map (Value.int .i64)) ∧ Tail w V2.heap.size X2.heap.size D0 D1 (.slice a0 xs.length cap0) (.slice a2 xs.length cap2) xs wr ∧ X1.heap.size ≤ wr.heap.size ∧ (∀ g, v.ownBlock = some g → Free w D0 D1 (.slice a0 xs.length cap0) (.slice a2 xs.length cap2) g)) (fun _ t _ => 20 - (intOf t).toNat)
          case atStart => exact ⟨0, ys, rfl, by omega, Lib.hid (by rw [HY.out]; rfl), by rw [HY.out]; exact hA, hT, hXs, hF0⟩
          case round =>
            clear hA hT hXs hF0 HY hlt
            obtain ⟨j, ys, rfl, hj, HL, hA, hT, hXs, hF⟩ := hrel
            by_cases hlt : j < 20
            · have hlen : ys.length ≤ 1099511627776 + 20 := by have := HL.out; omega
              gi_wp2_with (gi_at_builtin; refine append_apart _ rfl _ _ rfl X1.heap.size _ ys.length (ys.map (Value.int .i64)) rfl (hA.alloc _) ⟨wr.heap.size, 0, none⟩ 1 1 [.int .i64 (-9)] rfl rfl (cell_one_new _ _ _) (by simp [Value.oneCell']) (by unfold maxLen; omega) (by omega) (by simp; omega) ?_; intro v' w3 hown3 hgrow3 hap3)
              have hTa := hT.step (World.grownBy_alloc wr (.cells #[.int .i64 (-9)] 3) none) (fun g e => by cases e)
              have hT3 := hTa.step hgrow3 hF
              exact ⟨⟨j + 1, ys ++ [-9], (by go_num), by omega, Lib.hid (by rw [List.length_append, HL.out]; rfl), by rw [List.length_append, List.map_append]; exact hown3, hT3, Nat.le_trans hXs (Nat.le_trans (by simp) hgrow3.size), fun g hg => (hap3 g hg).elim (hF g) (fun h => hTa.new h)⟩, by simp [intOf]; omega⟩
            · obtain rfl : j = 20 := by omega
              obtain ⟨a3, cap3, rfl⟩ := own_len hA
              have t20 : ((ys.length : Int) == (xs.length : Int) + 20) = true := by have := HL.out; simp; omega
              gi_wp2_with fail
              refine ⟨trivial, ?_⟩
              refine (callsIn_wide.2 (same_any _ _ xs wr (reads_of_own hT.hb) (reads_of_own hT.h0) hxl)).mono ?_
              rintro e X6 ⟨rfl, m6, rfl⟩
              have hTd := hT.step (W' := wr.drewN m6) (row := none) ⟨rfl, rfl, rfl, Nat.le_refl _, fun _ _ _ => rfl⟩ (fun g e => by cases e)
              have cB := hTd.box.cell
              have fB := hTd.box.frozen
              have e0 : (((wr.drewN m6).setCell ⟨w.heap.size + 1, 0, none⟩ (.bool true))).heap[D0]? = some (.deferred (some [])) := (KeepsOthers.setCell _ _ _).same D0 _ hTd.d0 rfl
              have e1 : (((wr.drewN m6).setCell ⟨w.heap.size + 1, 0, none⟩ (.bool true))).heap[D1]? = some (.deferred (some [])) := (KeepsOthers.setCell _ _ _).same D1 _ hTd.d1 rfl
              have bB := hTd.box.set (.bool true)
              have hBl := hTd.below.setCell (p := ⟨w.heap.size + 1, 0, none⟩) (by show w.heap.size ≤ w.heap.size + 1; omega) (.bool true)
              have hne : D0 ≠ D1 := by
                have := (Array.getElem?_eq_some_iff.1 hK0).1
                simp at hD1
                omega
              have bB1 : Boxed (((wr.drewN m6).setCell ⟨w.heap.size + 1, 0, none⟩ (.bool true)).putObj D1 (.deferred none)) (w.heap.size + 1) 4 (.bool true) := bB.kept (grownBy_putObj' _ D1 _) (fun e => by cases e; rw [show _ = _ from bB] at e1; cases e1)
              have e01 : (((wr.drewN m6).setCell ⟨w.heap.size + 1, 0, none⟩ (.bool true)).putObj D1 (.deferred none)).heap[D0]? = some (.deferred (some [])) := (World.putObj_heap_other hne).trans e0
              have bB2 : Boxed ((((wr.drewN m6).setCell ⟨w.heap.size + 1, 0, none⟩ (.bool true)).putObj D1 (.deferred none)).putObj D0 (.deferred none)) (w.heap.size + 1) 4 (.bool true) := bB1.kept (grownBy_putObj' _ D0 _) (fun e => by cases e; rw [show _ = _ from bB1] at e01; cases e01)
              have hDw0 : w.heap.size ≤ D0 := by
                have := hBw.size
                simp at hD0
                omega
              have hDw1 : w.heap.size ≤ D1 := by
                have := hBw.size
                have := hV1.size
                simp at hD1
                omega
              have hBl1 := hBl.trans (belowK_b (w := w) (Nat.le_refl _) _ D1 _ (.deferred none) hDw1 e1 rfl rfl)
              have hBl2 := hBl1.trans (belowK_b (w := w) (Nat.le_refl _) _ D0 _ (.deferred none) hDw0 e01 rfl rfl)
              have cB2 := bB2.cell
              gi_wp2
              refine ⟨by simp, .inl ⟨_, _, rfl, run_takeDeferred e1, ?_⟩⟩
              refine ⟨by simp, .inl ⟨_, _, rfl, run_takeDeferred e01, ?_⟩⟩
              exact ⟨.bool true, by simp [results, Tryd.results3, go_sem, cB2], rfl, hBl2⟩
end Go.Proofs.YtdfhpblceoaofaaDoor
