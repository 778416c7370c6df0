/-
  The contracts of inDigits, widthOf and Width.
-/
import Derived.Test.YtdfhpblceoaofaaDoorN
import Derived.Shelf.RegionOpen
namespace Go.Proofs.YtdfhpblceoaofaaDoor
open Go.ChangeShapes Go.WideShapes Go.ChangeAt Go.RowKit Go.Shelf
set_option linter.unusedVariables false

/-- Is it shown by its byte's digits? -/
def inDig (r : Int) : Bool := decide (r = -1 ∨ r < 32 ∨ r = 127)

theorem inDigits_yes (r : Int) (w : World) (h : inDig r = true) :
    Calls Tryd.prog 53 #[.int .i32 r] w fun e w' => e = .returned (.bool true) ∧ w = w' := by
  have h' := of_decide_eq_true h
  clear h
  by_cases h0 : r = -1
  · subst h0
    go_enter Tryd.func53, Tryd.ntmps53
    go_wp2
    go_ret
    exact ⟨rfl, rfl⟩
  · have e0 : (r == -1) = false := by simpa using h0
    by_cases h1 : r < 32
    · clear h0 h'
      go_enter Tryd.func53, Tryd.ntmps53
      go_wp2
      go_ret
      exact ⟨rfl, rfl⟩
    · have h2 : r = 127 := by omega
      subst h2
      go_enter Tryd.func53, Tryd.ntmps53
      go_wp2
      go_ret
      exact ⟨rfl, rfl⟩
theorem inDigits_no (r : Int) (w : World) (h : inDig r = false) :
    Calls Tryd.prog 53 #[.int .i32 r] w fun e w' => e = .returned (.bool false) ∧ w = w' := by
  have h' := of_decide_eq_false h
  clear h
  have e0 : (r == -1) = false := by simp; omega
  have e1 : (r == 127) = false := by simp; omega
  have e2 : 32 ≤ r := by omega
  clear h'
  go_enter Tryd.func53, Tryd.ntmps53
  go_wp2
  go_ret
  exact ⟨by simp [e2], rfl⟩

def wd (r : Int) : Nat := if inDig r then 4 else if r = 92 then 2 else 1
theorem wd_le (r : Int) : 1 ≤ wd r ∧ wd r ≤ 4 := by unfold wd; split <;> (try split) <;> omega

theorem widthOf_any (r : Int) (w : World) :
    Calls Tryd.prog 38 #[.int .i32 r] w fun e w' => e = .returned (.int .i64 (wd r : Int)) ∧ w = w' := by
  cases hd : inDig r
  · by_cases h : r = 92
    · subst h
      have e : wd 92 = 2 := by decide
      rw [e]
      go_enter Tryd.func38, Tryd.ntmps38
      go_wp2_with (go_at_call 53; refine (inDigits_no _ _ hd).mono ?_; rintro e w' ⟨rfl, rfl⟩)
      go_ret
      exact ⟨rfl, rfl⟩
    · have e : wd r = 1 := by unfold wd; rw [hd]; simp [h]
      have e9 : (r == 92) = false := by simpa using h
      have H := Lib.hid hd
      clear hd h
      rw [e]; clear e
      go_enter Tryd.func38, Tryd.ntmps38
      go_wp2_with (go_at_call 53; refine (inDigits_no _ _ H.out).mono ?_; rintro e w' ⟨rfl, rfl⟩)
      go_ret
      exact ⟨rfl, rfl⟩
  · have e : wd r = 4 := by unfold wd; rw [hd]; rfl
    have H := Lib.hid hd
    clear hd
    rw [e]; clear e
    go_enter Tryd.func38, Tryd.ntmps38
    go_wp2_with (go_at_call 53; refine (inDigits_yes _ _ H.out).mono ?_; rintro e w' ⟨rfl, rfl⟩)
    go_ret
    exact ⟨rfl, rfl⟩

def wsum {s : ByteArray} (l : List (Sub s)) : Nat := (l.map fun x => wd (pc s x.1).r).sum
theorem wsum_snoc {s : ByteArray} (l : List (Sub s)) (x : Sub s) : wsum (l ++ [x]) = wsum l + wd (pc s x.1).r := by simp [wsum]
theorem wsum_le {s : ByteArray} : ∀ l : List (Sub s), wsum l ≤ 4 * l.length
  | [] => by simp [wsum]
  | x :: l => by
    have := wsum_le l
    have := (wd_le (pc s x.1).r).2
    simp only [wsum, List.map_cons, List.sum_cons, List.length_cons] at *
    omega

attribute [local go_sem] Oper.semAt_some
set_option maxRecDepth 100000 in
set_option maxHeartbeats 4000000 in
theorem width_in (n : Nat) (hn : 3 ≤ n) (s : ByteArray) (w : World) (h2 : 2 ≤ w.heap.size) (hT : Lib.Utf8Tabs 0 1 w) (hsz : s.size ≤ 1099511627776) :
    CallsIn Fence.wide n Tryd.prog 16 #[.string s] w fun e W' => e = .returned (.int .i64 (wsum (LS s 0) : Int)) ∧ Below w.heap.size w W' := by
  have h1 : 1 ≤ n := by omega
  have hGl := LS_len s
  refine callsIn_of_wp_marks Tryd.func16 rfl trivial ?_ rfl
  simp only [Tryd.ntmps16, List.size_toArray, List.length_cons, List.length_nil, Nat.reduceAdd, Nat.reduceSub, Array.replicate_succ, Array.replicate_zero, List.push_toArray, List.append_toArray, List.nil_append, List.cons_append]
  gi_wp2_with (refine ⟨trivial, ?_⟩; gi_at_call 10; refine (callsIn_wide.2 (runes_any _ _)).mono ?_; rintro e w' ⟨rfl, rfl⟩)
  have bO := Boxed.new w 3 (.int .i64 0)
  have bN := Boxed.new (w.alloc (.cells #[.int .i64 0] 3)) 9 (.string s)
  rw [World.size_alloc] at bN
  have hB0 : Below w.heap.size w ((w.alloc (.cells #[.int .i64 0] 3)).alloc (.cells #[.string s] 9)) := ((Below.refl _ w).alloc (Nat.le_refl _) _).alloc (by simp) _
  refine wpIn_rangeFunc_ownG rfl h1 (gf := 33) (lb := #[.pointer (some ⟨w.heap.size + 1, 0, none⟩)]) rfl trivial (enters_of Tryd.func33 (by kernel_rfl) rfl)
    (runes_sub (n - 1) (by omega) (w.heap.size + 1) w.heap.size s _ (by simp) (by simp; omega) h2 bN.cell (tabs_below hT hB0 h2) hsz) Kp_t (Kp_b (by simp; omega) (by simp)) (Below.refl _ _) (fun _ => rfl)
    (fun pre W => Boxed W w.heap.size 3 (.int .i64 (wsum pre : Int)) ∧ (Boxed W (w.heap.size + 1) 9 (.string s) ∧ Below w.heap.size w W))
    (fun _ _ _ => False)
    (OwnFrom.and (Own.from (boxed_own w.heap.size 3 (fun pre : List (Sub s) => Value.int .i64 (wsum pre : Int))) _) (OwnFrom.and (Own.from (boxed_own (w.heap.size + 1) 9 (fun _ => Value.string s)) _) (ownFrom_below (Nat.le_refl _) (by simp; omega))))
    (fun _ _ _ _ _ hs _ _ => hs)
    ⟨bO.alloc _, bN, hB0⟩
    (fun x => { tmps := #[.string s, undef, .int .i64 0, .pointer (some ⟨w.heap.size, 0, none⟩), undef, .int .i32 (pc s x.1).r, .string s, .func (.func 33) #[] #[.pointer (some ⟨w.heap.size + 1, 0, none⟩)], .int .i64 (x.1 : Int), .int .i32 (pc s x.1).r, undef, undef, undef, undef, undef], defers := [] }) ?assign ?body ?done ?stop
  case assign =>
    intro l x W K hK
    dsimp only [encS]
    gi_wp2
    exact hK
  case body =>
    rintro l pre x W ⟨bW, bS, hB⟩ hlt
    have c := bW.cell
    have f := bW.frozen
    have hw := wsum_le pre
    have hx := wd_le (pc s x.1).r
    have hlt' : pre.length < 1099511627776 := by omega
    have hd : 1 ≤ n - 1 - 1 := by omega
    have bW2 : Boxed (W.setCell ⟨w.heap.size, 0, none⟩ (.int .i64 ((wsum pre : Int) + (wd (pc s x.1).r : Int)))).drew w.heap.size 3 (.int .i64 ((wsum pre + wd (pc s x.1).r : Nat) : Int)) := by
      have := bW.set (.int .i64 ((wsum pre : Int) + (wd (pc s x.1).r : Int)))
      rw [Int.natCast_add]
      exact this
    have bS2 : Boxed (W.setCell ⟨w.heap.size, 0, none⟩ (.int .i64 ((wsum pre : Int) + (wd (pc s x.1).r : Int)))).drew (w.heap.size + 1) 9 (.string s) := bS.other (by omega) _
    have hk2 : KeepsOthers W (W.setCell ⟨w.heap.size, 0, none⟩ (.int .i64 ((wsum pre : Int) + (wd (pc s x.1).r : Int)))).drew := (KeepsOthers.setCell _ _ _).trans (KeepsOthers.drew _)
    have hk3 : Below w.heap.size W (W.setCell ⟨w.heap.size, 0, none⟩ (.int .i64 ((wsum pre : Int) + (wd (pc s x.1).r : Int)))).drew := ((Below.refl _ W).setCell (p := ⟨w.heap.size, 0, none⟩) (Nat.le_refl _) _).drew
    have hk4 : (W.setCell ⟨w.heap.size, 0, none⟩ (.int .i64 ((wsum pre : Int) + (wd (pc s x.1).r : Int)))).drew.heap[w.heap.size + 1]? = W.heap[w.heap.size + 1]? := Eq.trans bS2 (Eq.symm bS)
    have HWr := Lib.hid (show IntKind.i64.wrap ((wsum pre : Int) + (wd (pc s x.1).r : Int)) = (wsum pre : Int) + (wd (pc s x.1).r : Int) from IntWalk.i64_in _ (by omega))
    have X := Lib.hid (And.intro bW2 (And.intro bS2 (And.intro hk2 (And.intro hk3 hk4))))
    clear bW2 bS2 hk2 hk3 hk4
    have hmx : Tryd.prog.follows .mixedOrders = true := by kernel_rfl
    gi_wp2_with fail
    gi_region_with_o (refine ⟨trivial, ?_⟩; gi_at_call 38; refine (CallsIn.inRound l (callsIn_wide.2 (widthOf_any _ _))).mono ?_; rintro e w' ⟨rfl, rfl⟩)
    all_goals (try gi_wp2)
    all_goals
      rw [HWr.out]
      obtain ⟨bW2, bS2, hk2, hk3, hk4⟩ := X.out
      refine ⟨hk2.from _, ⟨⟨hk3, hk4⟩, hk2.walks⟩, ?_, bS2, hB.trans hk3⟩
      rw [wsum_snoc]
      exact bW2
  case done =>
    rintro D ys W hD rfl ⟨bW, bS, hB⟩ hK
    have c := bW.cell
    gi_wp2
    refine ⟨by simp, .inl ⟨_, _, rfl, run_takeDeferred hK, ?_⟩⟩
    exact ⟨_, results_tmp rfl _ _ _, rfl, hB.trans (belowK_b (w := w) (Nat.le_refl _) W D _ _ (by simp at hD; omega) hK rfl rfl)⟩
  case stop =>
    rintro D c pre W _ _ h _
    exact h.elim
end Go.Proofs.YtdfhpblceoaofaaDoor
