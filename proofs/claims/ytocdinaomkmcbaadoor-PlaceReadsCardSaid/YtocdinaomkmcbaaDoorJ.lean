/-
  Clone, Trim, and the document's own Trim.
-/
import Derived.Test.YtocdinaomkmcbaaDoorI
import Derived.Lib.SliceRun
namespace Go.Proofs.YtocdinaomkmcbaaDoor
open Go.ChangeShapes Go.WideShapes Go.ChangeAt Go.RowKit Go.Shelf
set_option linter.unusedVariables false

theorem own_base {w : World} {B B' e size n : Nat} {v : Value} {xs : List Value} (h : w.ownsRow B e size v n xs) (hB : B' ≤ B) : w.ownsRow B' e size v n xs := by
  refine ⟨h.1, ?_⟩
  rcases h.2 with h | ⟨g, cap, cur, h1, h2, h3⟩
  · exact .inl h
  · exact .inr ⟨g, cap, cur, h1, Nat.le_trans hB h2, h3⟩
theorem flat_mem {l : List Pl} : ∀ u ∈ flat l, u.oneCell' = true := by
  intro u hu
  unfold flat at hu
  obtain ⟨p, _, hp⟩ := List.mem_flatMap.1 hu
  simp [cel] at hp
  rcases hp with rfl | rfl <;> rfl
theorem flat_at {w : World} {g o : Nat} {l : List Pl} (h : At w (some ⟨g, o, none⟩) l) : ∀ (j : Nat) (u : Value), (flat l)[j]? = some u → w.cell? ((⟨g, o, none⟩ : Addr).add j) = some u := by
  intro j u hu
  have hl : j < l.length * 2 := by rw [← flat_length]; exact (List.getElem?_eq_some_iff.1 hu).1
  have hp : l[j / 2]? = some (l[j / 2]'(by omega)) := List.getElem?_eq_getElem (by omega)
  obtain ⟨f0, f1⟩ := flat_get l (j / 2) _ hp
  obtain ⟨g', o', e, c0, c1⟩ := h (j / 2) _ hp
  injection e with e
  injection e with e1 e2
  subst e1; subst e2
  have ha : (⟨g, o, none⟩ : Addr).add j = ⟨g, o + j, none⟩ := by
    unfold Addr.add; split
    · rename_i h0; subst h0; rfl
    · rfl
  rw [ha]
  rcases Nat.mod_two_eq_zero_or_one j with hj | hj
  · rw [show j / 2 * 2 = j by omega] at f0 c0
    rw [hu] at f0
    injection f0 with f0
    rw [f0]; exact c0
  · rw [show j / 2 * 2 + 1 = j by omega] at f1
    rw [show o + j / 2 * 2 + 1 = o + j by omega] at c1
    rw [hu] at f1
    injection f1 with f1
    rw [f1]; exact c1

set_option maxRecDepth 100000 in
set_option maxHeartbeats 1000000 in
theorem clone_any (g o cap : Nat) (l : List Pl) (w : World) (hA : At w (some ⟨g, o, none⟩) l) (hn : l.length ≤ 5864062014634) :
    Calls Tryd.prog 58 #[.slice (some ⟨g, o, none⟩) l.length cap] w fun e w' => ∃ v, e = .returned v ∧ w'.ownsRow w.heap.size 48 2 v l.length (flat l) ∧ Below w.heap.size w w' := by
  obtain ⟨i0, hi0, hz0, hz1, hz2⟩ := info_parts info48
  have H1 := Lib.hid (flat_at (hA.alloc (.cells #[] 48)))
  have H2 := Lib.hid (flat_length l)
  have H3 := Lib.hid (@flat_mem l)
  generalize flat l = xs at *
  generalize l.length = n at *
  clear hA
  have ho : (w.alloc (.cells #[] 48)).ownsRow w.heap.size 48 2 (.slice (some ⟨w.heap.size, 0, none⟩) 0 0) 0 [] := World.ownsRow_made w #[] 0 (Nat.le_refl _) (Nat.zero_le _) rfl
  have hnil : ∀ w : World, (binOp .eql 23 (.slice (some ⟨g, o, none⟩) n cap) (.slice none 0 0)).run Tryd.prog w = .ok (.bool false) w := fun w => Lib.run_eql_slice_nil w 23 48 _ n cap 0 0 Tryd.underlying23
  go_enter Tryd.func58, Tryd.ntmps58
  go_wp2_with (at_builtin; refine wpList_append_own _ rfl _ _ 23 rfl w.heap.size 48 i0 _ 2 24 Tryd.underlying23 hi0 hz0 hz1 hz2 rfl (by decide) (.slice (some ⟨w.heap.size, 0, none⟩) 0 0) 0 [] rfl ho ⟨g, o, none⟩ n cap xs rfl H2.out H1.out H3.out (by unfold maxLen; omega) (by omega) (by simp) ?_; intro v' w1 hown hgrow _; rw [Nat.zero_add, List.nil_append] at hown)
  go_ret
  exact ⟨v', rfl, hown, Below.grown ((Below.refl _ w).alloc (Nat.le_refl _) _) hgrow (by simp) (fun j hj => by simp [Value.ownBlock] at hj; omega)⟩

/-- How many places are left where those at the end that are not wanted are cut off. -/
def trmN (b : Nat → Bool) : Nat → Nat
  | 0 => 0
  | n + 1 => if b n then trmN b n else n + 1
theorem trmN_le (b : Nat → Bool) : ∀ n, trmN b n ≤ n
  | 0 => Nat.le_refl _
  | n + 1 => by
    unfold trmN
    split
    · exact Nat.le_succ_of_le (trmN_le b n)
    · exact Nat.le_refl _
theorem trmN_on {b : Nat → Bool} {n : Nat} (h : b n = true) : trmN b (n + 1) = trmN b n := by rw [trmN, if_pos h]
theorem trmN_off {b : Nat → Bool} {n : Nat} (h : b n = false) : trmN b (n + 1) = n + 1 := by rw [trmN, h]; simp
def off (l : List Pl) (ps : List ByteArray) (i : Nat) : Bool := match l[i]? with
  | some p => bgn p.1 ps
  | none => false
theorem off_at {l : List Pl} {ps : List ByteArray} {i : Nat} {p : Pl} (h : l[i]? = some p) : off l ps i = bgn p.1 ps := by unfold off; rw [h]
/-- What is left of a stack. -/
def trm (l : List Pl) (ps : List ByteArray) : List Pl := l.take (trmN (off l ps) l.length)

theorem trim_bad (A B : Option Addr) (cap cb : Nat) (l : List Pl) (ps : List ByteArray) (w : World) (hA : At w A l) (hn : l.length ≤ 5864062014634) (hc : chk l ≠ 0) :
    Calls Tryd.prog 24 #[.slice A l.length cap, .slice B ps.length cb] w fun e w' => e = .returned (.tuple #[.slice none 0 0, .int .i64 (chk l)]) ∧ Below w.heap.size w w' := by
  have H1 := Lib.hid (check_any A cap l w hA hn)
  generalize hcl : chk l = c at *
  have hne : (c != 0) = true := by simpa using hc
  clear hc hcl hA
  go_enter Tryd.func24, Tryd.ntmps24
  go_wp2_with fail
  refine H1.out.mono ?_
  rintro e W ⟨rfl, hB⟩
  go_wp2
  go_ret2
  exact ⟨rfl, hB⟩

set_option maxRecDepth 100000 in
set_option maxHeartbeats 1000000 in
theorem trim_good (g o cap cb : Nat) (B : Option Addr) (l : List Pl) (ps : List ByteArray) (w : World) (hA : At w (some ⟨g, o, none⟩) l) (hB : AtS w B ps) (hn : l.length ≤ 5864062014634) (hm : ps.length ≤ 8796093022207) (hc : chk l = 0) (hcap : l.length ≤ cap) :
    Calls Tryd.prog 24 #[.slice (some ⟨g, o, none⟩) l.length cap, .slice B ps.length cb] w fun e w' => ∃ v, e = .returned (.tuple #[v, .int .i64 0]) ∧ w'.ownsRow w.heap.size 48 2 v (trm l ps).length (flat (trm l ps)) ∧ Below w.heap.size w w' := by
  have h1 := check_any (some ⟨g, o, none⟩) cap l w hA hn
  rw [hc] at h1
  have H1 := Lib.hid h1
  have H2 : Hid (∀ (k : Nat) (W : World), At W (some ⟨g, o, none⟩) l → trmN (off l ps) l.length = k → Calls Tryd.prog 58 #[.slice (some ⟨g, o, none⟩) k cap] W fun e w' => ∃ v, e = .returned v ∧ w'.ownsRow W.heap.size 48 2 v (trm l ps).length (flat (trm l ps)) ∧ Below W.heap.size W w') := Lib.hid (fun k W h hk => by
    have hl : (trm l ps).length = k := by unfold trm; rw [List.length_take, hk]; have := trmN_le (off l ps) l.length; omega
    have := clone_any g o cap (trm l ps) W (by unfold trm; exact h.take _) (by have := trmN_le (off l ps) l.length; omega)
    rw [hl] at this ⊢
    exact this)
  generalize trm l ps = r at *
  generalize hlen : l.length = n at *
  have HN := Lib.hid hlen
  clear hlen h1 hc
  go_enter Tryd.func24, Tryd.ntmps24
  go_wp2_with fail
  refine H1.out.mono ?_
  rintro e W ⟨rfl, hb⟩
  have hA1 := hA.below hb (Nat.le_refl _)
  have hB1 := hB.below hb (Nat.le_refl _)
  clear hA hB H1
  go_wp2
  go_loop [7] (fun t => ∃ k : Nat, t = .int .i64 k ∧ k ≤ n ∧ Hid (trmN (off l ps) n = trmN (off l ps) k)) (fun t => (intOf t).toNat)
  case atStart => exact ⟨n, rfl, Nat.le_refl _, Lib.hid rfl⟩
  case round =>
    obtain ⟨k, rfl, hk, HK⟩ := hrel
    cases k with
    | zero =>
      have HC := Lib.hid (H2.out 0 W hA1 HK.out)
      have hcap : (0 : Int) ≤ (cap : Int) := Int.natCast_nonneg _
      go_wp2_with fail
      refine HC.out.mono ?_
      rintro e W2 ⟨v, rfl, hown, hb2⟩
      have hown' := own_base hown hb.size
      go_wp2
      go_ret2
      exact ⟨v, rfl, hown', hb.trans (hb2.mono hb.size)⟩
    | succ k =>
      have hp : ∃ p, l[k]? = some p := ⟨_, List.getElem?_eq_getElem (by rw [HN.out]; omega)⟩
      obtain ⟨p, hp⟩ := hp
      obtain ⟨g', o', e', c0, c1⟩ := hA1 k p hp
      injection e' with e'
      injection e' with e1 e2
      subst e1; subst e2
      have hk0 : (0 : Int) ≤ (k : Int) := Int.natCast_nonneg _
      have hk1 : (k : Int) < (n : Int) := by omega
      have hc := begins_any p.1 B cb ps W hB1 hm
      cases hbg : bgn p.1 ps
      · have HC := Lib.hid (H2.out (k + 1) W hA1 (HK.out.trans (trmN_off ((off_at hp).trans hbg))))
        rw [hbg] at hc
        have H := Lib.hid hc
        clear hbg hc hp
        go_wp2_with fail
        refine H.out.mono ?_
        rintro e w1 ⟨rfl, rfl⟩
        go_wp2_with fail
        refine HC.out.mono ?_
        rintro e W2 ⟨v, rfl, hown, hb2⟩
        have hown' := own_base hown hb.size
        go_wp2
        go_ret2
        exact ⟨v, rfl, hown', hb.trans (hb2.mono hb.size)⟩
      · have HC := Lib.hid (HK.out.trans (trmN_on ((off_at hp).trans hbg)))
        rw [hbg] at hc
        have H := Lib.hid hc
        clear hbg hc hp
        go_wp2_with fail
        refine H.out.mono ?_
        rintro e w1 ⟨rfl, rfl⟩
        go_wp2
        go_round
        case rel => exact ⟨k, by go_num, by omega, HC⟩
        case measure => simp [intOf]
theorem rtrim_bad (A B : Option Addr) (cap cb : Nat) (l : List Pl) (ps : List ByteArray) (w : World) (hA : At w A l) (hn : l.length ≤ 5864062014634) (hc : chk l ≠ 0) :
    Calls Tryd.prog 25 #[.slice A l.length cap, .slice B ps.length cb] w fun e w' => e = .returned (.tuple #[.slice none 0 0, .int .i64 (chk l)]) ∧ Below w.heap.size w w' := by
  have H1 := Lib.hid (rcheck_any A cap l w hA hn)
  generalize hcl : chk l = c at *
  have hne : (c != 0) = true := by simpa using hc
  clear hc hcl hA
  go_enter Tryd.func25, Tryd.ntmps25
  go_wp2_with fail
  refine H1.out.mono ?_
  rintro e W ⟨rfl, hB⟩
  go_wp2
  go_ret2
  exact ⟨rfl, hB⟩

set_option maxRecDepth 100000 in
set_option maxHeartbeats 1000000 in
theorem rtrim_some (g o cap cb : Nat) (B : Option Addr) (l : List Pl) (ps : List ByteArray) (w : World) (hA : At w (some ⟨g, o, none⟩) l) (hB : AtS w B ps) (hn : l.length ≤ 5864062014634) (hm : ps.length ≤ 8796093022207) (hc : chk l = 0) (hcap : l.length ≤ cap) :
    Calls Tryd.prog 25 #[.slice (some ⟨g, o, none⟩) l.length cap, .slice B ps.length cb] w fun e w' => ∃ v, e = .returned (.tuple #[v, .int .i64 0]) ∧ w'.ownsRow w.heap.size 102 2 v (trm l ps).length (flat (trm l ps)) ∧ Below w.heap.size w w' := by
  obtain ⟨i0, hi0, hz0, hz1, hz2⟩ := info_parts info102
  have h1 := rcheck_any (some ⟨g, o, none⟩) cap l w hA hn
  rw [hc] at h1
  have H1 := Lib.hid h1
  have H2 : Hid (∀ (k : Nat) (W : World), At W (some ⟨g, o, none⟩) l → trmN (off l ps) l.length = k → (flat (trm l ps)).length = k * 2 ∧ (∀ (j : Nat) (u : Value), (flat (trm l ps))[j]? = some u → (W.alloc (.cells #[] 102)).cell? ((⟨g, o, none⟩ : Addr).add j) = some u) ∧ (∀ u ∈ flat (trm l ps), u.oneCell' = true) ∧ (trm l ps).length = k) := Lib.hid (fun k W h hk => by
    have hl : (trm l ps).length = k := by unfold trm; rw [List.length_take, hk]; have := trmN_le (off l ps) l.length; omega
    exact ⟨by rw [flat_length, hl], flat_at ((show At W (some ⟨g, o, none⟩) (trm l ps) by unfold trm; exact h.take _).alloc _), flat_mem, hl⟩)
  generalize trm l ps = r at *
  generalize flat r = xs at *
  generalize hlen : l.length = n at *
  have HN := Lib.hid hlen
  clear hlen h1 hc
  go_enter Tryd.func25, Tryd.ntmps25
  go_wp2_with fail
  refine H1.out.mono ?_
  rintro e W ⟨rfl, hb⟩
  have hA1 := hA.below hb (Nat.le_refl _)
  have hB1 := hB.below hb (Nat.le_refl _)
  have ho : (W.alloc (.cells #[] 102)).ownsRow w.heap.size 102 2 (.slice (some ⟨W.heap.size, 0, none⟩) 0 0) 0 [] := World.ownsRow_made W #[] 0 hb.size (Nat.zero_le _) rfl
  have hbz := hb.size
  clear hA hB H1
  go_wp2
  go_loop [7] (fun t => ∃ k : Nat, t = .int .i64 k ∧ k ≤ n ∧ Hid (trmN (off l ps) n = trmN (off l ps) k)) (fun t => (intOf t).toNat)
  case atStart => exact ⟨n, rfl, Nat.le_refl _, Lib.hid rfl⟩
  case round =>
    obtain ⟨k, rfl, hk, HK⟩ := hrel
    cases k with
    | zero =>
      have HC := Lib.hid (H2.out 0 W hA1 HK.out)
      have hcap0 : (0 : Int) ≤ (cap : Int) := Int.natCast_nonneg _
      go_wp2_with (at_builtin; refine wpList_append_own _ rfl _ _ 29 rfl w.heap.size 102 i0 _ 2 24 Tryd.underlying29 hi0 hz0 hz1 hz2 rfl (by decide) (.slice (some ⟨W.heap.size, 0, none⟩) 0 0) 0 [] rfl ho ⟨g, o, none⟩ 0 cap xs rfl HC.out.1 HC.out.2.1 HC.out.2.2.1 (by unfold maxLen; omega) (by omega) (by simp; omega) ?_; intro v' w2 hown hgrow _; rw [Nat.zero_add, List.nil_append] at hown)
      go_ret2
      exact ⟨v', rfl, by rw [HC.out.2.2.2]; exact hown, Below.grown (hb.alloc hb.size _) hgrow (by simp; omega) (fun j hj => by simp [Value.ownBlock] at hj; have := hb.size; omega)⟩
    | succ k =>
      have hp : ∃ p, l[k]? = some p := ⟨_, List.getElem?_eq_getElem (by rw [HN.out]; omega)⟩
      obtain ⟨p, hp⟩ := hp
      obtain ⟨g', o', e', c0, c1⟩ := hA1 k p hp
      injection e' with e'
      injection e' with e1 e2
      subst e1; subst e2
      have hk0 : (0 : Int) ≤ (k : Int) := Int.natCast_nonneg _
      have hk1 : (k : Int) < (n : Int) := by omega
      have hc := rbegins_any p.1 B cb ps W hB1 hm
      cases hbg : bgn p.1 ps
      · have HC := Lib.hid (H2.out (k + 1) W hA1 (HK.out.trans (trmN_off ((off_at hp).trans hbg))))
        rw [hbg] at hc
        have H := Lib.hid hc
        clear hbg hc hp
        go_wp2_with fail
        refine H.out.mono ?_
        rintro e w1 ⟨rfl, rfl⟩
        go_wp2_with (at_builtin; refine wpList_append_own _ rfl _ _ 29 rfl w.heap.size 102 i0 _ 2 24 Tryd.underlying29 hi0 hz0 hz1 hz2 rfl (by decide) (.slice (some ⟨W.heap.size, 0, none⟩) 0 0) 0 [] rfl ho ⟨g, o, none⟩ (k + 1) cap xs rfl HC.out.1 HC.out.2.1 HC.out.2.2.1 (by unfold maxLen; omega) (by omega) (by simp; omega) ?_; intro v' w2 hown hgrow _; rw [Nat.zero_add, List.nil_append] at hown)
        go_ret2
        exact ⟨v', rfl, by rw [HC.out.2.2.2]; exact hown, Below.grown (hb.alloc hb.size _) hgrow (by simp; omega) (fun j hj => by simp [Value.ownBlock] at hj; have := hb.size; omega)⟩
      · have HC := Lib.hid (HK.out.trans (trmN_on ((off_at hp).trans hbg)))
        rw [hbg] at hc
        have H := Lib.hid hc
        clear hbg hc hp
        go_wp2_with fail
        refine H.out.mono ?_
        rintro e w1 ⟨rfl, rfl⟩
        go_wp2
        go_round
        case rel => exact ⟨k, by go_num, by omega, HC⟩
        case measure => simp [intOf]

theorem rtrim_nil (cb : Nat) (B : Option Addr) (ps : List ByteArray) (w : World) :
    Calls Tryd.prog 25 #[.slice none 0 0, .slice B ps.length cb] w fun e w' => ∃ v, e = .returned (.tuple #[v, .int .i64 0]) ∧ w'.ownsRow w.heap.size 102 2 v 0 (flat []) ∧ Below w.heap.size w w' := by
  obtain ⟨i0, hi0, hz0, hz1, hz2⟩ := info_parts info102
  have h1 := rcheck_any none 0 [] w (fun i p h => by simp at h) (by simp)
  have H1 : Hid (Calls Tryd.prog 15 #[.slice none 0 0] w fun e w' => e = .returned (.int .i64 0) ∧ Below w.heap.size w w') := Lib.hid h1
  clear h1
  go_enter Tryd.func25, Tryd.ntmps25
  go_wp2_with fail
  refine H1.out.mono ?_
  rintro e W ⟨rfl, hb⟩
  have ho : (W.alloc (.cells #[] 102)).ownsRow w.heap.size 102 2 (.slice (some ⟨W.heap.size, 0, none⟩) 0 0) 0 [] := World.ownsRow_made W #[] 0 hb.size (Nat.zero_le _) rfl
  go_wp2
  refine wp_loop_rounds 1 ?_
  simp only [rounds_succ]
  go_wp2_with (at_builtin; refine wpList_append_own_none _ rfl _ _ 29 rfl w.heap.size 102 i0 2 Tryd.underlying29 hi0 (.slice (some ⟨W.heap.size, 0, none⟩) 0 0) 0 [] rfl ho rfl ?_)
  go_ret2
  exact ⟨_, rfl, ho, hb.alloc hb.size _⟩
end Go.Proofs.YtocdinaomkmcbaaDoor
