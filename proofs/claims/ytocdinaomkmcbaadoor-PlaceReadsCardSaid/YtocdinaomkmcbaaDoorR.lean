/-
  slices.Reverse over a row of places of the call's own.
-/
import Derived.Test.YtocdinaomkmcbaaDoorK
import Derived.RegionTactic
import Derived.BigRegion
namespace Go.Proofs.YtocdinaomkmcbaaDoor
open Go.ChangeShapes Go.WideShapes Go.ChangeAt Go.RowKit Go.Shelf
set_option linter.unusedVariables false

theorem flat_set : ∀ (l : List Pl) (i : Nat) (p : Pl), i < l.length → ((flat l).set (i * 2) (.string p.1)).set (i * 2 + 1) (.int .i64 p.2) = flat (l.set i p) := by
  intro l
  induction l with
  | nil => intro i p h; simp at h
  | cons q l ih =>
    intro i p h
    cases i with
    | zero => simp [flat, cel]
    | succ i =>
      have := ih i p (by simpa using h)
      rw [show (i + 1) * 2 = i * 2 + 1 + 1 by omega]
      show _ :: _ :: _ = cel q ++ flat (l.set i p)
      rw [← this]
      rfl
theorem own_put {w : World} {B e g n cap : Nat} {l : List Pl} (h : w.ownsRow B e 2 (.slice (some ⟨g, 0, none⟩) n cap) n (flat l)) (hn : l.length = n) (i : Nat) (hi : i < n) (p : Pl) :
    ((w.setCell ⟨g, i * 2, none⟩ (.string p.1)).setCell ⟨g, i * 2 + 1, none⟩ (.int .i64 p.2)).ownsRow B e 2 (.slice (some ⟨g, 0, none⟩) n cap) n (flat (l.set i p)) ∧ w.grownBy ((w.setCell ⟨g, i * 2, none⟩ (.string p.1)).setCell ⟨g, i * 2 + 1, none⟩ (.int .i64 p.2)) (some g) := by
  have := own_any_store h (i * 2) (.string p.1) (.int .i64 p.2)
  rwa [flat_set l i p (by omega)] at this

theorem grown_drew {w w' : World} {row : Option Nat} (h : w.grownBy w' row) : w.grownBy w'.drew row := ⟨h.os, h.tape, h.output, h.size, h.block⟩
/-- The places when k from either end are exchanged. -/
def rvK (l : List Pl) (k : Nat) : List Pl := (List.range l.length).map fun i => if i < k ∨ l.length ≤ i + k then l.getD (l.length - 1 - i) (⟨#[]⟩, 0) else l.getD i (⟨#[]⟩, 0)
theorem rvK_len (l : List Pl) (k : Nat) : (rvK l k).length = l.length := by simp [rvK]
theorem rvK_get (l : List Pl) (k i : Nat) (h : i < l.length) : (rvK l k)[i]? = some (if i < k ∨ l.length ≤ i + k then l.getD (l.length - 1 - i) (⟨#[]⟩, 0) else l.getD i (⟨#[]⟩, 0)) := by
  unfold rvK; rw [List.getElem?_map, List.getElem?_range h]; rfl
theorem rvK_zero (l : List Pl) : rvK l 0 = l := by
  apply List.ext_getElem?
  intro i
  rcases Nat.lt_or_ge i l.length with h | h
  · rw [rvK_get l 0 i h, if_neg (by omega), List.getD_eq_getElem?_getD, List.getElem?_eq_getElem h]; rfl
  · rw [List.getElem?_eq_none (by rw [rvK_len]; exact h), List.getElem?_eq_none h]
theorem rvK_end (l : List Pl) (k : Nat) (h : l.length ≤ 2 * k + 1) : rvK l k = l.reverse := by
  apply List.ext_getElem?
  intro i
  rcases Nat.lt_or_ge i l.length with hi | hi
  · rw [rvK_get l k i hi, List.getElem?_reverse hi]
    have e : l.getD (l.length - 1 - i) (⟨#[]⟩, 0) = l[l.length - 1 - i]'(by omega) := by rw [List.getD_eq_getElem?_getD, List.getElem?_eq_getElem (by omega)]; rfl
    rw [List.getElem?_eq_getElem (by omega)]
    by_cases hc : i < k ∨ l.length ≤ i + k
    · rw [if_pos hc, e]
    · rw [if_neg hc]
      have : i = l.length - 1 - i := by omega
      congr 1
      rw [← e, ← this]
  · rw [List.getElem?_eq_none (by rw [rvK_len]; exact hi), List.getElem?_eq_none (by simpa using hi)]
theorem rvK_step (l : List Pl) (k : Nat) (h : 2 * k + 1 < l.length) (p q : Pl) (hp : (rvK l k)[k]? = some p) (hq : (rvK l k)[l.length - 1 - k]? = some q) : ((rvK l k).set k q).set (l.length - 1 - k) p = rvK l (k + 1) := by
  rw [rvK_get l k k (by omega), if_neg (by omega)] at hp
  rw [rvK_get l k _ (by omega), if_neg (by omega)] at hq
  injection hp with hp
  injection hq with hq
  apply List.ext_getElem?
  intro i
  rcases Nat.lt_or_ge i l.length with hi | hi
  · rw [rvK_get l (k + 1) i hi, List.getElem?_set, List.getElem?_set]
    simp only [List.length_set, rvK_len]
    by_cases h1 : l.length - 1 - k = i
    · rw [if_pos h1, if_pos (by omega), if_pos (by omega), ← hp, show l.length - 1 - i = k by omega]
    · rw [if_neg h1]
      by_cases h2 : k = i
      · rw [if_pos h2, if_pos (by omega), if_pos (by omega), ← hq, h2]
      · rw [if_neg h2, rvK_get l k i hi]
        by_cases h3 : i < k ∨ l.length ≤ i + k
        · rw [if_pos h3, if_pos (by omega)]
        · rw [if_neg h3, if_neg (by omega)]
  · rw [List.getElem?_eq_none (by simp [rvK_len]; exact hi), List.getElem?_eq_none (by rw [rvK_len]; exact hi)]

set_option maxRecDepth 100000 in
set_option maxHeartbeats 4000000 in
theorem reverse_own (g cap B : Nat) (l : List Pl) (w : World) (hown : w.ownsRow B 48 2 (.slice (some ⟨g, 0, none⟩) l.length cap) l.length (flat l)) (hn : l.length ≤ 64) :
    Calls Tryd.prog 54 #[.slice (some ⟨g, 0, none⟩) l.length cap] w fun e w' => (∃ u, e = .returned u) ∧ w'.ownsRow B 48 2 (.slice (some ⟨g, 0, none⟩) l.length cap) l.length (flat l.reverse) ∧ w.grownBy w' (some g) := by
  have HS := Lib.hid (rvK_step l)
  have HE := Lib.hid (rvK_end l)
  have HG := Lib.hid (rvK_get l)
  have HL := Lib.hid (rvK_len l)
  have h0 := hown
  rw [← rvK_zero l] at h0
  rw [rvK_len] at h0
  clear hown
  generalize rvK l = rv at *
  generalize l.reverse = lr at *
  generalize hlen : l.length = n at *
  clear hlen
  go_enter Tryd.func54, Tryd.ntmps54
  go_wp2
  go_loopw [2, 3] (fun t u wr => ∃ k : Nat, t = .int .i64 k ∧ u = .int .i64 ((n : Int) - 1 - k) ∧ 2 * k ≤ n + 1 ∧ wr.ownsRow B 48 2 (.slice (some ⟨g, 0, none⟩) n cap) n (flat (rv k)) ∧ w.grownBy wr (some g)) (fun t _ _ => n - (intOf t).toNat)
  case atStart => exact ⟨0, rfl, by simp, by omega, h0, World.grownBy.refl _ _⟩
  case round =>
    obtain ⟨k, rfl, rfl, hk, ho, hg⟩ := hrel
    by_cases hlt : 2 * k + 1 < n
    · obtain ⟨p, hp⟩ : ∃ p, (rv k)[k]? = some p := ⟨_, HG.out k k (by omega)⟩
      obtain ⟨q, hq⟩ : ∃ q, (rv k)[n - 1 - k]? = some q := ⟨_, HG.out k (n - 1 - k) (by omega)⟩
      obtain ⟨j, hj⟩ : ∃ j, n - 1 - k = j := ⟨_, rfl⟩
      have HX := Lib.hid (HS.out k hlt p q hp hq)
      have HLk := Lib.hid (HL.out k)
      rw [hj] at hq HX
      have hje : (n : Int) - 1 - (k : Int) = (j : Int) := by omega
      rw [hje]
      have hkj : k < j := by omega
      have hjn : j < n := by omega
      have hjk1 : j + k + 1 ≤ n := by omega
      have hjk2 : n ≤ j + k + 1 := by omega
      clear hje hj hlt hk
      obtain ⟨f0, f1⟩ := flat_get _ _ _ hp
      obtain ⟨f2, f3⟩ := flat_get _ _ _ hq
      have c0 := (ho.cellAt (k * 2) (by omega)).trans f0
      have c1 := (ho.cellAt (k * 2 + 1) (by omega)).trans f1
      have c2 := (ho.cellAt (j * 2) (by omega)).trans f2
      have c3 := (ho.cellAt (j * 2 + 1) (by omega)).trans f3
      have z0 := ho.frozenAt (k * 2)
      have z1 := ho.frozenAt (k * 2 + 1)
      have z2 := ho.frozenAt (j * 2)
      have z3 := ho.frozenAt (j * 2 + 1)
      have k0 : (0 : Int) ≤ (k : Int) := Int.natCast_nonneg _
      have k1 : (k : Int) < (n : Int) := by omega
      have j0 : (0 : Int) ≤ (j : Int) := Int.natCast_nonneg _
      have j1 : (j : Int) < (n : Int) := by omega
      have kj : (k : Int) < (j : Int) := by omega
      clear f0 f1 f2 f3 hp hq
      obtain ⟨o1, g1⟩ := own_put ho HLk.out k (by omega) q
      obtain ⟨o2, g2⟩ := own_put o1 (by rw [List.length_set]; exact HLk.out) j (by omega) p
      rw [HX.out] at o2
      have G2 := grown_trans hg (grown_trans g1 g2 (fun _ e => .inl e)) (fun _ e => .inl e)
      have O2 := Lib.hid o2
      have GG := Lib.hid G2
      clear o1 g1 o2 g2 G2 ho hg
      go_wp2
      go_region
      go_wp2
      go_roundw
      case rel => exact ⟨k + 1, by go_num, by rw [show ((j : Int) - 1) = (n : Int) - 1 - ((k + 1 : Nat) : Int) by omega], by omega, O2.out, grown_drew GG.out⟩
      case measure => simp [intOf]; omega
    · have HR := Lib.hid (HE.out k (by omega))
      have hge : (n : Int) - 1 - (k : Int) ≤ (k : Int) := by omega
      go_wp2
      go_end0
      exact ⟨⟨_, rfl⟩, by rw [← HR.out]; exact ho, hg⟩
theorem reverse_any (v : Value) (B : Nat) (l : List Pl) (w : World) (hown : w.ownsRow B 48 2 v l.length (flat l)) (hn : l.length ≤ 64) :
    Calls Tryd.prog 54 #[v] w fun e w' => (∃ u, e = .returned u) ∧ w'.ownsRow B 48 2 v l.length (flat l.reverse) ∧ w.grownBy w' v.ownBlock := by
  rcases hown.2 with ⟨rfl, h0⟩ | ⟨g, cap, cur, rfl, _⟩
  · obtain rfl : l = [] := List.eq_nil_of_length_eq_zero h0
    go_enter Tryd.func54, Tryd.ntmps54
    go_wp2
    refine wp_loop_rounds 1 ?_
    simp only [rounds_succ]
    go_wp2
    go_end0
    exact ⟨⟨_, rfl⟩, World.ownsRow_nil _ _ _ _, World.grownBy.refl _ _⟩
  · exact reverse_own g cap B l w hown hn
end Go.Proofs.YtocdinaomkmcbaaDoor
