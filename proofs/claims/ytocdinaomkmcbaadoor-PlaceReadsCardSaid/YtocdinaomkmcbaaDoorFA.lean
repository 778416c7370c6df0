/-
  How many times a block stands at the front: the program's timesOf.
-/
import Derived.Test.YtocdinaomkmcbaaDoorN
import Derived.WalkMore
import Derived.Deep.LoopGhost
namespace Go.Proofs.YtocdinaomkmcbaaDoor
open Go.ChangeShapes Go.WideShapes Go.ChangeAt Go.RowKit
set_option linter.unusedVariables false

/-- The block number k stands there, alike the first one. -/
def Blk (l : List Pl) (p k : Nat) : Prop := (k + 1) * p ≤ l.length ∧ ∀ i, i < p → l[k * p + i]? = l[i]?
instance (l : List Pl) (p k : Nat) : Decidable (Blk l p k) := by unfold Blk; exact inferInstance
def tmF (l : List Pl) (p : Nat) : Nat → Nat → Nat
  | 0, k => k
  | f + 1, k => if Blk l p k then tmF l p f (k + 1) else k
/-- How many times the first p places stand at the front. -/
def tms (l : List Pl) (p : Nat) : Nat := tmF l p l.length 0
theorem tmF_stop {l : List Pl} {p k : Nat} (hs : ¬ Blk l p k) : ∀ (f j : Nat), j ≤ k → k - j ≤ f → (∀ i, j ≤ i → i < k → Blk l p i) → tmF l p f j = k := by
  intro f
  induction f with
  | zero => intro j h1 h2 _; rw [tmF]; omega
  | succ f ih =>
    intro j h1 h2 h3
    rw [tmF]
    by_cases hj : j = k
    · subst hj; rw [if_neg hs]
    · rw [if_pos (h3 j (Nat.le_refl _) (by omega))]
      exact ih (j + 1) (by omega) (by omega) (fun i a b => h3 i (by omega) b)
theorem tms_stop {l : List Pl} {p k : Nat} (hp : 1 ≤ p) (h : ∀ i, i < k → Blk l p i) (hs : ¬ Blk l p k) (hk : k * p ≤ l.length) : tms l p = k := by
  have : k ≤ k * p := Nat.le_mul_of_pos_right k hp
  exact tmF_stop hs _ 0 (Nat.zero_le _) (by omega) (fun i _ b => h i b)

theorem blk_zero {l : List Pl} {p : Nat} (h : p ≤ l.length) : ∀ i, i < 1 → Blk l p i := fun i hi => by
  obtain rfl : i = 0 := by omega
  exact ⟨by omega, fun j hj => by simp⟩

set_option maxRecDepth 100000 in
set_option maxHeartbeats 4000000 in
theorem timesOf_any (A : Option Addr) (cap p : Nat) (l : List Pl) (w : World) (hA : At w A l) (hn : l.length ≤ 5864062014634) (hp : 1 ≤ p) (hp8 : p ≤ 8) (hpl : p ≤ l.length) :
    Calls Tryd.prog 85 #[.slice A l.length cap, .int .i64 p] w fun e w' => e = .returned (.int .i64 (tms l p)) ∧ ∃ m, w' = w.drewN m := by
  have hp0 : (0 : Int) ≤ (p : Int) := Int.natCast_nonneg _
  go_enter Tryd.func85, Tryd.ntmps85
  go_wp2_with fail
  go_step3
  go_wp2_with fail
  go_step3
  go_wp2_with fail
  go_loopw [5] (fun t wr => ∃ k m : Nat, t = .int .i64 k ∧ 1 ≤ k ∧ k * p ≤ l.length ∧ Hid (∀ i, i < k → Blk l p i) ∧ wr = w.drewN m) (fun t _ => l.length + 1 - (intOf t).toNat)
  case atStart => exact ⟨1, 0, rfl, by omega, by omega, Lib.hid (blk_zero hpl), rfl⟩
  case round =>
    obtain ⟨k, m, rfl, hk1, hkp, HK, rfl⟩ := hrel
    have hk0 : (0 : Int) ≤ (k : Int) := Int.natCast_nonneg _
    have hkk : k ≤ k * p := Nat.le_mul_of_pos_right k hp
    obtain ⟨q, hq⟩ : ∃ q, k * p = q := ⟨_, rfl⟩
    obtain ⟨q2, hq2⟩ : ∃ q2, (k + 1) * p = q2 := ⟨_, rfl⟩
    have hqq : q2 = q + p := by rw [← hq2, Nat.succ_mul, hq]
    have m1 : (k : Int) * (p : Int) = (q : Int) := by rw [← hq]; simp
    have m2 : ((k : Int) + 1) * (p : Int) = (q2 : Int) := by rw [← hq2]; simp
    rw [hq] at hkp hkk
    have HQ := Lib.hid hq
    have HQ2 := Lib.hid hq2
    have HQQ := Lib.hid hqq
    clear hq hq2 hqq
    by_cases hfit : q2 ≤ l.length
    · have hf1 : (q2 : Int) ≤ (l.length : Int) := by omega
      have HNB : Hid ((∃ i, i < p ∧ l[q + i]? ≠ l[i]?) → tms l p = k) := Lib.hid (fun ⟨i, hi, hne⟩ => tms_stop hp HK.out (fun h => hne (by have := h.2 i hi; rwa [HQ.out] at this)) (by rw [HQ.out]; exact hkp))
      have HYB : Hid ((∀ i, i < p → l[q + i]? = l[i]?) → ∀ i, i < k + 1 → Blk l p i) := Lib.hid (fun h i hi => by
        by_cases hik : i < k
        · exact HK.out i hik
        · obtain rfl : i = k := by omega
          exact ⟨by rw [HQ2.out]; exact hfit, fun j hj => by rw [HQ.out]; exact h j hj⟩)
      clear HK
      go_wp2_with fail
      generalize hM : m = m0 at *
      clear hM
      go_loopw [17] (fun t wr => ∃ i m : Nat, t = .int .i64 i ∧ i ≤ p ∧ Hid (∀ j, j < i → l[q + j]? = l[j]?) ∧ wr = w.drewN m) (fun t _ => p - (intOf t).toNat)
      case atStart => exact ⟨0, m0, rfl, by omega, Lib.hid (fun j hj => by omega), rfl⟩
      case round =>
        obtain ⟨i, m, rfl, hi, HI, rfl⟩ := hrel
        have hi0 : (0 : Int) ≤ (i : Int) := Int.natCast_nonneg _
        by_cases hip : i < p
        · have hi1 : (i : Int) < (p : Int) := by omega
          have hi2 : (i : Int) < (l.length : Int) := by omega
          have hqn : q + i < l.length := by have := HQQ.out; omega
          have hqi : (q : Int) + (i : Int) < (l.length : Int) := by omega
          have hq0 : (0 : Int) ≤ (q : Int) := Int.natCast_nonneg _
          obtain ⟨x, hx⟩ : ∃ x, l[q + i]? = some x := ⟨_, List.getElem?_eq_getElem (by omega)⟩
          obtain ⟨y, hy⟩ : ∃ y, l[i]? = some y := ⟨_, List.getElem?_eq_getElem (by omega)⟩
          have hA' := hA
          obtain ⟨g, o, rfl, c0, c1⟩ := hA' (q + i) x hx
          obtain ⟨g', o', e', c2, c3⟩ := hA' i y hy
          injection e' with e'
          injection e' with e1 e2
          subst e1; subst e2
          by_cases hxy : x = y
          · subst hxy
            have HN : Hid (∀ j, j < i + 1 → l[q + j]? = l[j]?) := Lib.hid (fun j hj => by
              by_cases hji : j < i
              · exact HI.out j hji
              · obtain rfl : j = i := by omega
                rw [hx, hy])
            clear hx hy hA hA'
            go_wp2_with fail
            go_quiet (fail)
            go_wp2
            go_roundw
            case rel => exact ⟨i + 1, _, by go_num, by omega, HN, rfl⟩
            case measure => simp [intOf]; omega
          · have HS := Lib.hid (HNB.out ⟨i, hip, by rw [hx, hy]; simpa using hxy⟩)
            clear hx hy hA hA'
            by_cases hs : x.1 = y.1
            · have hl1 : ¬ x.2 = y.2 := fun h => hxy (Prod.ext hs h)
              have hl2 : decide (x.2 = y.2) = false := decide_eq_false hl1
              have hl3 : (x.2 == y.2) = false := beq_eq_false_iff_ne.2 hl1
              rw [← hs] at c2
              clear hxy hs
              go_wp2_with fail
              go_quiet (fail)
              go_wp2
              try rw [Exit.noGoto_ret]
              go_ret
              exact ⟨by rw [HS.out]; rfl, _, by rw [World.drewN_drewN]⟩
            · have hs2 : ¬ x.1.toList = y.1.toList := fun h => hs (by rw [Lib.toList_data, Lib.toList_data] at h; exact ByteArray.ext (Array.toList_inj.1 h))
              have hs3 : (x.1.toList == y.1.toList) = false := beq_eq_false_iff_ne.2 hs2
              clear hxy
              go_wp2_with fail
              go_quiet (fail)
              go_wp2
              try rw [Exit.noGoto_ret]
              go_ret
              exact ⟨by rw [HS.out]; rfl, _, by rw [World.drewN_drewN]⟩
        · have hi1 : ¬ (i : Int) < (p : Int) := by omega
          obtain rfl : i = p := by omega
          have HN := Lib.hid (HYB.out HI.out)
          go_wp2
          go_roundw
          case rel => exact ⟨k + 1, _, by go_num, by omega, by rw [HQ2.out]; exact hfit, HN, rfl⟩
          case measure => simp [intOf]; omega
    · have hf1 : ¬ (q2 : Int) ≤ (l.length : Int) := by omega
      have hb2 : q2 ≤ 5864062014700 := by have := HQQ.out; omega
      have HS := Lib.hid (tms_stop hp HK.out (fun h => by have := h.1; rw [HQ2.out] at this; omega) (by rw [HQ.out]; exact hkp))
      go_wp2
      try rw [Exit.noGoto_ret]
      go_ret
      exact ⟨by rw [HS.out]; rfl, m, rfl⟩
end Go.Proofs.YtocdinaomkmcbaaDoor
