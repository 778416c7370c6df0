/-
  What two stacks have alike: Common, the program's and the document's.
-/
import Derived.Test.YtocdinaomkmcbaaDoorJ
namespace Go.Proofs.YtocdinaomkmcbaaDoor
open Go.ChangeShapes Go.WideShapes Go.ChangeAt Go.RowKit
set_option linter.unusedVariables false

def cm : List Pl → List Pl → Nat
  | p :: l, q :: m => if p = q then cm l m + 1 else 0
  | _, _ => 0
theorem cm_stop : ∀ (k : Nat) (l m : List Pl), l.take k = m.take k → k ≤ l.length → k ≤ m.length → (l.length = k ∨ m.length = k ∨ l[k]? ≠ m[k]?) → cm l m = k := by
  intro k
  induction k with
  | zero =>
    intro l m _ _ _ h
    cases l with
    | nil => rfl
    | cons p l =>
      cases m with
      | nil => rfl
      | cons q m =>
        have : p ≠ q := by simpa using h
        simp [cm, this]
  | succ k ih =>
    intro l m ht h1 h2 h
    cases l with
    | nil => simp at h1
    | cons p l =>
      cases m with
      | nil => simp at h2
      | cons q m =>
        simp only [List.take_succ_cons, List.cons.injEq] at ht
        simp only [List.length_cons] at h1 h2 h
        simp only [cm, ht.1, if_true]
        rw [ih l m ht.2 (by omega) (by omega) (by simpa using h)]

set_option maxRecDepth 100000 in
set_option maxHeartbeats 3200000 in
theorem common_any (A B : Option Addr) (ca cb : Nat) (l m : List Pl) (w : World) (hA : At w A l) (hB : At w B m) (hn : l.length ≤ 5864062014634) (hm : m.length ≤ 5864062014634) :
    Calls Tryd.prog 16 #[.slice A l.length ca, .slice B m.length cb] w fun e w' => e = .returned (.int .i64 (cm l m)) ∧ ∃ k, w' = w.drewN k := by
  have HS := Lib.hid (cm_stop)
  go_enter Tryd.func16, Tryd.ntmps16
  go_wp2
  go_loopw [5] (fun t wr => ∃ k j : Nat, t = .int .i64 k ∧ k ≤ l.length ∧ k ≤ m.length ∧ Hid (l.take k = m.take k) ∧ wr = w.drewN j) (fun t _ => l.length - (intOf t).toNat)
  case atStart => exact ⟨0, 0, rfl, by omega, by omega, Lib.hid rfl, rfl⟩
  case round =>
    obtain ⟨k, j, rfl, hk, hk', HK, rfl⟩ := hrel
    have hk0 : (0 : Int) ≤ (k : Int) := Int.natCast_nonneg _
    by_cases h1 : k < l.length
    · have i1 : (k : Int) < (l.length : Int) := by omega
      by_cases h2 : k < m.length
      · have i2 : (k : Int) < (m.length : Int) := by omega
        obtain ⟨p, hp⟩ : ∃ p, l[k]? = some p := ⟨_, List.getElem?_eq_getElem h1⟩
        obtain ⟨q, hq⟩ : ∃ q, m[k]? = some q := ⟨_, List.getElem?_eq_getElem h2⟩
        obtain ⟨g, o, rfl, c0, c1⟩ := hA k p hp
        obtain ⟨g', o', rfl, c2, c3⟩ := hB k q hq
        by_cases hpq : p = q
        · subst hpq
          have HT : Hid (l.take (k + 1) = m.take (k + 1)) := Lib.hid (by rw [take_snoc' l k p hp, take_snoc' m k p hq, HK.out])
          clear hp hq hA hB
          go_wp2_with fail
          go_quiet (fail)
          go_wp2
          go_roundw
          case rel => exact ⟨k + 1, _, by go_num, by omega, by omega, HT, rfl⟩
          case measure => simp [intOf]; omega
        · have HC := Lib.hid (HS.out k l m HK.out hk hk' (.inr (.inr (by rw [hp, hq]; simpa using hpq))))
          clear hp hq hA hB
          by_cases hs : p.1 = q.1
          · have hl1 : ¬ p.2 = q.2 := fun h => hpq (Prod.ext hs h)
            have hl2 : decide (p.2 = q.2) = false := decide_eq_false hl1
            have hl3 : (p.2 == q.2) = false := beq_eq_false_iff_ne.2 hl1
            rw [← hs] at c2
            clear hpq hs
            go_wp2_with fail
            go_quiet (fail)
            go_wp2
            go_ret
            exact ⟨by rw [HC.out]; rfl, _, by rw [World.drewN_drewN]⟩
          · have hs1 : ¬ p.1 = q.1 := hs
            have hs2 : ¬ p.1.toList = q.1.toList := fun h => hs (by rw [Lib.toList_data, Lib.toList_data] at h; exact ByteArray.ext (Array.toList_inj.1 h))
            have hs3 : (p.1.toList == q.1.toList) = false := beq_eq_false_iff_ne.2 hs2
            clear hpq
            go_wp2_with fail
            go_quiet (fail)
            go_wp2
            go_ret
            exact ⟨by rw [HC.out]; rfl, _, by rw [World.drewN_drewN]⟩
      · have i2 : ¬ (k : Int) < (m.length : Int) := by omega
        have HC := Lib.hid (HS.out k l m HK.out hk hk' (.inr (.inl (by omega))))
        go_wp2_with fail
        go_quiet (fail)
        go_wp2
        go_ret
        exact ⟨by rw [HC.out]; rfl, _, by rw [World.drewN_drewN]⟩
    · have i1 : ¬ (k : Int) < (l.length : Int) := by omega
      have HC := Lib.hid (HS.out k l m HK.out hk hk' (.inl (by omega)))
      go_wp2_with fail
      go_quiet (fail)
      go_wp2
      go_ret
      exact ⟨by rw [HC.out]; rfl, _, by rw [World.drewN_drewN]⟩
set_option maxRecDepth 100000 in
set_option maxHeartbeats 3200000 in
theorem rcommon_any (A B : Option Addr) (ca cb : Nat) (l m : List Pl) (w : World) (hA : At w A l) (hB : At w B m) (hn : l.length ≤ 5864062014634) (hm : m.length ≤ 5864062014634) :
    Calls Tryd.prog 17 #[.slice A l.length ca, .slice B m.length cb] w fun e w' => e = .returned (.int .i64 (cm l m)) ∧ ∃ k, w' = w.drewN k := by
  have HS := Lib.hid (cm_stop)
  go_enter Tryd.func17, Tryd.ntmps17
  go_wp2
  go_loopw [5] (fun t wr => ∃ k j : Nat, t = .int .i64 k ∧ k ≤ l.length ∧ k ≤ m.length ∧ Hid (l.take k = m.take k) ∧ wr = w.drewN j) (fun t _ => l.length - (intOf t).toNat)
  case atStart => exact ⟨0, 0, rfl, by omega, by omega, Lib.hid rfl, rfl⟩
  case round =>
    obtain ⟨k, j, rfl, hk, hk', HK, rfl⟩ := hrel
    have hk0 : (0 : Int) ≤ (k : Int) := Int.natCast_nonneg _
    by_cases h1 : k < l.length
    · have i1 : (k : Int) < (l.length : Int) := by omega
      by_cases h2 : k < m.length
      · have i2 : (k : Int) < (m.length : Int) := by omega
        obtain ⟨p, hp⟩ : ∃ p, l[k]? = some p := ⟨_, List.getElem?_eq_getElem h1⟩
        obtain ⟨q, hq⟩ : ∃ q, m[k]? = some q := ⟨_, List.getElem?_eq_getElem h2⟩
        obtain ⟨g, o, rfl, c0, c1⟩ := hA k p hp
        obtain ⟨g', o', rfl, c2, c3⟩ := hB k q hq
        by_cases hpq : p = q
        · subst hpq
          have HT : Hid (l.take (k + 1) = m.take (k + 1)) := Lib.hid (by rw [take_snoc' l k p hp, take_snoc' m k p hq, HK.out])
          clear hp hq hA hB
          go_wp2_with fail
          go_quiet (fail)
          go_wp2
          go_roundw
          case rel => exact ⟨k + 1, _, by go_num, by omega, by omega, HT, rfl⟩
          case measure => simp [intOf]; omega
        · have HC := Lib.hid (HS.out k l m HK.out hk hk' (.inr (.inr (by rw [hp, hq]; simpa using hpq))))
          clear hp hq hA hB
          by_cases hs : p.1 = q.1
          · have hl1 : ¬ p.2 = q.2 := fun h => hpq (Prod.ext hs h)
            have hl2 : decide (p.2 = q.2) = false := decide_eq_false hl1
            have hl3 : (p.2 == q.2) = false := beq_eq_false_iff_ne.2 hl1
            rw [← hs] at c2
            clear hpq hs
            go_wp2_with fail
            go_quiet (fail)
            go_wp2
            go_ret
            exact ⟨by rw [HC.out]; rfl, _, by rw [World.drewN_drewN]⟩
          · have hs1 : ¬ p.1 = q.1 := hs
            have hs2 : ¬ p.1.toList = q.1.toList := fun h => hs (by rw [Lib.toList_data, Lib.toList_data] at h; exact ByteArray.ext (Array.toList_inj.1 h))
            have hs3 : (p.1.toList == q.1.toList) = false := beq_eq_false_iff_ne.2 hs2
            clear hpq
            go_wp2_with fail
            go_quiet (fail)
            go_wp2
            go_ret
            exact ⟨by rw [HC.out]; rfl, _, by rw [World.drewN_drewN]⟩
      · have i2 : ¬ (k : Int) < (m.length : Int) := by omega
        have HC := Lib.hid (HS.out k l m HK.out hk hk' (.inr (.inl (by omega))))
        go_wp2_with fail
        go_quiet (fail)
        go_wp2
        go_ret
        exact ⟨by rw [HC.out]; rfl, _, by rw [World.drewN_drewN]⟩
    · have i1 : ¬ (k : Int) < (l.length : Int) := by omega
      have HC := Lib.hid (HS.out k l m HK.out hk hk' (.inl (by omega)))
      go_wp2_with fail
      go_quiet (fail)
      go_wp2
      go_ret
      exact ⟨by rw [HC.out]; rfl, _, by rw [World.drewN_drewN]⟩
end Go.Proofs.YtocdinaomkmcbaaDoor
