/-
  The document's own May and Check.
-/
import Derived.Test.YtocdinaomkmcbaaDoorE
namespace Go.Proofs.YtocdinaomkmcbaaDoor
open Go.ChangeShapes Go.WideShapes Go.ChangeAt Go.RowKit
set_option linter.unusedVariables false

theorem may_out {p : Pl} (h : ¬ (1 ≤ p.1.size ∧ p.1.size ≤ 120 ∧ 0 ≤ p.2 ∧ p.2 ≤ 1048576)) : may p = false := by
  unfold may; rw [decide_eq_false h]; rfl
theorem may_in {p : Pl} (h : 1 ≤ p.1.size ∧ p.1.size ≤ 120 ∧ 0 ≤ p.2 ∧ p.2 ≤ 1048576) : may p = p.1.data.toList.all okB := by
  unfold may; rw [decide_eq_true h]; rfl
theorem all_hit {s : ByteArray} {k : Nat} (hk : k < s.size) (hb : okB s[k] = false) : s.data.toList.all okB = false := by
  rw [List.all_eq_false]
  refine ⟨s[k], ?_, by simp [hb]⟩
  exact List.mem_of_getElem (l := s.data.toList) (i := k) (h := by simpa using hk) rfl
theorem all_step {s : ByteArray} {k : Nat} (hk : k < s.size) (h : (s.data.toList.take k).all okB = true) (hb : okB s[k] = true) : (s.data.toList.take (k + 1)).all okB = true := by
  rw [List.take_succ_eq_append_getElem (by simpa using hk), List.all_append, h]
  have e : s.data.toList[k]'(by simpa using hk) = s[k] := rfl
  rw [e]
  simp [hb]
theorem okB_no {c : UInt8} (h : (c.toNat : Int) < 33 ∨ 126 < (c.toNat : Int) ∨ (c.toNat : Int) = 58) : okB c = false := by
  unfold okB; exact decide_eq_false (by omega)
theorem okB_yes {c : UInt8} (h1 : 33 ≤ (c.toNat : Int)) (h2 : (c.toNat : Int) ≤ 126) (h3 : (c.toNat : Int) ≠ 58) : okB c = true := by
  unfold okB; exact decide_eq_true (by omega)

set_option maxRecDepth 100000 in
set_option maxHeartbeats 1000000 in
theorem rmay_out (p : Pl) (w : World) (h : ¬ (1 ≤ p.1.size ∧ p.1.size ≤ 120 ∧ 0 ≤ p.2 ∧ p.2 ≤ 1048576)) :
    Calls Tryd.prog 51 #[.agg #[.string p.1, .int .i64 p.2]] w fun e w' => e = .returned (.bool false) ∧ Below w.heap.size w w' := by
  obtain ⟨s, n⟩ := p
  dsimp only at h ⊢
  by_cases h1 : s.size < 1
  · have e1 : decide ((s.size : Int) < 1) = true := decide_eq_true (by omega)
    clear h
    go_enter Tryd.func51, Tryd.ntmps51
    go_wp2
    go_ret
    exact ⟨rfl, (Below.refl _ _).alloc (Nat.le_refl _) _⟩
  · by_cases h2 : 120 < s.size
    · have e1 : (1 : Int) ≤ (s.size : Int) := by omega
      have e2 : (120 : Int) < (s.size : Int) := by omega
      clear h h1
      go_enter Tryd.func51, Tryd.ntmps51
      go_wp2
      go_ret
      exact ⟨rfl, (Below.refl _ _).alloc (Nat.le_refl _) _⟩
    · have e1 : (1 : Int) ≤ (s.size : Int) := by omega
      have e2 : (s.size : Int) ≤ 120 := by omega
      by_cases h3 : n < 0
      · clear h h1 h2
        go_enter Tryd.func51, Tryd.ntmps51
        go_wp2
        go_ret
        exact ⟨rfl, (Below.refl _ _).alloc (Nat.le_refl _) _⟩
      · have h4 : 1048576 < n := by omega
        have h5 : 0 ≤ n := by omega
        clear h h1 h2 h3
        go_enter Tryd.func51, Tryd.ntmps51
        go_wp2
        go_ret
        exact ⟨rfl, (Below.refl _ _).alloc (Nat.le_refl _) _⟩

set_option maxRecDepth 100000 in
set_option maxHeartbeats 1000000 in
theorem rmay_in (p : Pl) (w : World) (h : 1 ≤ p.1.size ∧ p.1.size ≤ 120 ∧ 0 ≤ p.2 ∧ p.2 ≤ 1048576) :
    Calls Tryd.prog 51 #[.agg #[.string p.1, .int .i64 p.2]] w fun e w' => e = .returned (.bool (may p)) ∧ Below w.heap.size w w' := by
  have HM := Lib.hid (may_in h)
  obtain ⟨s, n⟩ := p
  dsimp only at h HM ⊢
  obtain ⟨h1, h2, h3, h4⟩ := h
  have e1 : (1 : Int) ≤ (s.size : Int) := by omega
  have e2 : (s.size : Int) ≤ 120 := by omega
  go_enter Tryd.func51, Tryd.ntmps51
  go_wp2
  go_loop [3] (fun i => ∃ k : Nat, i = .int .i64 k ∧ k ≤ s.size ∧ Hid ((s.data.toList.take k).all okB = true)) (fun i => s.size - (intOf i).toNat)
  case atStart => exact ⟨0, rfl, by omega, Lib.hid rfl⟩
  case round =>
    obtain ⟨k, rfl, hk, HK⟩ := hrel
    by_cases hlt : k < s.size
    · have hk0 : (0 : Int) ≤ (k : Int) := Int.natCast_nonneg _
      have hk1 : (k : Int) < (s.size : Int) := by omega
      by_cases hbad : ((s[k]'hlt).toNat : Int) < 33 ∨ 126 < ((s[k]'hlt).toNat : Int) ∨ ((s[k]'hlt).toNat : Int) = 58
      · have HA := Lib.hid (HM.out.trans (all_hit hlt (okB_no hbad)))
        rcases hbad with hb | hb | hb
        · go_wp2
          go_ret
          exact ⟨by rw [HA.out]; rfl, (Below.refl _ _).alloc (Nat.le_refl _) _⟩
        · by_cases hc : ((s[k]'hlt).toNat : Int) < 33
          · exact absurd hb (by omega)
          · go_wp2
            go_ret
            exact ⟨by rw [HA.out]; rfl, (Below.refl _ _).alloc (Nat.le_refl _) _⟩
        · have b1 : 33 ≤ ((s[k]'hlt).toNat : Int) := by omega
          have b2 : ((s[k]'hlt).toNat : Int) ≤ 126 := by omega
          have b3 : (((s[k]'hlt).toNat : Int) == 58) = true := by simpa using hb
          clear hb
          go_wp2
          go_ret
          exact ⟨by rw [HA.out]; rfl, (Below.refl _ _).alloc (Nat.le_refl _) _⟩
      · have HA := Lib.hid (all_step hlt HK.out (okB_yes (by omega) (by omega) (by omega)))
        have b1 : 33 ≤ ((s[k]'hlt).toNat : Int) := by omega
        have b2 : ((s[k]'hlt).toNat : Int) ≤ 126 := by omega
        have b3 : (((s[k]'hlt).toNat : Int) == 58) = false := beq_eq_false_iff_ne.2 (by omega)
        clear hbad
        go_wp2
        go_round
        case rel => exact ⟨k + 1, by go_num, by omega, HA⟩
        case measure => simp [intOf]; omega
    · have HE := Lib.hid (show may (s, n) = true by
        have := HK.out
        rw [HM.out]
        rwa [List.take_of_length_le (by simp; omega)] at this)
      go_wp2
      go_ret
      exact ⟨by rw [HE.out]; rfl, (Below.refl _ _).alloc (Nat.le_refl _) _⟩

theorem rmay_any (p : Pl) (w : World) : Calls Tryd.prog 51 #[.agg #[.string p.1, .int .i64 p.2]] w fun e w' => e = .returned (.bool (may p)) ∧ Below w.heap.size w w' := by
  by_cases h : 1 ≤ p.1.size ∧ p.1.size ≤ 120 ∧ 0 ≤ p.2 ∧ p.2 ≤ 1048576
  · exact rmay_in p w h
  · rw [may_out h]; exact rmay_out p w h
end Go.Proofs.YtocdinaomkmcbaaDoor
