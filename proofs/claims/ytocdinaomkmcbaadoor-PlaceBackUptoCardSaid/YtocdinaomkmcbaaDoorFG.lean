/-
  How many times a block stands at the front: the document's times.
-/
import Derived.Test.YtocdinaomkmcbaaDoorFD
import Derived.BigQuiet
import Derived.IntWalk
namespace Go.Proofs.YtocdinaomkmcbaaDoor
open Go.ChangeShapes Go.WideShapes Go.ChangeAt Go.RowKit
set_option linter.unusedVariables false

theorem part29 (g o n cap q q2 p : Nat) (hp : 1 ≤ p) (h1 : q2 = q + p) (h2 : q2 ≤ cap) (W : World) :
    (Instr.slice 29 (.slice (some ⟨g, o, none⟩) n cap) (some (.int .i64 q)) (some (.int .i64 q2)) none).run Tryd.prog W = .ok (.slice (some ⟨g, o + q * 2, none⟩) p (cap - q)) W := by
  subst h1
  have h3 : ¬ cap = q := by omega
  have a1 : (q : Int) ≤ ((q + p : Nat) : Int) := by omega
  have a2 : ((q + p : Nat) : Int) ≤ (cap : Int) := by omega
  have a0 : (0 : Int) ≤ (q : Int) := by omega
  have e1 : q + p - q = p := by omega
  refine (run_slice_lh (P := Tryd.prog) (w := W) 29 _ _ _ (by kernel_rfl) .i64 .i64 (q : Int) ((q + p : Nat) : Int) a0 a1 a2).trans ?_
  simp only [Int.toNat_natCast, sliced, h3, if_false, e1]
  simp [go_sem]

set_option maxRecDepth 100000 in
set_option maxHeartbeats 4000000 in
theorem rtimes_any (g o cap p : Nat) (l : List Pl) (w : World) (hA : At w (some ⟨g, o, none⟩) l) (hn : l.length ≤ 5864062014634) (hp : 1 ≤ p) (hp8 : p ≤ 8) (hpl : p ≤ l.length) (hcap : l.length ≤ cap) :
    Calls Tryd.prog 61 #[.slice (some ⟨g, o, none⟩) l.length cap, .int .i64 p] w fun e w' => e = .returned (.int .i64 (tms l p)) ∧ ∃ m, w' = w.drewN m := by
  have hp0 : (0 : Int) ≤ (p : Int) := Int.natCast_nonneg _
  have hpc : (p : Int) ≤ (cap : Int) := by omega
  go_enter Tryd.func61, Tryd.ntmps61
  go_wp2_with fail
  go_loopw [5] (fun t wr => ∃ k : Nat, t = .int .i64 k ∧ k * p ≤ l.length ∧ Hid (∀ i, i < k → Blk l p i) ∧ Hid (∃ m, wr = w.drewN m)) (fun t _ => l.length + 1 - (intOf t).toNat)
  case atStart => exact ⟨0, rfl, by omega, Lib.hid (fun i hi => by omega), Lib.hid ⟨0, rfl⟩⟩
  case round =>
    obtain ⟨k, rfl, hkp, HK, HW⟩ := hrel
    have hk0 : (0 : Int) ≤ (k : Int) := Int.natCast_nonneg _
    have hkk : k ≤ k * p := Nat.le_mul_of_pos_right k hp
    have hAr : At wr (some ⟨g, o, none⟩) l := by obtain ⟨m, e⟩ := HW.out; rw [e]; exact hA
    obtain ⟨q, hq⟩ : ∃ q, k * p = q := ⟨_, rfl⟩
    obtain ⟨q2, hq2⟩ : ∃ q2, (k + 1) * p = q2 := ⟨_, rfl⟩
    have hqq : q2 = q + p := by rw [← hq2, Nat.succ_mul, hq]
    have m1 : (k : Int) * (p : Int) = (q : Int) := by rw [← hq]; simp
    have m2 : ((k : Int) + 1) * (p : Int) = (q2 : Int) := by rw [← hq2]; simp
    rw [hq] at hkp hkk
    have HQ := Lib.hid hq
    have HQ2 := Lib.hid hq2
    have HQQ := Lib.hid hqq
    clear hA hq hq2 hqq
    by_cases hfit : q2 ≤ l.length
    · have hf1 : (q2 : Int) ≤ (l.length : Int) := by omega
      have hs1 := part29 g o l.length cap q q2 p hp HQQ.out (by omega)
      have hq0 : (0 : Int) ≤ (q : Int) := Int.natCast_nonneg _
      have hqle : q + p ≤ l.length := by have := HQQ.out; omega
      have HL1 : Hid (((l.drop q).take p).length = p) := Lib.hid (by simp; omega)
      have HL2 : Hid ((l.take p).length = p) := Lib.hid (by simp; omega)
      have HB : Hid (Blk l p k ↔ (l.drop q).take p = l.take p) := Lib.hid (by
        have := blk_iff (l := l) (p := p) (k := k) (by rw [HQ2.out]; exact hfit)
        rw [HQ.out] at this; exact this)
      have H86 : Hid (∀ n : Nat, Calls Tryd.prog 86 #[.slice (some ⟨g, o + q * 2, none⟩) p (cap - q), .slice (some ⟨g, o, none⟩) p cap] (wr.drewN n) fun e w' => e = .returned (.bool (decide ((l.drop q).take p = l.take p))) ∧ ∃ m, w' = (wr.drewN n).drewN m) := Lib.hid (fun n => by
        have := samePl_any (some ⟨g, o + q * 2, none⟩) (some ⟨g, o, none⟩) (cap - q) cap ((l.drop q).take p) (l.take p) (wr.drewN n) (((drop_at hAr q).take p)) (hAr.take p) (by rw [HL1.out]; omega) (by rw [HL2.out]; omega)
        rw [HL1.out, HL2.out] at this
        exact this)
      have w1 : IntKind.i64.wrap ((k : Int) + 1) = (k : Int) + 1 := IntWalk.i64_in _ (by omega)
      have w2 : IntKind.i64.wrap (q : Int) = (q : Int) := IntWalk.i64_in _ (by omega)
      have w3 : IntKind.i64.wrap (q2 : Int) = (q2 : Int) := IntWalk.i64_in _ (by omega)
      clear hAr
      by_cases hb : Blk l p k
      · rw [decide_eq_true (HB.out.1 hb)] at H86
        have HN : Hid (∀ i, i < k + 1 → Blk l p i) := Lib.hid (fun i hi => by
          by_cases hik : i < k
          · exact HK.out i hik
          · obtain rfl : i = k := by omega
            exact hb)
        clear HK HB hb HL1 HL2
        go_wp2_with fail
        go_quiet ((go_at_call 86; exact Calls.quiet_of (H86.out _)))
        clear w1 w2 w3
        go_wp2_with fail
        go_roundw
        case rel => exact ⟨k + 1, by go_num, by rw [HQ2.out]; exact hfit, HN, Lib.hid (by obtain ⟨m, e⟩ := HW.out; rw [e]; exact ⟨_, by rw [World.drewN_drewN]⟩)⟩
        case measure => simp [intOf]; omega
      · rw [decide_eq_false (fun h => hb (HB.out.2 h))] at H86
        have HS := Lib.hid (tms_stop hp HK.out hb (by rw [HQ.out]; exact hkp))
        clear HK HB hb HL1 HL2
        go_wp2_with fail
        go_quiet ((go_at_call 86; exact Calls.quiet_of (H86.out _)))
        clear w1 w2 w3
        go_wp2_with fail
        go_ret
        exact ⟨by rw [HS.out]; rfl, by obtain ⟨m, e⟩ := HW.out; rw [e]; exact ⟨_, by rw [World.drewN_drewN]⟩⟩
    · have hf1 : ¬ (q2 : Int) ≤ (l.length : Int) := by omega
      have hb2 : q2 ≤ 5864062014700 := by have := HQQ.out; omega
      have HS := Lib.hid (tms_stop hp HK.out (fun h => by have := h.1; rw [HQ2.out] at this; omega) (by rw [HQ.out]; exact hkp))
      have w1 : IntKind.i64.wrap ((k : Int) + 1) = (k : Int) + 1 := IntWalk.i64_in _ (by omega)
      have w3 : IntKind.i64.wrap (q2 : Int) = (q2 : Int) := IntWalk.i64_in _ (by omega)
      clear HK hAr
      go_wp2_with fail
      go_quiet (fail)
      clear w1 w3
      go_wp2_with fail
      go_ret
      exact ⟨by rw [HS.out]; rfl, by obtain ⟨m, e⟩ := HW.out; rw [e]; exact ⟨_, by rw [World.drewN_drewN]⟩⟩
end Go.Proofs.YtocdinaomkmcbaaDoor
