/-
  What stands at the front of places: the program's block.
-/
import Derived.Test.YtocdinaomkmcbaaDoorFA
namespace Go.Proofs.YtocdinaomkmcbaaDoor
open Go.ChangeShapes Go.WideShapes Go.ChangeAt Go.RowKit
set_option linter.unusedVariables false

theorem tmF_le {l : List Pl} {p : Nat} : ∀ (f k : Nat), k * p ≤ l.length → tmF l p f k * p ≤ l.length := by
  intro f
  induction f with
  | zero => intro k h; exact h
  | succ f ih =>
    intro k h
    rw [tmF]
    split
    · rename_i hb
      exact ih (k + 1) hb.1
    · exact h
theorem tms_le (l : List Pl) (p : Nat) : tms l p * p ≤ l.length := tmF_le _ 0 (by simp)
/-- The block that covers most, of the first n lengths. -/
def bst (l : List Pl) : Nat → Nat × Nat
  | 0 => (1, 1)
  | n + 1 => if n + 1 ≤ l.length ∧ 1 < tms l (n + 1) ∧ (bst l n).1 * (bst l n).2 < (n + 1) * tms l (n + 1) then (n + 1, tms l (n + 1)) else bst l n
theorem bst_past {l : List Pl} : ∀ (d n : Nat), l.length ≤ n → bst l (n + d) = bst l n := by
  intro d
  induction d with
  | zero => intro n _; rfl
  | succ d ih =>
    intro n h
    rw [← Nat.add_assoc, bst, if_neg (by rintro ⟨h1, _⟩; omega)]
    exact ih n h
theorem bst_le {l : List Pl} (h : 1 ≤ l.length) : ∀ n, (bst l n).1 * (bst l n).2 ≤ l.length ∧ 1 ≤ (bst l n).1 ∧ 1 ≤ (bst l n).2 := by
  intro n
  induction n with
  | zero => exact ⟨by simpa [bst] using h, by simp [bst], by simp [bst]⟩
  | succ n ih =>
    rw [bst]
    split
    · rename_i hc
      exact ⟨by have := tms_le l (n + 1); rw [Nat.mul_comm] at this; exact this, by simp, by simp only; omega⟩
    · exact ih

set_option maxRecDepth 100000 in
set_option maxHeartbeats 4000000 in
theorem block_any (A : Option Addr) (cap : Nat) (l : List Pl) (w : World) (hA : At w A l) (hn : l.length ≤ 5864062014634) (h1 : 1 ≤ l.length) :
    Calls Tryd.prog 60 #[.slice A l.length cap] w fun e w' => e = .returned (.tuple #[.int .i64 (bst l 8).1, .int .i64 (bst l 8).2]) ∧ ∃ m, w' = w.drewN m := by
  have K85 := Lib.hid (fun (p m : Nat) (hp : 1 ≤ p) (hp8 : p ≤ 8) (hpl : p ≤ l.length) => timesOf_any A cap p l (w.drewN m) (fun i q hq => hA i q hq) hn hp hp8 hpl)
  go_enter Tryd.func60, Tryd.ntmps60
  go_wp2_with fail
  go_loopw [2, 3, 4] (fun a b t wr => ∃ j m : Nat, a = .int .i64 (bst l j).1 ∧ b = .int .i64 (bst l j).2 ∧ t = .int .i64 ((j + 1 : Nat) : Int) ∧ j ≤ 8 ∧ j ≤ l.length ∧ wr = w.drewN m) (fun _ _ t _ => 10 - (intOf t).toNat)
  case atStart => exact ⟨0, 0, rfl, rfl, rfl, by omega, by omega, rfl⟩
  case round =>
    obtain ⟨j, m, rfl, rfl, rfl, hj8, hjl, rfl⟩ := hrel
    obtain ⟨hb, hb1, hb2⟩ := bst_le h1 j
    by_cases hgo : j + 1 ≤ 8 ∧ j + 1 ≤ l.length
    · have H := Lib.hid (K85.out (j + 1) m (by omega) hgo.1 hgo.2)
      have ht := tms_le l (j + 1)
      have HB := Lib.hid (show bst l (j + 1) = if j + 1 ≤ l.length ∧ 1 < tms l (j + 1) ∧ (bst l j).1 * (bst l j).2 < (j + 1) * tms l (j + 1) then (j + 1, tms l (j + 1)) else bst l j from rfl)
      generalize hk : tms l (j + 1) = k at *
      generalize hbb : bst l j = bb at *
      obtain ⟨b1, b2⟩ := bb
      simp only at hb hb1 hb2 HB
      generalize hp : j + 1 = p at *
      obtain ⟨q1, hq1⟩ : ∃ q, p * k = q := ⟨_, rfl⟩
      obtain ⟨q2, hq2⟩ : ∃ q, b1 * b2 = q := ⟨_, rfl⟩
      have m1 : (p : Int) * (k : Int) = (q1 : Int) := by rw [← hq1]; simp
      have m2 : (b1 : Int) * (b2 : Int) = (q2 : Int) := by rw [← hq2]; simp
      rw [Nat.mul_comm, hq1] at ht
      rw [hq2] at hb
      rw [hq1, hq2] at HB
      have HP := Lib.hid hp
      clear hk hbb hq1 hq2 hp
      have g1 : (p : Int) ≤ 8 := by omega
      have g2 : (p : Int) ≤ (l.length : Int) := by omega
      by_cases hk1 : 1 < k
      · have k1 : (1 : Int) < (k : Int) := by omega
        by_cases hlt : q2 < q1
        · have l1 : (q2 : Int) < (q1 : Int) := by omega
          have HF := Lib.hid (HB.out.trans (if_pos ⟨hgo.2, hk1, hlt⟩))
          clear HB
          go_wp2_with fail
          refine H.out.mono ?_
          rintro e W ⟨rfl, m', rfl⟩
          go_wp2_with fail
          go_roundw
          case rel => exact ⟨p, _, by rw [HF.out], by rw [HF.out], by go_num, by omega, by omega, rfl⟩
          case measure => simp [intOf]; omega
        · have l1 : ¬ (q2 : Int) < (q1 : Int) := by omega
          have HF := Lib.hid (HB.out.trans (if_neg (fun h => hlt h.2.2)))
          clear HB
          go_wp2_with fail
          refine H.out.mono ?_
          rintro e W ⟨rfl, m', rfl⟩
          go_wp2_with fail
          go_roundw
          case rel => exact ⟨p, _, by rw [HF.out], by rw [HF.out], by go_num, by omega, by omega, rfl⟩
          case measure => simp [intOf]; omega
      · have k1 : ¬ (1 : Int) < (k : Int) := by omega
        have HF := Lib.hid (HB.out.trans (if_neg (fun h => hk1 h.2.1)))
        clear HB
        go_wp2_with fail
        refine H.out.mono ?_
        rintro e W ⟨rfl, m', rfl⟩
        go_wp2_with fail
        go_roundw
        case rel => exact ⟨p, _, by rw [HF.out], by rw [HF.out], by go_num, by omega, by omega, rfl⟩
        case measure => simp [intOf]; omega
    · have HF : Hid (bst l 8 = bst l j) := Lib.hid (by
        by_cases h8 : j = 8
        · rw [h8]
        · have := bst_past (l := l) (8 - j) j (by omega)
          rwa [show j + (8 - j) = 8 by omega] at this)
      by_cases h8 : j + 1 ≤ 8
      · have g1 : ((j + 1 : Nat) : Int) ≤ 8 := by omega
        have g2 : ¬ ((j + 1 : Nat) : Int) ≤ (l.length : Int) := by omega
        generalize bst l j = bb at *
        generalize j + 1 = p at *
        go_wp2_with fail
        go_ret2
        exact ⟨by rw [HF.out]; rfl, m, rfl⟩
      · have g1 : ¬ ((j + 1 : Nat) : Int) ≤ 8 := by omega
        generalize bst l j = bb at *
        generalize j + 1 = p at *
        go_wp2_with fail
        go_ret2
        exact ⟨by rw [HF.out]; rfl, m, rfl⟩
end Go.Proofs.YtocdinaomkmcbaaDoor
