/-
  The contract of begins: the first number of bytes, one to four, whose number is a rune and has these bytes as its form.
-/
import Derived.Test.YtdfhpblceoaofaaDoorA
import Derived.Deep.RegionWith
namespace Go.Proofs.YtdfhpblceoaofaaDoor
open Go.ChangeShapes Go.WideShapes Go.ChangeAt Go.RowKit
set_option linter.unusedVariables false

/-- Byte i of a text, as a number; 0 beyond its end. -/
def nb (s : ByteArray) (i : Nat) : Int := ((s.data.toList.getD i 0).toNat : Int)
/-- The number that the first k bytes make. -/
def rk (s : ByteArray) : Nat → Int
  | 2 => 64 * (nb s 0 % 32) + nb s 1 % 64
  | 3 => 64 * (64 * (nb s 0 % 16) + nb s 1 % 64) + nb s 2 % 64
  | 4 => 64 * (64 * (64 * (nb s 0 % 8) + nb s 1 % 64) + nb s 2 % 64) + nb s 3 % 64
  | _ => nb s 0
def sameB (s : ByteArray) (k : Nat) (r : Int) : Bool := (strOfNums (codedL r)).toList == (s.extract 0 k).toList
instance (r : Int) : Decidable (isR r) := by unfold isR; infer_instance
def hitB (s : ByteArray) (k : Nat) : Bool := decide (k ≤ s.size) && (decide (isR (rk s k)) && sameB s k (rk s k))
def bg (s : ByteArray) : Int × Nat :=
  if hitB s 1 then (rk s 1, 1) else if hitB s 2 then (rk s 2, 2) else if hitB s 3 then (rk s 3, 3) else if hitB s 4 then (rk s 4, 4) else (0, 0)

theorem nb_bd (s : ByteArray) (i : Nat) : 0 ≤ nb s i ∧ nb s i ≤ 255 := by
  unfold nb
  have := UInt8.toNat_lt (s.data.toList.getD i 0)
  omega
theorem nb_at (s : ByteArray) (i : Nat) (h : i < s.size) : (s[i].toNat : Int) = nb s i := by
  unfold nb
  have : s.data.toList.getD i 0 = s[i] := by
    rw [List.getD_eq_getElem?_getD, List.getElem?_eq_getElem (by simpa using h)]
    rfl
  rw [this]
theorem lt256 (c : UInt8) : (c.toNat : Int) ≤ 255 := by have := UInt8.toNat_lt c; omega

/-- No number of bytes below k hits. -/
def noHit (s : ByteArray) (k : Nat) : Prop := ∀ j, 1 ≤ j → j < k → hitB s j = false
theorem noHit_1 (s : ByteArray) : noHit s 1 := fun j h g => by omega
theorem noHit_succ {s : ByteArray} {k : Nat} (h : noHit s k) (g : hitB s k = false) : noHit s (k + 1) := fun j a b => by
  by_cases e : j = k
  · rw [e]; exact g
  · exact h j a (by omega)
theorem bg_hit {s : ByteArray} {k : Nat} (h : noHit s k) (h1 : 1 ≤ k) (h4 : k ≤ 4) (g : hitB s k = true) : bg s = (rk s k, k) := by
  unfold bg
  obtain rfl | rfl | rfl | rfl : k = 1 ∨ k = 2 ∨ k = 3 ∨ k = 4 := by omega
  · simp [g]
  · simp [g, h 1 (by omega) (by omega)]
  · simp [g, h 1 (by omega) (by omega), h 2 (by omega) (by omega)]
  · simp [g, h 1 (by omega) (by omega), h 2 (by omega) (by omega), h 3 (by omega) (by omega)]
theorem bg_hitr {s : ByteArray} {k : Nat} {r : Int} (h : noHit s k) (h1 : 1 ≤ k) (h4 : k ≤ 4) (e : rk s k = r) (g : hitB s k = true) : bg s = (r, k) := by rw [← e]; exact bg_hit h h1 h4 g
theorem hitB_long {s : ByteArray} {k : Nat} (h : s.size < k) : hitB s k = false := by unfold hitB; rw [decide_eq_false (by omega)]; rfl
theorem bg_none {s : ByteArray} (h : noHit s (s.size + 1)) : bg s = (0, 0) := by
  have a (k : Nat) (hk : 1 ≤ k) : hitB s k = false := by
    by_cases e : k < s.size + 1
    · exact h k hk e
    · exact hitB_long (by omega)
  unfold bg
  simp [a 1 (by omega), a 2 (by omega), a 3 (by omega), a 4 (by omega)]
theorem hitB_yes {s : ByteArray} {k : Nat} {r : Int} (e : rk s k = r) (hk : k ≤ s.size) (h0 : 0 ≤ r) (h1 : r ≤ 1114111) (h2 : r < 55296 ∨ 57343 < r) (g : ((strOfNums (codedL r)).toList == (s.extract 0 k).toList) = true) : hitB s k = true := by
  unfold hitB sameB; rw [e, decide_eq_true hk, decide_eq_true (show isR r from ⟨h0, h1, h2⟩), g]; rfl
theorem hitB_no {s : ByteArray} {k : Nat} {r : Int} (e : rk s k = r) (g : ((strOfNums (codedL r)).toList == (s.extract 0 k).toList) = false) : hitB s k = false := by
  unfold hitB sameB; rw [e, g]; simp
theorem hitB_not {s : ByteArray} {k : Nat} {r : Int} (e : rk s k = r) (g : ¬ isR r) : hitB s k = false := by
  unfold hitB; rw [e, decide_eq_false g]; simp
theorem retBg {s : ByteArray} {r : Int} {k : Nat} (h : bg s = (r, k)) : Ending.returned (.tuple #[.int .i32 r, .int .i64 (k : Int)]) = .returned (.tuple #[.int .i32 (bg s).1, .int .i64 ((bg s).2 : Int)]) := by rw [h]

theorem rkE1 (s : ByteArray) (h : 1 ≤ s.size) : rk s 1 = ((s[0]'(by omega)).toNat : Int) := (nb_at s 0 (by omega)).symm
theorem rkE2 (s : ByteArray) (h : 2 ≤ s.size) : rk s 2 = 64 * (((s[0]'(by omega)).toNat : Int) % 32) + ((s[1]'(by omega)).toNat : Int) % 64 := by
  rw [nb_at s 0 (by omega), nb_at s 1 (by omega)]; rfl
theorem rkE3 (s : ByteArray) (h : 3 ≤ s.size) : rk s 3 = 64 * (64 * (((s[0]'(by omega)).toNat : Int) % 16) + ((s[1]'(by omega)).toNat : Int) % 64) + ((s[2]'(by omega)).toNat : Int) % 64 := by
  rw [nb_at s 0 (by omega), nb_at s 1 (by omega), nb_at s 2 (by omega)]; rfl
theorem rkE4 (s : ByteArray) (h : 4 ≤ s.size) : rk s 4 = 64 * (64 * (64 * (((s[0]'(by omega)).toNat : Int) % 8) + ((s[1]'(by omega)).toNat : Int) % 64) + ((s[2]'(by omega)).toNat : Int) % 64) + ((s[3]'(by omega)).toNat : Int) % 64 := by
  rw [nb_at s 0 (by omega), nb_at s 1 (by omega), nb_at s 2 (by omega), nb_at s 3 (by omega)]; rfl

set_option maxHeartbeats 4000000 in
theorem begins_any (s : ByteArray) (w : World) (hs1 : 1 ≤ s.size) (hs2 : s.size ≤ 4) :
    Calls Tryd.prog 32 #[.string s] w fun e w' => e = .returned (.tuple #[.int .i32 (bg s).1, .int .i64 ((bg s).2 : Int)]) ∧ Below w.heap.size w w' := by
  have hc0 : (s[0].toNat : Int) ≤ 255 := lt256 _
  go_enter Tryd.func32, Tryd.ntmps32
  go_wp2
  go_loopw [4] (fun t wr => ∃ k : Nat, 1 ≤ k ∧ k ≤ s.size + 1 ∧ t = .int .i64 k ∧ noHit s k ∧ Below w.heap.size w wr) (fun t _ => s.size + 1 - (intOf t).toNat)
  case atStart => exact ⟨1, by omega, by omega, rfl, noHit_1 s, Below.refl _ _⟩
  case round =>
    obtain ⟨k, hk1, hk2, rfl, hN, hB⟩ := hrel
    by_cases hk : k ≤ s.size
    · have h4 : k = 1 ∨ k = 2 ∨ k = 3 ∨ k = 4 := by omega
      rcases h4 with rfl | rfl | rfl | rfl
      · go_wp2_with fail
        refine wp_loop_rounds 1 ?_
        simp only [rounds_succ]
        go_wp2_with fail
        have hr0 : 0 ≤ (s[0].toNat : Int) := by omega
        have hr1 : (s[0].toNat : Int) ≤ 255 := by omega
        have HR := Lib.hid (rkE1 s (by omega))
        generalize (s[0].toNat : Int) = r at *
        by_cases h2 : isR r
        · have h3 := h2
          obtain ⟨g0, g1, g2⟩ := h2
          cases hE : ((strOfNums (codedL r)).toList == (s.extract 0 1).toList)
          · go_region_with (first | (go_at_call 50; refine (may_yes _ _ hr0 g1 g2).mono ?_; rintro e w' ⟨rfl, rfl⟩) | (go_at_call 51; refine (coded_any _ _ hr0 g1).mono ?_; rintro e w1 ⟨rfl, hb1⟩))
            go_wp2
            exact ⟨⟨1 + 1, by omega, by omega, rfl, noHit_succ hN (hitB_no HR.out hE), hB.drew.trans (hb1.mono hB.size)⟩, by simp [intOf]; omega⟩
          · go_region_with (first | (go_at_call 50; refine (may_yes _ _ hr0 g1 g2).mono ?_; rintro e w' ⟨rfl, rfl⟩) | (go_at_call 51; refine (coded_any _ _ hr0 g1).mono ?_; rintro e w1 ⟨rfl, hb1⟩))
            go_wp2
            go_ret2
            exact ⟨retBg (bg_hitr (k := 1) hN (by decide) (by decide) HR.out (hitB_yes HR.out hk g0 g1 g2 hE)), hB.drew.trans (hb1.mono hB.size)⟩
        · go_quiet ((go_at_call 50; exact Calls.quiet_of_same ((may_no _ _ h2).mono fun _ _ ⟨a, b⟩ => ⟨a, b.symm⟩)))
          go_wp2
          exact ⟨⟨1 + 1, by omega, by omega, rfl, noHit_succ hN (hitB_not HR.out h2), below_drewN hB _⟩, by simp [intOf]; omega⟩
      · have hc1 : (s[1].toNat : Int) ≤ 255 := lt256 _
        go_wp2_with fail
        refine wp_loop_rounds 2 ?_
        simp only [rounds_succ]
        go_wp2_with fail
        simp only [rounds_succ]
        go_wp2_with fail
        have hr0 : 0 ≤ 64 * ((s[0].toNat : Int) % 32) + (s[1].toNat : Int) % 64 := by omega
        have hr1 : 64 * ((s[0].toNat : Int) % 32) + (s[1].toNat : Int) % 64 ≤ 2047 := by omega
        have HR := Lib.hid (rkE2 s (by omega))
        generalize 64 * ((s[0].toNat : Int) % 32) + (s[1].toNat : Int) % 64 = r at *
        by_cases h2 : isR r
        · have h3 := h2
          obtain ⟨g0, g1, g2⟩ := h2
          cases hE : ((strOfNums (codedL r)).toList == (s.extract 0 2).toList)
          · go_region_with (first | (go_at_call 50; refine (may_yes _ _ hr0 g1 g2).mono ?_; rintro e w' ⟨rfl, rfl⟩) | (go_at_call 51; refine (coded_any _ _ hr0 g1).mono ?_; rintro e w1 ⟨rfl, hb1⟩))
            go_wp2
            exact ⟨⟨2 + 1, by omega, by omega, rfl, noHit_succ hN (hitB_no HR.out hE), hB.drew.trans (hb1.mono hB.size)⟩, by simp [intOf]; omega⟩
          · go_region_with (first | (go_at_call 50; refine (may_yes _ _ hr0 g1 g2).mono ?_; rintro e w' ⟨rfl, rfl⟩) | (go_at_call 51; refine (coded_any _ _ hr0 g1).mono ?_; rintro e w1 ⟨rfl, hb1⟩))
            go_wp2
            go_ret2
            exact ⟨retBg (bg_hitr (k := 2) hN (by decide) (by decide) HR.out (hitB_yes HR.out hk g0 g1 g2 hE)), hB.drew.trans (hb1.mono hB.size)⟩
        · go_quiet ((go_at_call 50; exact Calls.quiet_of_same ((may_no _ _ h2).mono fun _ _ ⟨a, b⟩ => ⟨a, b.symm⟩)))
          go_wp2
          exact ⟨⟨2 + 1, by omega, by omega, rfl, noHit_succ hN (hitB_not HR.out h2), below_drewN hB _⟩, by simp [intOf]; omega⟩
      · have hc1 : (s[1].toNat : Int) ≤ 255 := lt256 _
        have hc2 : (s[2].toNat : Int) ≤ 255 := lt256 _
        go_wp2_with fail
        refine wp_loop_rounds 3 ?_
        simp only [rounds_succ]
        go_wp2_with fail
        simp only [rounds_succ]
        go_wp2_with fail
        simp only [rounds_succ]
        go_wp2_with fail
        have hr0 : 0 ≤ 64 * (64 * ((s[0].toNat : Int) % 16) + (s[1].toNat : Int) % 64) + (s[2].toNat : Int) % 64 := by omega
        have hr1 : 64 * (64 * ((s[0].toNat : Int) % 16) + (s[1].toNat : Int) % 64) + (s[2].toNat : Int) % 64 ≤ 65535 := by omega
        have HR := Lib.hid (rkE3 s (by omega))
        generalize 64 * (64 * ((s[0].toNat : Int) % 16) + (s[1].toNat : Int) % 64) + (s[2].toNat : Int) % 64 = r at *
        by_cases h2 : isR r
        · have h3 := h2
          obtain ⟨g0, g1, g2⟩ := h2
          cases hE : ((strOfNums (codedL r)).toList == (s.extract 0 3).toList)
          · go_region_with (first | (go_at_call 50; refine (may_yes _ _ hr0 g1 g2).mono ?_; rintro e w' ⟨rfl, rfl⟩) | (go_at_call 51; refine (coded_any _ _ hr0 g1).mono ?_; rintro e w1 ⟨rfl, hb1⟩))
            go_wp2
            exact ⟨⟨3 + 1, by omega, by omega, rfl, noHit_succ hN (hitB_no HR.out hE), hB.drew.trans (hb1.mono hB.size)⟩, by simp [intOf]; omega⟩
          · go_region_with (first | (go_at_call 50; refine (may_yes _ _ hr0 g1 g2).mono ?_; rintro e w' ⟨rfl, rfl⟩) | (go_at_call 51; refine (coded_any _ _ hr0 g1).mono ?_; rintro e w1 ⟨rfl, hb1⟩))
            go_wp2
            go_ret2
            exact ⟨retBg (bg_hitr (k := 3) hN (by decide) (by decide) HR.out (hitB_yes HR.out hk g0 g1 g2 hE)), hB.drew.trans (hb1.mono hB.size)⟩
        · go_quiet ((go_at_call 50; exact Calls.quiet_of_same ((may_no _ _ h2).mono fun _ _ ⟨a, b⟩ => ⟨a, b.symm⟩)))
          go_wp2
          exact ⟨⟨3 + 1, by omega, by omega, rfl, noHit_succ hN (hitB_not HR.out h2), below_drewN hB _⟩, by simp [intOf]; omega⟩
      · have hc1 : (s[1].toNat : Int) ≤ 255 := lt256 _
        have hc2 : (s[2].toNat : Int) ≤ 255 := lt256 _
        have hc3 : (s[3].toNat : Int) ≤ 255 := lt256 _
        go_wp2_with fail
        refine wp_loop_rounds 4 ?_
        simp only [rounds_succ]
        go_wp2_with fail
        simp only [rounds_succ]
        go_wp2_with fail
        simp only [rounds_succ]
        go_wp2_with fail
        simp only [rounds_succ]
        go_wp2_with fail
        have hr0 : 0 ≤ 64 * (64 * (64 * ((s[0].toNat : Int) % 8) + (s[1].toNat : Int) % 64) + (s[2].toNat : Int) % 64) + (s[3].toNat : Int) % 64 := by omega
        have hr1 : 64 * (64 * (64 * ((s[0].toNat : Int) % 8) + (s[1].toNat : Int) % 64) + (s[2].toNat : Int) % 64) + (s[3].toNat : Int) % 64 ≤ 2097151 := by omega
        have HR := Lib.hid (rkE4 s (by omega))
        generalize 64 * (64 * (64 * ((s[0].toNat : Int) % 8) + (s[1].toNat : Int) % 64) + (s[2].toNat : Int) % 64) + (s[3].toNat : Int) % 64 = r at *
        by_cases h2 : isR r
        · have h3 := h2
          obtain ⟨g0, g1, g2⟩ := h2
          cases hE : ((strOfNums (codedL r)).toList == (s.extract 0 4).toList)
          · go_region_with (first | (go_at_call 50; refine (may_yes _ _ hr0 g1 g2).mono ?_; rintro e w' ⟨rfl, rfl⟩) | (go_at_call 51; refine (coded_any _ _ hr0 g1).mono ?_; rintro e w1 ⟨rfl, hb1⟩))
            go_wp2
            exact ⟨⟨4 + 1, by omega, by omega, rfl, noHit_succ hN (hitB_no HR.out hE), hB.drew.trans (hb1.mono hB.size)⟩, by simp [intOf]; omega⟩
          · go_region_with (first | (go_at_call 50; refine (may_yes _ _ hr0 g1 g2).mono ?_; rintro e w' ⟨rfl, rfl⟩) | (go_at_call 51; refine (coded_any _ _ hr0 g1).mono ?_; rintro e w1 ⟨rfl, hb1⟩))
            go_wp2
            go_ret2
            exact ⟨retBg (bg_hitr (k := 4) hN (by decide) (by decide) HR.out (hitB_yes HR.out hk g0 g1 g2 hE)), hB.drew.trans (hb1.mono hB.size)⟩
        · go_quiet ((go_at_call 50; exact Calls.quiet_of_same ((may_no _ _ h2).mono fun _ _ ⟨a, b⟩ => ⟨a, b.symm⟩)))
          go_wp2
          exact ⟨⟨4 + 1, by omega, by omega, rfl, noHit_succ hN (hitB_not HR.out h2), below_drewN hB _⟩, by simp [intOf]; omega⟩
    · obtain rfl : k = s.size + 1 := by omega
      go_wp2
      all_goals go_ret2
      all_goals exact ⟨retBg (bg_none hN), hB⟩
end Go.Proofs.YtdfhpblceoaofaaDoor
