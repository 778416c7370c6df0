/-
  Contracts of the small-number functions of layer 1 and of the document's own: each returns what the chapter says, for every number of its kind.
-/
import Derived.Test.YtdfhpblceoaofaaRows
import Derived.WalkKit
import Derived.ProofKit
import Derived.OpenShut
import Derived.IntWalk
import Derived.Lib.Hide
namespace Go.Proofs.Ytdfhpblceoaofaa.textSmalls
open Go.ChangeShapes Go.WideShapes Go.ChangeAt Go.RowKit
set_option linter.unusedVariables false

theorem w8 (n : Int) : IntKind.i8.wrap n = (n + 128) % 256 - 128 := by
  simp only [IntKind.wrap, IntKind.bits, IntKind.signed]; simp; split <;> omega

theorem tm_bd (n : Int) : -256 < n.tmod 256 ∧ n.tmod 256 < 256 :=
  ⟨by have := Int.lt_tmod_of_pos n (b := 256) (by decide); omega, Int.tmod_lt_of_pos n (by decide)⟩
theorem tm_mod (n : Int) : n.tmod 256 % 256 = n % 256 := by
  have := Int.mul_tdiv_add_tmod n 256
  omega

theorem tm_w (n m : Int) (h : m = n.tmod 256 ∨ m = n.tmod 256 + 256 ∨ m = n.tmod 256 - 256) : IntKind.i8.wrap m = IntKind.i8.wrap n := by
  have := tm_mod n
  rw [w8, w8]
  rcases h with rfl | rfl | rfl <;> omega

theorem ret8 {a b : Int} (h : a = b) : Ending.returned (.int .i8 a) = .returned (.int .i8 b) := by rw [h]

theorem low_any (n : Int) (w : World) :
    Calls Try.prog 7 #[.int .i16 n] w fun e w' => e = .returned (.int .i8 (IntKind.i8.wrap n)) ∧ w = w' := by
  go_enter Try.func7, Try.ntmps7
  go_wp2
  go_ret
  exact ⟨rfl, rfl⟩

set_option maxHeartbeats 400000 in
theorem wrapped_any (n : Int) (w : World) (h0 : -32768 ≤ n) (h1 : n ≤ 32767) :
    Calls Try.prog 13 #[.int .i64 n] w fun e w' => e = .returned (.int .i8 (IntKind.i8.wrap n)) ∧ w = w' := by
  obtain ⟨h2, h3⟩ := tm_bd n
  go_enter Try.func13, Try.ntmps13
  go_wp2
  all_goals go_ret
  all_goals refine ⟨ret8 ?_, rfl⟩
  all_goals have hm := tm_mod n
  all_goals rw [w8]
  all_goals omega

theorem near_any (n : Int) (w : World) (h0 : -32768 ≤ n) (h1 : n ≤ 32767) :
    Calls Try.prog 8 #[.int .i16 n] w fun e w' => e = .returned (.int .i8 (max (-128) (min 127 n))) ∧ w = w' := by
  go_enter Try.func8, Try.ntmps8
  go_wp2
  all_goals go_ret
  all_goals refine ⟨ret8 ?_, rfl⟩
  all_goals (first | omega | (split at * <;> omega))

theorem rnear_any (n : Int) (w : World) (h0 : -32768 ≤ n) (h1 : n ≤ 32767) :
    Calls Try.prog 12 #[.int .i16 n] w fun e w' => e = .returned (.int .i8 (max (-128) (min 127 n))) ∧ w = w' := by
  go_enter Try.func12, Try.ntmps12
  go_wp2
  all_goals go_ret
  all_goals refine ⟨ret8 ?_, rfl⟩
  all_goals (first | omega | (split at * <;> omega))

theorem rlow_any (n : Int) (w : World) (h0 : -32768 ≤ n) (h1 : n ≤ 32767) :
    Calls Try.prog 11 #[.int .i16 n] w fun e w' => e = .returned (.int .i8 (IntKind.i8.wrap n)) ∧ w = w' := by
  go_enter Try.func11, Try.ntmps11
  go_wp2_with (go_at_call 13; refine (wrapped_any _ _ h0 h1).mono ?_; rintro e w' ⟨rfl, rfl⟩)
  go_ret
  exact ⟨rfl, rfl⟩

def ovr (a b : Int) : Bool := decide (a + b < -128 ∨ 127 < a + b)
def trn (n : Int) : Int := if n = -32768 then n else -n
def can (n : Int) : Bool := decide (n ≠ -32768)
theorem retp8 {a b : Int} {c d : Bool} (h : a = b) (g : c = d) : Ending.returned (.tuple #[.int .i8 a, .bool c]) = .returned (.tuple #[.int .i8 b, .bool d]) := by rw [h, g]
theorem retp16 {a b : Int} {c d : Bool} (h : a = b) (g : c = d) : Ending.returned (.tuple #[.int .i16 a, .bool c]) = .returned (.tuple #[.int .i16 b, .bool d]) := by rw [h, g]

theorem w8_bd (n : Int) : -128 ≤ IntKind.i8.wrap n ∧ IntKind.i8.wrap n ≤ 127 := by rw [w8]; omega
theorem ovr_sum (a b : Int) (a0 : -128 ≤ a) (a1 : a ≤ 127) (b0 : -128 ≤ b) (b1 : b ≤ 127) : (IntKind.i16.wrap (IntKind.i8.wrap (a + b)) != a + b) = ovr a b := by
  have hb := w8_bd (a + b)
  rw [IntWalk.i16_in _ (by omega), Bool.eq_iff_iff]
  unfold ovr
  simp only [bne_iff_ne, ne_eq, decide_eq_true_eq, w8]
  omega
theorem ovr_yes (a b : Int) (h : a + b < -128 ∨ 127 < a + b) : ovr a b = true := by unfold ovr; simpa using h
theorem ovr_no (a b : Int) (h : -128 ≤ a + b) (g : a + b ≤ 127) : ovr a b = false := by
  unfold ovr; exact decide_eq_false (by omega)
theorem trn_turn (n : Int) (h0 : -32768 ≤ n) (h1 : n ≤ 32767) : IntKind.i16.wrap (-n) = trn n := by
  unfold trn
  by_cases h : n = -32768
  · subst h; decide
  · rw [if_neg h, IntWalk.i16_in _ (by omega)]
theorem can_turn (n : Int) : (n != -32768) = can n := by
  unfold can; rw [Bool.eq_iff_iff]; simp

theorem sum_any (a b : Int) (w : World) (a0 : -128 ≤ a) (a1 : a ≤ 127) (b0 : -128 ≤ b) (b1 : b ≤ 127) :
    Calls Try.prog 5 #[.int .i8 a, .int .i8 b] w fun e w' => e = .returned (.tuple #[.int .i8 (IntKind.i8.wrap (a + b)), .bool (ovr a b)]) ∧ w = w' := by
  go_enter Try.func5, Try.ntmps5
  go_wp2_with (go_at_call 7; refine (low_any _ _).mono ?_; rintro e w' ⟨rfl, rfl⟩)
  go_ret2
  exact ⟨retp8 rfl (ovr_sum a b a0 a1 b0 b1), rfl⟩

theorem rsum_any (a b : Int) (w : World) (a0 : -128 ≤ a) (a1 : a ≤ 127) (b0 : -128 ≤ b) (b1 : b ≤ 127) :
    Calls Try.prog 9 #[.int .i8 a, .int .i8 b] w fun e w' => e = .returned (.tuple #[.int .i8 (IntKind.i8.wrap (a + b)), .bool (ovr a b)]) ∧ w = w' := by
  go_enter Try.func9, Try.ntmps9
  go_wp2_with (go_at_call 13; refine (wrapped_any _ _ (by omega) (by omega)).mono ?_; rintro e w' ⟨rfl, rfl⟩)
  · go_ret2
    refine ⟨retp8 rfl ?_, rfl⟩
    by_cases h : 127 < a + b
    · rw [ovr_yes a b (Or.inr h)]; simp; exact Or.inr h
    · rw [ovr_no a b (by assumption) (by omega)]; simp; omega
  · go_ret2
    exact ⟨retp8 rfl (ovr_yes a b (Or.inl (by assumption))).symm, rfl⟩

theorem turn_any (n : Int) (w : World) (h0 : -32768 ≤ n) (h1 : n ≤ 32767) :
    Calls Try.prog 6 #[.int .i16 n] w fun e w' => e = .returned (.tuple #[.int .i16 (trn n), .bool (can n)]) ∧ w = w' := by
  go_enter Try.func6, Try.ntmps6
  go_wp2
  go_ret2
  exact ⟨retp16 (trn_turn n h0 h1) (can_turn n), rfl⟩

theorem rturn_any (n : Int) (w : World) (h0 : -32768 ≤ n) (h1 : n ≤ 32767) :
    Calls Try.prog 10 #[.int .i16 n] w fun e w' => e = .returned (.tuple #[.int .i16 (trn n), .bool (can n)]) ∧ w = w' := by
  by_cases h : n = -32768
  · subst h
    go_enter Try.func10, Try.ntmps10
    go_wp2
    go_ret2
    exact ⟨rfl, rfl⟩
  · have hn : (n == -32768) = false := by simpa using h
    have ht := trn_turn n h0 h1
    have hc := can_turn n
    have H := Lib.hid (show IntKind.i16.wrap (-n) = trn n ∧ true = can n from ⟨ht, by rw [← hc]; simpa using h⟩)
    clear h ht hc
    go_enter Try.func10, Try.ntmps10
    go_wp2
    go_ret2
    exact ⟨retp16 H.out.1 H.out.2, rfl⟩

/-! The walk of the law. -/
set_option maxHeartbeats 800000 in
theorem walk (a0 : Int) (a1 : Int) (a2 : Int) (w0 : (Lit.int .i16 a0).wf = true) (w1 : (Lit.int .i8 a1).wf = true) (w2 : (Lit.int .i8 a2).wf = true) (w : World) :
    Calls Try.prog 4 #[.int .i16 a0, .int .i8 a1, .int .i8 a2] w fun e w' => e = .returned (.bool true) ∧ Grown w w' := by
  have b0 : -32768 ≤ a0 ∧ a0 ≤ 32767 := by simpa [Lit.wf, IntKind.min, IntKind.max, IntKind.bits, IntKind.signed] using w0
  have b1 : -128 ≤ a1 ∧ a1 ≤ 127 := by simpa [Lit.wf, IntKind.min, IntKind.max, IntKind.bits, IntKind.signed] using w1
  have b2 : -128 ≤ a2 ∧ a2 ≤ 127 := by simpa [Lit.wf, IntKind.min, IntKind.max, IntKind.bits, IntKind.signed] using w2
  obtain ⟨l0, u0⟩ := b0
  obtain ⟨l1, u1⟩ := b1
  obtain ⟨l2, u2⟩ := b2
  go_enter Try.func4, Try.ntmps4
  go_wp2_with fail
  refine (rsum_any _ _ _ l1 u1 l2 u2).mono ?_
  rintro e w' ⟨rfl, rfl⟩
  go_wp2_with fail
  refine (sum_any _ _ _ l1 u1 l2 u2).mono ?_
  rintro e w' ⟨rfl, rfl⟩
  go_wp2_with fail
  refine (rturn_any _ _ l0 u0).mono ?_
  rintro e w' ⟨rfl, rfl⟩
  go_wp2_with fail
  refine (turn_any _ _ l0 u0).mono ?_
  rintro e w' ⟨rfl, rfl⟩
  go_wp2_with (first | (go_at_call 7; refine (low_any _ _).mono ?_; rintro e w' ⟨rfl, rfl⟩) | (go_at_call 11; refine (rlow_any _ _ l0 u0).mono ?_; rintro e w' ⟨rfl, rfl⟩) | (go_at_call 8; refine (near_any _ _ l0 u0).mono ?_; rintro e w' ⟨rfl, rfl⟩) | (go_at_call 12; refine (rnear_any _ _ l0 u0).mono ?_; rintro e w' ⟨rfl, rfl⟩))
  go_ret
  exact ⟨rfl, by repeat (first | exact Grown.refl _ | apply Grown.drew | apply Grown.alloc)⟩
end Go.Proofs.Ytdfhpblceoaofaa.textSmalls
