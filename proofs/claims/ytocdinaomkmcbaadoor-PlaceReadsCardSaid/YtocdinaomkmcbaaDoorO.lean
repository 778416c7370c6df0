/-
  The document's digits.
-/
import Derived.Test.YtocdinaomkmcbaaDoorK
import Derived.Laws.IdiomStrings
namespace Go.Proofs.YtocdinaomkmcbaaDoor
open Go.ChangeShapes Go.WideShapes Go.ChangeAt Go.RowKit Go.Shelf
set_option linter.unusedVariables false

def pre (n : Nat) (s : List UInt8) : List UInt8 := if n = 0 ∧ s ≠ [] then s else Lib.decDigits n ++ s
theorem pre_step (n : Nat) (s : List UInt8) (h : 0 < n ∨ s = []) : pre (n / 10) (UInt8.ofNat (48 + n % 10) :: s) = pre n s := by
  have e : pre n s = Lib.decDigits n ++ s := by
    unfold pre
    rw [if_neg]
    rintro ⟨h1, h2⟩
    rcases h with h | h
    · omega
    · exact h2 h
  rw [e]
  conv => rhs; rw [Lib.decDigits]
  unfold pre
  by_cases h10 : n < 10
  · rw [dif_pos h10, if_pos ⟨by omega, by simp⟩, show n % 10 = n by omega]; rfl
  · rw [dif_neg h10, if_neg (by rintro ⟨h1, _⟩; omega)]; simp

theorem conv1 (w : World) (n : Nat) (h : n ≤ 255) : (convert 91 9 (.slice (some ⟨w.heap.size, 0, none⟩) 1 1)).run Tryd.prog (w.alloc (.cells #[.int .u8 (n : Int)] 5)) = .ok (.string (bts [UInt8.ofNat n])) (w.alloc (.cells #[.int .u8 (n : Int)] 5)) :=
  run_convert_bytes_back _ 91 9 5 ⟨w.heap.size, 0, none⟩ 1 [UInt8.ofNat n] Tryd.underlying91 Tryd.underlying5 Tryd.underlying9 (fun j hj => by
    have : j = 0 := by simp at hj; omega
    subst this
    have e : (UInt8.ofNat n).toNat = n := by rw [UInt8.toNat_ofNat']; omega
    rw [Addr.add_lit]
    simp [e])
theorem bts_cons (c : UInt8) (s : List UInt8) : bts [c] ++ bts s = bts (c :: s) := by
  apply ba_ext; rw [bts_list]; simp [bts]
theorem bts_room (c : UInt8) (s : List UInt8) (h : s.length ≤ 30) : ¬ ((bts [c]).size + (bts s).size > 9223372036854775807) := by
  rw [bts_size, bts_size]; simp; omega
theorem pre_len (k : Nat) (s : List UInt8) : s.length ≤ (pre k s).length := by
  unfold pre; split <;> simp
theorem dec_len (u : Nat) (h : u ≤ 1048576) : (Lib.decDigits u).length ≤ 21 := by
  have h1 := itoa_dec (n := (u : Int)) (by omega)
  have := Lib.itoa_length_le (u : Int) (by omega) (by omega)
  rw [h1] at this
  simpa using this

set_option maxRecDepth 100000 in
set_option maxHeartbeats 3200000 in
theorem digits_any (n : Int) (w : World) (h0 : 0 ≤ n) (h1 : n ≤ 1048576) :
    Calls Tryd.prog 49 #[.int .i64 n] w fun e w' => e = .returned (.string (bts (Lib.itoa n))) ∧ Below w.heap.size w w' := by
  obtain ⟨u, rfl⟩ := Int.eq_ofNat_of_zero_le h0
  have HD := Lib.hid (itoa_dec h0)
  go_enter Tryd.func49, Tryd.ntmps49
  go_wp2
  go_loopw [0, 3] (fun t v wr => ∃ (k : Nat) (s : List UInt8), t = .int .i64 k ∧ k ≤ u ∧ v = .string (bts s) ∧ s.length ≤ 30 ∧ Hid (pre k s = Lib.decDigits u) ∧ Below w.heap.size w wr) (fun t v _ => (intOf t).toNat + (match v with | .string s => if s.size = 0 then 1 else 0 | _ => 0))
  case atStart => exact ⟨u, [], rfl, by omega, rfl, by simp, Lib.hid (by unfold pre; rw [if_neg (by simp)]; simp), Below.refl _ _⟩
  case round =>
    obtain ⟨k, s, rfl, hk, rfl, hs, HP, hb⟩ := hrel
    by_cases hk0 : 0 < k
    · have HS := Lib.hid ((pre_step k s (.inl hk0)).trans HP.out)
      have hk1 : (0 : Int) < (k : Int) := by omega
      have hl : (UInt8.ofNat (48 + k % 10) :: s).length ≤ 30 := by
        have a1 := pre_len (k / 10) (UInt8.ofNat (48 + k % 10) :: s)
        rw [HS.out] at a1
        have := dec_len u (by omega)
        omega
      have e1 : (48 : Int) + (k : Int) % 10 = ((48 + k % 10 : Nat) : Int) := by omega
      have hcv := conv1 wr (48 + k % 10) (by omega)
      rw [← e1] at hcv
      clear e1
      generalize UInt8.ofNat (48 + k % 10) = c at *
      have hno := bts_room c s hs
      have HB := Lib.hid (bts_cons c s)
      go_wp2_with fail
      go_roundw
      case rel => exact ⟨k / 10, c :: s, by go_num, by omega, by rw [← HB.out], hl, HS, hb.alloc hb.size _⟩
      case measure => simp [intOf, bts_size]; omega
    · obtain rfl : k = 0 := by omega
      by_cases hs0 : s = []
      · subst hs0
        have HS := Lib.hid ((pre_step 0 [] (.inr rfl)).trans HP.out)
        have he : (bts []).toList.isEmpty = true := by rw [Lib.toList_data, bts_list]; rfl
        have hcv := conv1 wr 48 (by omega)
        have hno := bts_room 48 [] hs
        have HB := Lib.hid (bts_cons 48 [])
        have hcv2 : (convert 91 9 (.slice (some ⟨wr.heap.size, 0, none⟩) 1 1)).run Tryd.prog (wr.alloc (.cells #[.int .u8 48] 5)) = .ok (.string (bts [48])) (wr.alloc (.cells #[.int .u8 48] 5)) := hcv
        clear hcv
        go_wp2_with fail
        go_roundw
        case rel => exact ⟨0, [48], by go_num, by omega, congrArg Value.string HB.out, by simp, HS, hb.alloc hb.size _⟩
        case measure => simp [intOf, bts_size]
      · have he : (bts s).toList.isEmpty = false := by
          rw [Lib.toList_data, bts_list]; cases s with
          | nil => exact absurd rfl hs0
          | cons a l => rfl
        have HS : Hid (bts s = bts (Lib.itoa u)) := Lib.hid (by
          have := HP.out
          unfold pre at this
          rw [if_pos ⟨rfl, hs0⟩] at this
          rw [this, HD.out]; rfl)
        go_wp2_with fail
        go_ret
        exact ⟨by rw [← HS.out]; rfl, hb⟩
end Go.Proofs.YtocdinaomkmcbaaDoor
