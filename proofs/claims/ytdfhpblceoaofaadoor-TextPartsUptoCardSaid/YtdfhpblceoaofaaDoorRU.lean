/-
  The contracts of the document's own digit, Unquote, Front.
-/
import Derived.Test.YtdfhpblceoaofaaDoorFR
namespace Go.Proofs.YtdfhpblceoaofaaDoor
open Go.ChangeShapes Go.WideShapes Go.ChangeAt Go.RowKit Go.Shelf
set_option linter.unusedVariables false

theorem dg_hit {x : UInt8} {i : Nat} (hno : ∀ j < i, ¬ x = hexd j) (hi : i < 16) (h : x = hexd i) : dg x = (i : Int) := by
  subst h; exact dg_hex i hi
theorem dg_miss {x : UInt8} (hno : ∀ j < 16, ¬ x = hexd j) : dg x = -1 := by
  have h := dg_ge x
  have h2 := dg_le x
  rcases Int.lt_or_le (dg x) 0 with h' | h'
  · omega
  · obtain ⟨n, hn⟩ : ∃ n : Nat, dg x = (n : Int) := ⟨(dg x).toNat, by omega⟩
    have h3 := (Lib.indexByte_some hn).1
    have hn16 : n < 16 := by omega
    exfalso; apply hno n hn16
    have : ∀ k < 16, digL[k]? = some (hexd k) := by decide
    rw [this n hn16] at h3; cases h3; rfl
theorem hexI : ∀ j < 16, ∀ x : UInt8, ¬ x = hexd j → (((hexd j).toNat : Int) == (x.toNat : Int)) = false := by
  intro j hj x h
  simp
  intro e; apply h; exact (UInt8.toNat_inj.1 (by omega))

set_option maxRecDepth 100000 in
set_option maxHeartbeats 4000000 in
theorem digit_any (x : UInt8) (w : World) :
    Calls Tryd.prog 41 #[.int .u8 (x.toNat : Int)] w fun e W' => e = .returned (.int .i64 (dg x)) ∧ W' = w := by
  go_enter Tryd.func41, Tryd.ntmps41
  go_wp2
  go_loopw [3] (fun v wr => ∃ i : Nat, v = .int .i64 i ∧ i ≤ 16 ∧ Hid (∀ j < i, ¬ x = hexd j) ∧ wr = w) (fun v _ => 16 - (intOf v).toNat)
  case atStart => exact ⟨0, rfl, by omega, fun j h => by omega, rfl⟩
  case round =>
    obtain ⟨i, rfl, hi, hno, rfl⟩ := hrel
    by_cases hlt : i < 16
    · have hh := hex_at i hlt
      by_cases hx : x = hexd i
      · have D := Lib.hid (dg_hit hno.out hlt hx)
        have hx' : ((({ data := #[48, 49, 50, 51, 52, 53, 54, 55, 56, 57, 97, 98, 99, 100, 101, 102] } : ByteArray)[i]'hlt).toNat : Int) = (x.toNat : Int) := by rw [hh, hx]
        clear hx hh
        go_wp2
        go_ret
        exact ⟨by rw [D.out]; rfl, rfl⟩
      · have hx' : (((({ data := #[48, 49, 50, 51, 52, 53, 54, 55, 56, 57, 97, 98, 99, 100, 101, 102] } : ByteArray)[i]'hlt).toNat : Int) == (x.toNat : Int)) = false := by rw [hh]; exact hexI i hlt x hx
        have N : Hid (∀ j < i + 1, ¬ x = hexd j) := Lib.hid (fun j hj => by
          rcases Nat.lt_or_ge j i with h | h
          · exact hno.out j h
          · rw [show j = i by omega]; exact hx)
        clear hx hh
        go_wp2
        exact ⟨⟨i + 1, by go_num, hlt, N, trivial⟩, by simp [intOf]; omega⟩
    · have D := Lib.hid (dg_miss (x := x) (fun j hj => hno.out j (by omega)))
      go_wp2
      go_ret
      exact ⟨by rw [D.out]; rfl, rfl⟩
end Go.Proofs.YtdfhpblceoaofaaDoor
