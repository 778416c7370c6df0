/-
  The digits of ten to the fifteenth, laid and trimmed.
-/
import Derived.Test.YtndkmcpjlakigaaDoorB
import Derived.Test.YtndkmcpjlakigaaDoorShelf
import Derived.Lib.OwnBridge
namespace Go.Proofs.YtndkmcpjlakigaaDoor
open Go.ChangeShapes Go.WideShapes Go.ChangeAt Go.RowKit Go.Sort
set_option linter.unusedVariables false

def bE (b : UInt8) : Value := .int .u8 (b.toNat : Int)
theorem dg_first : Lib.dg 1000000000000000 15 = 49 := by decide +kernel
theorem dg_rest : ∀ j : Fin 15, Lib.dg 1000000000000000 j.val = 48 := by decide +kernel
/-- What the digits leave: a one, noughts behind it; nothing ahead of the block has turned. -/
structure Dig (B n : Nat) (w W : World) : Prop where
  one : W.cell? ⟨B, 0, none⟩ = some (.int .u8 49)
  rest : ∀ j, 1 ≤ j → j < 16 → W.cell? ⟨B, j, none⟩ = some (.int .u8 48)
  below : Below n w W
theorem base_any (T : TypeId) (B n : Nat) (w : World) (hn : n ≤ B) (hB : w.heap[B]? = some (.cells (Array.replicate 32 (.int .u8 0)) T (0, 0))) :
    Calls Tryd.prog 54 #[.slice (some ⟨B, 0, none⟩) 16 32, .int .u64 1000000000000000] w fun e w' => e = .returned (.tuple #[]) ∧ Dig B n w w' := by
  have hH : Holds (fun (b : UInt8) => Value.int .u8 (b.toNat : Int)) w B 0 (Array.replicate 16 0) := fun j hj => by
    have hj' : j < 16 := by simpa using hj
    refine ⟨?_, by simp [World.frozen?, hB]⟩
    simp [World.cell?, hB, show j < 32 by omega, hj', getElem!_pos]
  have hlt := (Array.getElem?_eq_some_iff.1 hB).1
  refine (Tryd.internal_strconv_formatBase10 B 0 32 1000000000000000 (Array.replicate 16 0) w hH (by simp) (by decide) (by simp)).mono fun e w' h => ?_
  obtain ⟨h1, n1, v1, dk, rfl, hI⟩ := h
  have hsz : dk.size = 16 := hI.size.trans (by simp)
  have hdk : ∀ t, t < 16 → dk[t]! = Lib.dg 1000000000000000 (15 - t) := fun t ht => by
    have := hI.done t (Nat.zero_le _) (by simpa using ht)
    simpa using this
  have hc : ∀ j, j < 16 → ((putRow (fun (b : UInt8) => Value.int .u8 (b.toNat : Int)) w B 0 dk).drewN n1).cell? ⟨B, j, none⟩ = some (.int .u8 ((dk[j]!).toNat : Int)) := fun j hj => by
    have := cell?_putRow (fun (b : UInt8) => Value.int .u8 (b.toNat : Int)) w B 0 (Array.replicate 16 0) dk hH (by simp [hsz]) j (by omega)
    simpa using this
  refine ⟨h1, ?_, fun j h1 h2 => ?_, ?_⟩
  · rw [hc 0 (by omega), hdk 0 (by omega), dg_first]; rfl
  · rw [hc j h2, hdk j h2, dg_rest ⟨15 - j, by omega⟩]; rfl
  · have h2 := Lib.below_putRow (enc := fun (b : UInt8) => Value.int .u8 (b.toNat : Int)) (q := 0) (d := dk) (Below.refl n w) hn
    simp at h2
    exact below_drewN h2 n1

set_option maxRecDepth 100000 in
set_option maxHeartbeats 2000000 in
theorem digits_any (T : TypeId) (B n : Nat) (p q : Int) (hp : (p = -10 ∧ q = 6) ∨ (p = -9 ∧ q = 7)) (w : World) (hn : n ≤ B) (hB : w.heap[B]? = some (.cells (Array.replicate 32 (.int .u8 0)) T (0, 0))) :
    Calls Tryd.prog 31 #[.slice (some ⟨B, 0, none⟩) 32 32, .int .u64 1000000000000000, .int .i64 p, .int .i64 16] w fun e w' => e = .returned (.tuple #[.int .i64 q, .int .i64 1]) ∧ w'.cell? ⟨B, 0, none⟩ = some (.int .u8 49) ∧ Below n w w' := by
  have hB1 := Lib.hid (base_any T B n w hn hB)
  clear hB
  rcases hp with ⟨rfl, rfl⟩ | ⟨rfl, rfl⟩
  all_goals
    go_enter Tryd.func31, Tryd.ntmps31
    go_wp2_with ((go_at_call 54; (with_reducible refine hB1.out.mono ?_); rintro e W ⟨rfl, hD⟩))
    obtain ⟨c0, cr, hbl⟩ := hD
    have HR := Lib.hid cr
    clear cr
    go_loop [3] (fun t => ∃ k : Nat, t = .int .i64 (k : Int) ∧ 1 ≤ k ∧ k ≤ 16) (fun t => (intOf t).toNat)
    case atStart => exact ⟨16, rfl, by omega, by omega⟩
    case round =>
      obtain ⟨k, rfl, h1, h2⟩ := hrel
      have hk0 : (0 : Int) < (k : Int) := by omega
      by_cases hk : k = 1
      · subst hk
        go_wp2
        go_ret2
        exact ⟨rfl, c0, hbl⟩
      · have ck := HR.out (k - 1) (by omega) (by omega)
        have e1 : ((k : Int) - 1).toNat = k - 1 := by omega
        have e2 : (0 : Int) ≤ (k : Int) - 1 := by omega
        have e3 : (k : Int) - 1 < 32 := by omega
        go_wp2
        go_round
        case rel => exact ⟨k - 1, by go_num, by omega, by omega⟩
        case measure => simp [intOf]; omega
end Go.Proofs.YtndkmcpjlakigaaDoor
