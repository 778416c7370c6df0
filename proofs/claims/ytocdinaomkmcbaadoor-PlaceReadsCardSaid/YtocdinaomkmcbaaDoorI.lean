/-
  Prefixes: beginsWithOne and the document's begins; Clone.
-/
import Derived.Test.YtocdinaomkmcbaaDoorH
import Derived.Lib.Strings
import Derived.Lib.Slices
import Derived.Laws.Strings3
import Derived.Laws.AppendOwnNone
namespace Go.Proofs.YtocdinaomkmcbaaDoor
open Go.ChangeShapes Go.WideShapes Go.ChangeAt Go.RowKit Go.Shelf
set_option linter.unusedVariables false

/-- The cells of texts behind an address. -/
def AtS (w : World) (A : Option Addr) (l : List ByteArray) : Prop :=
  ∀ i s, l[i]? = some s → ∃ g o, A = some ⟨g, o, none⟩ ∧ w.cell? ⟨g, o + i, none⟩ = some (.string s)
theorem AtS.below {w w' : World} {A : Option Addr} {l : List ByteArray} {B : Nat} (h : AtS w A l) (hb : Below B w w') (hB : w.heap.size ≤ B) : AtS w' A l := fun i p hp => by
  obtain ⟨g, o, rfl, c0⟩ := h i p hp
  have lg := World.block_lt_of_cell? w _ c0
  exact ⟨g, o, rfl, (hb.cell (p := ⟨g, _, none⟩) (by simp at lg ⊢; omega)).trans c0⟩
def bgn (s : ByteArray) (ps : List ByteArray) : Bool := ps.any fun p => Lib.hasPrefix s.data.toList p.data.toList
theorem bgn_yes {s : ByteArray} {ps : List ByteArray} {k : Nat} {p : ByteArray} (h : ps[k]? = some p) (hp : Lib.hasPrefix s.data.toList p.data.toList = true) : bgn s ps = true :=
  List.any_eq_true.2 ⟨p, List.mem_of_getElem? h, hp⟩
theorem any_more {s : ByteArray} {ps : List ByteArray} {k : Nat} {p : ByteArray} (h : ps[k]? = some p) (hp : Lib.hasPrefix s.data.toList p.data.toList = false) (ha : bgn s (ps.take k) = false) : bgn s (ps.take (k + 1)) = false := by
  unfold bgn at ha ⊢
  rw [List.take_add_one, h, List.any_append, ha]
  simp [hp]

set_option maxRecDepth 100000 in
set_option maxHeartbeats 1000000 in
theorem begins_any (s : ByteArray) (A : Option Addr) (cap : Nat) (ps : List ByteArray) (w : World) (hA : AtS w A ps) (hn : ps.length ≤ 8796093022207) :
    Calls Tryd.prog 57 #[.string s, .slice A ps.length cap] w fun e w' => e = .returned (.bool (bgn s ps)) ∧ w = w' := by
  have HL := Lib.hid (rfl : ps.length = ps.length)
  generalize hlen : ps.length = n at *
  have HN := Lib.hid hlen
  clear hlen HL
  go_enter Tryd.func57, Tryd.ntmps57
  go_wp2
  go_loop [9] (fun t => ∃ k : Nat, t = .int .i64 k ∧ k ≤ n ∧ Hid (bgn s (ps.take k) = false)) (fun t => n - (intOf t).toNat)
  case atStart => exact ⟨0, rfl, by omega, Lib.hid rfl⟩
  case round =>
    obtain ⟨k, rfl, hk, HK⟩ := hrel
    by_cases hlt : k < n
    · have hp : ∃ p, ps[k]? = some p := ⟨_, List.getElem?_eq_getElem (by rw [HN.out]; exact hlt)⟩
      obtain ⟨p, hp⟩ := hp
      obtain ⟨g, o, rfl, c0⟩ := hA k p hp
      have hk0 : (0 : Int) ≤ (k : Int) := Int.natCast_nonneg _
      have hk1 : (k : Int) < (n : Int) := by omega
      have hc := fun w => Tryd.strings_HasPrefix s p w
      cases hm : Lib.hasPrefix s.data.toList p.data.toList
      · have HC := Lib.hid (any_more hp hm HK.out)
        rw [hm] at hc
        have H := Lib.hid hc
        clear hm hc hp hA
        go_wp2_with fail
        refine (H.out _).mono ?_
        rintro e w1 ⟨rfl, rfl⟩
        go_wp2
        go_round
        case rel => exact ⟨k + 1, by go_num, by omega, HC⟩
        case measure => simp [intOf]; omega
      · have HC := Lib.hid (bgn_yes hp hm)
        rw [hm] at hc
        have H := Lib.hid hc
        clear hm hc hp hA
        go_wp2_with fail
        refine (H.out _).mono ?_
        rintro e w1 ⟨rfl, rfl⟩
        go_wp2
        go_ret
        exact ⟨by rw [HC.out]; rfl, rfl⟩
    · have HC := Lib.hid (show bgn s ps = false by have := HK.out; rwa [List.take_of_length_le (by rw [HN.out]; omega)] at this)
      go_wp2
      go_ret
      exact ⟨by rw [HC.out]; rfl, rfl⟩

set_option maxRecDepth 100000 in
set_option maxHeartbeats 1000000 in
theorem rbegins_any (s : ByteArray) (A : Option Addr) (cap : Nat) (ps : List ByteArray) (w : World) (hA : AtS w A ps) (hn : ps.length ≤ 8796093022207) :
    Calls Tryd.prog 59 #[.string s, .slice A ps.length cap] w fun e w' => e = .returned (.bool (bgn s ps)) ∧ w = w' := by
  have HL := Lib.hid (rfl : ps.length = ps.length)
  generalize hlen : ps.length = n at *
  have HN := Lib.hid hlen
  clear hlen HL
  go_enter Tryd.func59, Tryd.ntmps59
  go_wp2
  go_loop [5] (fun t => ∃ k : Nat, t = .int .i64 k ∧ k ≤ n ∧ Hid (bgn s (ps.take k) = false)) (fun t => n - (intOf t).toNat)
  case atStart => exact ⟨0, rfl, by omega, Lib.hid rfl⟩
  case round =>
    obtain ⟨k, rfl, hk, HK⟩ := hrel
    by_cases hlt : k < n
    · have hp : ∃ p, ps[k]? = some p := ⟨_, List.getElem?_eq_getElem (by rw [HN.out]; exact hlt)⟩
      obtain ⟨p, hp⟩ := hp
      obtain ⟨g, o, rfl, c0⟩ := hA k p hp
      have hk0 : (0 : Int) ≤ (k : Int) := Int.natCast_nonneg _
      have hk1 : (k : Int) < (n : Int) := by omega
      have hr := Lib.hasPrefix_raw s p
      by_cases hsz : p.size ≤ s.size
      · rw [decide_eq_true hsz, Bool.true_and] at hr
        cases hm : Lib.hasPrefix s.data.toList p.data.toList
        · have HC := Lib.hid (any_more hp hm HK.out)
          rw [hm] at hr
          clear hm hp hA
          go_wp2
          go_round
          case rel => exact ⟨k + 1, by go_num, by omega, HC⟩
          case measure => simp [intOf]; omega
        · have HC := Lib.hid (bgn_yes hp hm)
          rw [hm] at hr
          clear hm hp hA
          go_wp2
          go_ret
          exact ⟨by rw [HC.out]; rfl, rfl⟩
      · rw [decide_eq_false hsz, Bool.false_and] at hr
        have HC := Lib.hid (any_more hp hr.symm HK.out)
        have hsz2 : (s.size : Int) < (p.size : Int) := by omega
        clear hr hp hA
        go_wp2
        go_round
        case rel => exact ⟨k + 1, by go_num, by omega, HC⟩
        case measure => simp [intOf]; omega
    · have HC := Lib.hid (show bgn s ps = false by have := HK.out; rwa [List.take_of_length_le (by rw [HN.out]; omega)] at this)
      go_wp2
      go_ret
      exact ⟨by rw [HC.out]; rfl, rfl⟩
end Go.Proofs.YtocdinaomkmcbaaDoor
