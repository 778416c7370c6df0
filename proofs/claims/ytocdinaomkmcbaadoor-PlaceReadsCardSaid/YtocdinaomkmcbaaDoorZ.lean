/-
  Lists of places and of texts that a row hands in.
-/
import Derived.Test.YtocdinaomkmcbaaDoorY
import Derived.Carry
namespace Go.Proofs.YtocdinaomkmcbaaDoor
open Go.ChangeShapes Go.WideShapes Go.ChangeAt Go.RowKit Go.Shelf
open Go.Deep (open_slice_pairs open_strs choose_lt)
set_option linter.unusedVariables false

theorem add_cell {w : World} {a : Addr} {v : Value} (h : w.cell? (a.add (0 * 2)) = some v) : ∃ g o, a = ⟨g, o, none⟩ := by
  have hs := World.cell?_spot h
  obtain ⟨g, o, sp⟩ := a
  have : sp = none := by simpa [Addr.add] using hs
  subst this
  exact ⟨g, o, rfl⟩
set_option maxRecDepth 100000 in
theorem open_spots {H : Type} {enc : TypeId × Value → H} {W : World} {base : Nat} {sp : Nat → Bool} {t : TypeId} {v : Value} {d : DataW H} {p : List MemPlace} (ht : Tryd.prog.underlying t = some (.slice 104)) (hok : Value.okWide Tryd.prog W .any base t v) (h : DataW.Trod enc Tryd.prog W 0 sp true t v d p) :
    ∃ (A : Option Addr) (cap : Nat) (l : List Pl), v = .slice A l.length cap ∧ At W A l ∧ ((d = .nil ∧ l = [] ∧ A = none ∧ cap = 0) ∨ ∃ elems spare, d = .slice elems spare ∧ elems.length = l.length ∧ l.length ≤ cap ∧ (∀ x ∈ elems, ∃ (s : List UInt8) (n : Int), x = .agg [.lit (.string s), .lit (.int .i64 n)])) := by
  obtain ⟨a, len, cap, rfl⟩ := okWide_slice ht hok
  obtain ⟨fuel, hf⟩ := h
  have hcs : (Value.slice a len cap).cells.toList = [.slice a len cap] := rfl
  rw [hcs] at hf
  clear hcs
  rcases open_slice_pairs ht Tryd.underlying104 cells104 rfl rfl cells9 cells3 hf with ⟨hc, hx⟩ | ⟨a', len', cap', m, n, V0, V1, D0, D1, P0, P1, hc, _, hl, hm, hmm, hx, hall⟩
  · simp only [List.cons.injEq, Value.slice.injEq, and_true] at hc
    obtain ⟨rfl, rfl, rfl⟩ := hc
    simp only [Prod.mk.injEq] at hx
    exact ⟨none, 0, [], rfl, fun i p hp => by simp at hp, .inl ⟨hx.1, rfl, rfl, rfl⟩⟩
  · simp only [List.cons.injEq, Value.slice.injEq, and_true] at hc
    obtain ⟨rfl, rfl, rfl⟩ := hc
    simp only [Prod.mk.injEq] at hx
    obtain ⟨rfl, rfl⟩ := hx
    have hlm : len ≤ m := by rw [hmm]; split <;> omega
    have each : ∀ i, i < len → ∃ q : Pl, V0 i = .string q.1 ∧ V1 i = .int .i64 q.2 ∧ D0 i = .lit (.string q.1.data.toList) ∧ D1 i = .lit (.int .i64 q.2) := fun i hi => by
      obtain ⟨_, _, t0, t1⟩ := hall i (by omega)
      obtain ⟨s, e1, e2, _⟩ := DataW.trod_string Tryd.underlying9 t0
      obtain ⟨k, e3, e4, _⟩ := DataW.trod_int Tryd.underlying3 t1
      simp only [Prod.mk.injEq] at e2 e4
      exact ⟨(s, k), by simpa using e1, by simpa using e3, e2.1, e4.1⟩
    haveI : Inhabited Pl := ⟨(⟨#[]⟩, 0)⟩
    obtain ⟨q, hq⟩ := choose_lt each
    have hlen : ((List.range len).map q).length = len := by simp
    refine ⟨some a', cap, (List.range len).map q, by rw [hlen], fun i p hp => ?_, .inr ⟨_, _, rfl, by simp, by rw [hlen]; exact hl, fun x hx => ?_⟩⟩
    · have hi : i < len := by have := (List.getElem?_eq_some_iff.1 hp).1; rwa [hlen] at this
      rw [List.getElem?_map, List.getElem?_range hi] at hp
      obtain rfl : q i = p := by simpa using hp
      obtain ⟨c0, c1, _⟩ := hall i (by omega)
      obtain ⟨q0, q1, _⟩ := hq i hi
      rw [q0] at c0
      rw [q1] at c1
      obtain ⟨g, o, rfl⟩ := add_cell (hall 0 (by omega)).1
      rw [Addr.add_lit] at c0 c1
      exact ⟨g, o, rfl, c0, by rw [Nat.add_assoc]; exact c1⟩
    · obtain ⟨i, hi, rfl⟩ := List.mem_map.1 hx
      obtain ⟨_, _, q0, q1⟩ := hq i (List.mem_range.1 hi)
      exact ⟨_, _, by rw [q0, q1]⟩
set_option maxRecDepth 100000 in
theorem open_texts {H : Type} {enc : TypeId × Value → H} {W : World} {base : Nat} {sp : Nat → Bool} {t : TypeId} {v : Value} {d : DataW H} {p : List MemPlace} (ht : Tryd.prog.underlying t = some (.slice 9)) (hok : Value.okWide Tryd.prog W .any base t v) (h : DataW.Trod enc Tryd.prog W 0 sp true t v d p) :
    ∃ (A : Option Addr) (cap : Nat) (l : List ByteArray), v = .slice A l.length cap ∧ AtS W A l ∧ ((d = .nil ∧ l = [] ∧ A = none ∧ cap = 0) ∨ ∃ elems spare, d = .slice elems spare ∧ elems.length = l.length ∧ A ≠ none) := by
  obtain ⟨a, len, cap, rfl⟩ := okWide_slice ht hok
  obtain ⟨fuel, hf⟩ := h
  have hcs : (Value.slice a len cap).cells.toList = [.slice a len cap] := rfl
  rw [hcs] at hf
  clear hcs
  rcases open_strs ht Tryd.underlying9 cells9 hf with ⟨hc, hx⟩ | ⟨a', len', cap', m, Sx, hc, _, hl, hm, hmm, hx, hall⟩
  · simp only [List.cons.injEq, Value.slice.injEq, and_true] at hc
    obtain ⟨rfl, rfl, rfl⟩ := hc
    simp only [Prod.mk.injEq] at hx
    exact ⟨none, 0, [], rfl, fun i p hp => by simp at hp, .inl ⟨hx.1, rfl, rfl, rfl⟩⟩
  · simp only [List.cons.injEq, Value.slice.injEq, and_true] at hc
    obtain ⟨rfl, rfl, rfl⟩ := hc
    simp only [Prod.mk.injEq] at hx
    obtain ⟨rfl, rfl⟩ := hx
    have hlm : len ≤ m := by rw [hmm]; split <;> omega
    have hlen : ((List.range len).map Sx).length = len := by simp
    refine ⟨some a', cap, (List.range len).map Sx, by rw [hlen], fun i p hp => ?_, .inr ⟨_, _, rfl, by simp, by simp⟩⟩
    have hi : i < len := by have := (List.getElem?_eq_some_iff.1 hp).1; rwa [hlen] at this
    rw [List.getElem?_map, List.getElem?_range hi] at hp
    obtain rfl : Sx i = p := by simpa using hp
    have c0 := (hall i (by omega)).1
    obtain ⟨g, o, rfl⟩ := add_cell (a := a') (hall 0 (by omega)).1
    rw [Addr.add_lit] at c0
    exact ⟨g, o, rfl, c0⟩
theorem laidOut : laidOutB Tryd.prog = true := by kernel_rfl
theorem reach_is : reachBytes = 140737488351232 := by decide
theorem reach_spots {k n : Nat} (h : (k + n) * 24 ≤ reachBytes) : k ≤ 5864062014634 := by rw [reach_is] at h; omega
theorem reach_texts {k n : Nat} (h : (k + n) * 16 ≤ reachBytes) : k ≤ 8796093022207 := by rw [reach_is] at h; omega
/-- The arguments in old memory as they were. -/
theorem args_same {H : Type} {enc : TypeId × Value → H} {W W' : World} (hb : Below W.heap.size W W') : ∀ (ts : List TypeId) (vs : List Value) (ds : List (DataW H)) (ps : List MemPlace), DataW.TrodAll enc Tryd.prog W 0 (fun _ => true) true ts vs ds ps →
    ts.all (fun t => Tryd.prog.readableRec t && decide (t < Tryd.prog.types.size)) = true → (∀ x ∈ ps, x.block < W.heap.size) → DataW.TrodAll enc Tryd.prog W' 0 (fun b => decide (b < W.heap.size)) true ts vs ds ps := by
  intro ts
  induction ts with
  | nil =>
    intro vs ds ps hA _ _
    obtain ⟨rfl, rfl, rfl⟩ := trodAll_nil hA
    exact trodAll_mk0
  | cons t ts ih =>
    intro vs ds ps hA hr hlt
    obtain ⟨v, vs', d, ds', p, p', rfl, rfl, rfl, h1, h2⟩ := trodAll_cons hA
    simp only [List.all_cons, Bool.and_eq_true, decide_eq_true_eq] at hr
    exact trodAll_cons_mk (Below.trod laidOut hr.1.1 hr.1.2 h1 hb (fun x hx => hlt x (by simp [hx]))) (ih vs' ds' p' h2 (by simpa using hr.2) (fun x hx => hlt x (by simp [hx])))
end Go.Proofs.YtocdinaomkmcbaaDoor
