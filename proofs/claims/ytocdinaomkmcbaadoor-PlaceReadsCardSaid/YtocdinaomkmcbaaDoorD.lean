/-
  same says yes of two slices that read as one list; lent, kept, spoil.
-/
import Derived.Test.YtocdinaomkmcbaaDoorC
namespace Go.Proofs.YtocdinaomkmcbaaDoor
open Go.ChangeShapes Go.WideShapes Go.ChangeAt Go.RowKit
set_option linter.unusedVariables false

theorem At.drewN {w : World} {A : Option Addr} {l : List Pl} (h : At w A l) (n : Nat) : At (w.drewN n) A l := h

set_option maxRecDepth 100000 in
set_option maxHeartbeats 3200000 in
theorem same_any (A B : Option Addr) (ca cb : Nat) (l : List Pl) (w : World) (hA : At w A l) (hB : At w B l) (hn : l.length ≤ 5864062014634) :
    Calls Tryd.prog 21 #[.slice A l.length ca, .slice B l.length cb] w fun e w' => e = .returned (.bool true) ∧ ∃ m, w' = w.drewN m := by
  have HL := Lib.hid (rfl : l.length = l.length)
  generalize hlen : l.length = n at *
  have HN := Lib.hid hlen
  clear hlen HL
  go_enter Tryd.func21, Tryd.ntmps21
  go_wp2
  go_loopw [5] (fun t wr => ∃ k m : Nat, t = .int .i64 k ∧ k ≤ n ∧ wr = w.drewN m) (fun t _ => n - (intOf t).toNat)
  case atStart => exact ⟨0, 0, rfl, by omega, rfl⟩
  case round =>
    obtain ⟨k, m, rfl, hk, rfl⟩ := hrel
    by_cases hlt : k < n
    · have hp : ∃ p, l[k]? = some p := ⟨_, List.getElem?_eq_getElem (by rw [HN.out]; exact hlt)⟩
      obtain ⟨p, hp⟩ := hp
      have hA' := hA
      have hB' := hB
      obtain ⟨g, o, rfl, c0, c1⟩ := hA' k p hp
      obtain ⟨g', o', rfl, c2, c3⟩ := hB' k p hp
      have hk0 : (0 : Int) ≤ (k : Int) := Int.natCast_nonneg _
      have hk1 : (k : Int) < (n : Int) := by omega
      clear hp hA hB hA' hB'
      go_wp2_with fail
      go_quiet (fail)
      go_wp2
      go_roundw
      case rel => exact ⟨k + 1, _, by go_num, by omega, rfl⟩
      case measure => simp [intOf]; omega
    · go_wp2
      go_ret
      exact ⟨rfl, m, rfl⟩
theorem own_cap {w : World} {base size g n cap : Nat} {e : TypeId} {xs : List Value} (h : w.ownsRow base e size (.slice (some ⟨g, 0, none⟩) n cap) n xs) : n ≤ cap ∧ cap ≤ maxLen := by
  rcases h.2 with ⟨h', _⟩ | ⟨g', cap', cur, h', _, _, h1, h2, _⟩
  · simp at h'
  · simp only [Value.slice.injEq, Option.some.injEq, Addr.mk.injEq, and_true, true_and] at h'
    obtain ⟨rfl, rfl⟩ := h'
    exact ⟨h1, h2⟩
def markP : Pl := (⟨#[35]⟩, 7)
theorem grown_trans {w w1 w2 : World} {row row2 : Option Nat} (h : w.grownBy w1 row) (k : w1.grownBy w2 row2) (hr : ∀ j, row2 = some j → row = some j ∨ w.heap.size ≤ j) : w.grownBy w2 row :=
  ⟨k.os.trans h.os, k.tape.trans h.tape, k.output.trans h.output, Nat.le_trans h.size k.size, fun j hj hne => (k.block j (Nat.lt_of_lt_of_le hj h.size) (fun e => by
    rcases hr j e.symm with h' | h'
    · exact hne h'.symm
    · omega)).trans (h.block j hj hne)⟩

set_option maxRecDepth 100000 in
set_option maxHeartbeats 3200000 in
theorem lent_any (A : Option Addr) (cap : Nat) (l : List Pl) (w : World) (hA : At w A l) (hn : l.length ≤ 5864062014634) :
    Calls Tryd.prog 10 #[.slice A l.length cap] w fun e w' => ∃ g cap', e = .returned (.slice (some ⟨g, 0, none⟩) l.length cap') ∧ w'.ownsRow w.heap.size 48 2 (.slice (some ⟨g, 0, none⟩) (l.length + 1) cap') (l.length + 1) (flat (l ++ [markP])) ∧ Below w.heap.size w w' := by
  obtain ⟨i0, hi0, hz0, hz1, hz2⟩ := info_parts info48
  have H1 := Lib.hid (own_any A cap l w hA hn)
  rw [flat_snoc]
  generalize hlen : l.length = n at *
  generalize flat l = xs at *
  clear hlen hA
  go_enter Tryd.func10, Tryd.ntmps10
  go_wp2_with fail
  refine H1.out.mono ?_
  rintro e W ⟨v, rfl, hown, hB⟩
  have hz := hB.size
  go_wp2_with (at_builtin; refine wpList_append_lies _ rfl _ _ _ rfl w.heap.size 48 i0 _ 2 24 Tryd.underlying23 hi0 hz0 hz1 hz2 rfl (by omega) v n xs rfl (hown.alloc _) ⟨W.heap.size, 0, none⟩ 1 1 (cel markP) rfl rfl (World.news_of_block (cs := #[.string ⟨#[35]⟩, .int .i64 7]) (t := 48) (fr := (0, 0)) (heap_alloc_new W _)) (by simp [cel, Value.oneCell', markP]) (by omega) (by unfold maxLen; omega) (by omega) (by simp; omega) (W.heap.size + 1) (by simp) ?_; intro gg cap' w1 hown1 hgrow hat hlt1; obtain ⟨hc1, hc2⟩ := own_cap hown1; have hc3 : n ≤ cap' := Nat.le_of_succ_le hc1)
  go_ret
  exact ⟨gg, cap', by simp, hown1, Below.grown (hB.alloc hz _) hgrow (by simp; omega) (fun j hj => (hown.lt j hj).1)⟩
end Go.Proofs.YtocdinaomkmcbaaDoor
