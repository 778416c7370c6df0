/-
  The contracts of Front and Unquote.
-/
import Derived.Test.YtdfhpblceoaofaaDoorRQ
import Derived.Deep.RegionWith
namespace Go.Proofs.YtdfhpblceoaofaaDoor
open Go.ChangeShapes Go.WideShapes Go.ChangeAt Go.RowKit Go.Shelf
set_option linter.unusedVariables false

/-- What Front returns. -/
def FRs (s : ByteArray) (e : Ending) : Prop :=
  (∃ u : ByteArray, qtA u <+: s.data.toList ∧ (∀ v : ByteArray, qtA v <+: s.data.toList → v = u) ∧ e = .returned (.tuple #[.string u, .int .i64 ((qtA u).length : Int), .int .i64 0])) ∨
  ((∀ u : ByteArray, ¬ qtA u <+: s.data.toList) ∧ e = .returned (.tuple #[.string ⟨#[]⟩, .int .i64 0, .int .i64 4]))

theorem front_no {s t : ByteArray} {n : Nat} (hn : n ≤ s.size) (h : ∀ u : ByteArray, qtA u <+: s.data.toList → true = true ∧ u = t ∧ n = (qtA u).length) (hne : ¬ (⟨(qtA t).toArray⟩ : ByteArray).toList = (s.extract 0 n).toList) (u : ByteArray) : ¬ qtA u <+: s.data.toList := by
  intro hu
  obtain ⟨_, rfl, hl⟩ := h u hu
  apply hne
  rw [toL, toL, ByteArray.data_extract, Array.toList_extract]
  have := List.prefix_iff_eq_take.1 hu
  simp only [List.extract, List.drop_zero, Nat.sub_zero]
  rw [hl]; exact this
theorem front_yes {s t : ByteArray} {n : Nat} (hn : n ≤ s.size) (he : (⟨(qtA t).toArray⟩ : ByteArray).toList = (s.extract 0 n).toList) : qtA t <+: s.data.toList ∧ n = (qtA t).length := by
  rw [toL, toL, ByteArray.data_extract, Array.toList_extract] at he
  simp only [List.extract, List.drop_zero, Nat.sub_zero] at he
  have e : qtA t = s.data.toList.take n := by simpa using he
  refine ⟨by rw [e]; exact List.take_prefix _ _, ?_⟩
  rw [e, List.length_take, lenL]; omega

set_option maxRecDepth 100000 in
set_option maxHeartbeats 4000000 in
theorem front_any (s : ByteArray) (w : World) (h2 : 2 ≤ w.heap.size) (hT : Lib.Utf8Tabs 0 1 w) (hsz : s.size ≤ 1099511627776) :
    Calls Tryd.prog 23 #[.string s] w fun e W' => FRs s e ∧ Below w.heap.size w W' := by
  go_enter Tryd.func23, Tryd.ntmps23
  go_wp2_with fail
  refine (readQuotes_any s w hsz).mono ?_
  rintro e W1 ⟨⟨t, m, ok, rfl, hm, ht, hu⟩, hB1⟩
  have hz := hB1.size
  cases ok
  · have E : Hid (∀ u : ByteArray, ¬ qtA u <+: s.data.toList) := Lib.hid (fun u h => absurd (hu u h).1 (by decide))
    clear hu
    go_wp2_with fail
    go_quiet (fail)
    go_wp2
    go_ret3
    exact ⟨.inr ⟨E.out, rfl⟩, hB1.trans (below_drewN _ _ _)⟩
  · have ex : ∃ Q : ByteArray, Q = ⟨(qtA t).toArray⟩ := ⟨_, rfl⟩
    obtain ⟨Q, hQ⟩ := ex
    have hq := fun W2 (h : W1.heap.size ≤ W2.heap.size) (hb : Below w.heap.size w W2) => callsIn_wide.1 (quote_in 3 (Nat.le_refl _) t W2 (by omega) (tabs_below hT hb h2) (by omega))
    rw [← hQ] at hq
    have hmi : (m : Int) ≤ (s.size : Int) := by omega
    by_cases hc : Q.toList = (s.extract 0 m).toList
    · have Y := Lib.hid (front_yes hm (by rw [← hQ]; exact hc))
      have U : Hid (∀ v : ByteArray, qtA v <+: s.data.toList → v = t) := Lib.hid (fun v h => (hu v h).2.1)
      clear hu hQ
      go_wp2_with fail
      go_region_with (go_at_call 18; refine (hq _ (by simp) (by first | exact hB1.drew | exact hB1)).mono ?_; rintro e W2 ⟨rfl, hB2⟩)
      all_goals go_wp2
      all_goals go_ret3
      all_goals exact ⟨.inl ⟨t, Y.out.1, U.out, by rw [← Y.out.2]; rfl⟩, hB1.drew.trans (hB2.mono (by simpa using hz))⟩
    · have E := Lib.hid (front_no hm hu (by rw [← hQ]; exact hc))
      clear hu hQ
      go_wp2_with fail
      go_region_with (go_at_call 18; refine (hq _ (by simp) (by first | exact hB1.drew | exact hB1)).mono ?_; rintro e W2 ⟨rfl, hB2⟩)
      all_goals go_wp2
      all_goals go_ret3
      all_goals first
        | exact ⟨.inr ⟨E.out, rfl⟩, hB1.drew.trans (hB2.mono (by simpa using hz))⟩
        | contradiction
        | (exfalso; exact hc (by simpa using ‹(!Q.toList == (s.extract 0 m).toList) = false›))
/-- What Unquote returns. -/
def UQs (s : ByteArray) (e : Ending) : Prop :=
  (∃ u : ByteArray, qtA u = s.data.toList ∧ (∀ v : ByteArray, qtA v = s.data.toList → v = u) ∧ e = .returned (.tuple #[.string u, .int .i64 0])) ∨
  ((∀ u : ByteArray, ¬ qtA u = s.data.toList) ∧ e = .returned (.tuple #[.string ⟨#[]⟩, .int .i64 4]))
set_option maxRecDepth 100000 in
set_option maxHeartbeats 4000000 in
theorem unquote_any (s : ByteArray) (w : World) (h2 : 2 ≤ w.heap.size) (hT : Lib.Utf8Tabs 0 1 w) (hsz : s.size ≤ 1099511627776) :
    Calls Tryd.prog 21 #[.string s] w fun e W' => UQs s e ∧ Below w.heap.size w W' := by
  go_enter Tryd.func21, Tryd.ntmps21
  go_wp2_with fail
  refine (front_any s w h2 hT hsz).mono ?_
  rintro e W1 ⟨⟨u, hp, hu, rfl⟩ | ⟨hu, rfl⟩, hB1⟩
  · by_cases hl : (qtA u).length = s.size
    · have Y := Lib.hid (List.IsPrefix.eq_of_length hp (by rw [lenL]; exact hl))
      have U := Lib.hid hu
      have hle : (((qtA u).length : Int) == (s.size : Int)) = true := by simp; omega
      go_wp2
      go_ret2
      exact ⟨.inl ⟨u, Y.out, fun v hv => U.out v (by rw [hv]; exact List.prefix_refl _), rfl⟩, hB1⟩
    · have E : Hid (∀ v : ByteArray, ¬ qtA v = s.data.toList) := Lib.hid (fun v hv => by
        have := hu v (by rw [hv]; exact List.prefix_refl _)
        subst this
        exact hl (by rw [hv, lenL]))
      clear hu hp
      have hle : (((qtA u).length : Int) == (s.size : Int)) = false := by simp; omega
      go_wp2
      go_ret2
      exact ⟨.inr ⟨E.out, rfl⟩, hB1⟩
  · have E : Hid (∀ v : ByteArray, ¬ qtA v = s.data.toList) := Lib.hid (fun v hv => hu v (by rw [hv]; exact List.prefix_refl _))
    clear hu
    go_wp2
    go_ret2
    exact ⟨.inr ⟨E.out, rfl⟩, hB1⟩
end Go.Proofs.YtdfhpblceoaofaaDoor
