/-
  The contract of the document's own Front, given that of its Unquote.
-/
import Derived.Test.YtdfhpblceoaofaaDoorRV
namespace Go.Proofs.YtdfhpblceoaofaaDoor
open Go.ChangeShapes Go.WideShapes Go.ChangeAt Go.RowKit Go.Shelf
set_option linter.unusedVariables false

/-- What is left of quotes that begin a text, at a place. -/
def Scan (s : ByteArray) (i : Nat) : Prop :=
  ∀ u : ByteArray, qtA u <+: s.data.toList → ∃ q t rest, s.data.toList.drop i = q ++ 34 :: rest ∧ QB q t ∧ i + q.length + 1 = (qtA u).length
theorem scan_start (s : ByteArray) : Scan s 1 := fun u hu => by
  obtain ⟨q, t, rest, h1, h2, _, h4⟩ := left_start s u hu
  exact ⟨q, t, rest, h1, h2, h4⟩
theorem hexd_plain : ∀ n < 16, hexd n ≠ 34 ∧ hexd n ≠ 92 := by decide
theorem scan_one {s : ByteArray} {i : Nat} (h : Scan s i) (hi : i < s.size) (h3 : s[i]'hi ≠ 34) (h9 : s[i]'hi ≠ 92) : Scan s (i + 1) := by
  intro u hu
  obtain ⟨q, t, rest, e, hQ, hl⟩ := h u hu
  have h0 := drop0 s i hi
  rw [e] at h0
  have hd : s.data.toList.drop (i + 1) = (q ++ 34 :: rest).drop 1 := by rw [← e, List.drop_drop]
  cases hQ with
  | nil => simp at h0; exact absurd h0.symm h3
  | plain a b hq => exact ⟨_, _, rest, by rw [hd]; rfl, hq, by simp at hl; omega⟩
  | esc _ _ => simp at h0; exact absurd h0.symm h9
  | hex _ => simp at h0; exact absurd h0.symm h9
theorem scan_two {s : ByteArray} {i : Nat} (h : Scan s i) (hi : i < s.size) (h9 : s[i]'hi = 92) : Scan s (i + 2) := by
  intro u hu
  obtain ⟨q, t, rest, e, hQ, hl⟩ := h u hu
  have h0 := drop0 s i hi
  rw [e, h9] at h0
  have hd : s.data.toList.drop (i + 2) = (q ++ 34 :: rest).drop 2 := by rw [← e, List.drop_drop]
  cases hQ with
  | nil => simp at h0
  | plain a b hq => simp at h0; exact absurd h0 b
  | esc _ hq => exact ⟨_, _, rest, by rw [hd]; rfl, hq, by simp at hl; omega⟩
  | @hex c q' t' hq =>
    have hc := UInt8.toNat_lt c
    exact ⟨hexd (c.toNat / 16) :: hexd (c.toNat % 16) :: q', _, rest, by rw [hd]; rfl, .plain (hexd_plain _ (by omega)).1 (hexd_plain _ (by omega)).2 (.plain (hexd_plain _ (by omega)).1 (hexd_plain _ (by omega)).2 hq), by simp at hl ⊢; omega⟩
theorem scan_none {s : ByteArray} {i : Nat} (h : Scan s i) (hi : s.size ≤ i) (u : ByteArray) : ¬ qtA u <+: s.data.toList := by
  intro hu
  obtain ⟨q, t, rest, e, _⟩ := h u hu
  rw [List.drop_eq_nil_of_le (by rw [lenL]; omega)] at e
  simp at e
theorem scan_close {s : ByteArray} {i : Nat} (h : Scan s i) (hi : i < s.size) (h3 : s[i]'hi = 34) (u : ByteArray) (hu : qtA u <+: s.data.toList) : qtA u = (s.extract 0 (i + 1)).data.toList := by
  obtain ⟨q, t, rest, e, hQ, hl⟩ := h u hu
  have h0 := drop0 s i hi
  rw [e, h3] at h0
  obtain ⟨rfl, rfl⟩ := qb_head hQ h0
  have := List.prefix_iff_eq_take.1 hu
  rw [ByteArray.data_extract, Array.toList_extract]
  simp only [List.extract, List.drop_zero, Nat.sub_zero]
  simp at hl
  rw [hl]; exact this
theorem ext_prefix {s : ByteArray} {i : Nat} (hi : i < s.size) {u : ByteArray} (h : qtA u = (s.extract 0 (i + 1)).data.toList) : qtA u <+: s.data.toList ∧ i + 1 = (qtA u).length := by
  rw [ByteArray.data_extract, Array.toList_extract] at h
  simp only [List.extract, List.drop_zero, Nat.sub_zero] at h
  rw [h]
  exact ⟨List.take_prefix _ _, by rw [List.length_take, lenL]; omega⟩

set_option maxRecDepth 100000 in
set_option maxHeartbeats 4000000 in
theorem rfront_of (hU : ∀ (s : ByteArray) (w : World), s.size ≤ 1099511627776 → Calls Tryd.prog 20 #[.string s] w fun e W' => UQs s e ∧ Below w.heap.size w W') (s : ByteArray) (w : World) (hsz : s.size ≤ 1099511627776) :
    Calls Tryd.prog 22 #[.string s] w fun e W' => FRs s e ∧ Below w.heap.size w W' := by
  have hst := Lib.hid (scan_start s)
  go_enter Tryd.func22, Tryd.ntmps22
  go_wp2
  go_loopw [5] (fun v wr => ∃ i : Nat, v = .int .i64 i ∧ 1 ≤ i ∧ i ≤ s.size + 1 ∧ Hid (Scan s i) ∧ w = wr) (fun v _ => s.size + 2 - (intOf v).toNat)
  case atStart => exact ⟨1, rfl, Nat.le_refl _, by omega, hst, rfl⟩
  case round =>
    obtain ⟨i, rfl, hi1, his, hS, rfl⟩ := hrel
    by_cases hlt : i < s.size
    · have hc := lt256 (s[i]'hlt)
      by_cases h3 : s[i]'hlt = 34
      · have hn3 : ((s[i]'hlt).toNat : Int) = 34 := by rw [h3]; rfl
        have C := Lib.hid (scan_close hS.out hlt h3)
        have hes : (s.extract 0 (i + 1)).size ≤ 1099511627776 := by rw [ByteArray.size_extract]; omega
        clear h3
        go_wp2_with fail
        refine (hU (s.extract 0 (i + 1)) w hes).mono ?_
        rintro e W1 ⟨⟨u, hu, hun, rfl⟩ | ⟨hu, rfl⟩, hB1⟩
        · have P := Lib.hid (ext_prefix hlt hu)
          have V : Hid (∀ v : ByteArray, qtA v <+: s.data.toList → v = u) := Lib.hid (fun v hv => hun v (C.out v hv))
          clear hu hun
          go_wp2
          go_ret3
          exact ⟨.inl ⟨u, P.out.1, V.out, by rw [← P.out.2]; rfl⟩, hB1⟩
        · have E : Hid (∀ v : ByteArray, ¬ qtA v <+: s.data.toList) := Lib.hid (fun v hv => hu v (C.out v hv))
          clear hu
          go_wp2
          go_ret3
          exact ⟨.inr ⟨E.out, rfl⟩, hB1⟩
      · have hn3 : (((s[i]'hlt).toNat : Int) == 34) = false := u8i (n := 34) (by decide) h3
        have hn3' : ¬ ((s[i]'hlt).toNat : Int) = 34 := by simpa using hn3
        by_cases h9 : s[i]'hlt = 92
        · have hn9 : ((s[i]'hlt).toNat : Int) = 92 := by rw [h9]; rfl
          have N := Lib.hid (scan_two hS.out hlt h9)
          clear h3 h9
          go_wp2
          exact ⟨⟨i + 2, by go_num, by omega, by omega, N, trivial⟩, by simp [intOf]; omega⟩
        · have hn9 : (((s[i]'hlt).toNat : Int) == 92) = false := u8i (n := 92) (by decide) h9
          have N := Lib.hid (scan_one hS.out hlt h3 h9)
          clear h3 h9
          go_wp2
          exact ⟨⟨i + 1, by go_num, by omega, by omega, N, trivial⟩, by simp [intOf]; omega⟩
    · have E := Lib.hid (scan_none hS.out (by omega))
      go_wp2
      go_ret3
      exact ⟨.inr ⟨E.out, rfl⟩, Below.refl _ _⟩
end Go.Proofs.YtdfhpblceoaofaaDoor
