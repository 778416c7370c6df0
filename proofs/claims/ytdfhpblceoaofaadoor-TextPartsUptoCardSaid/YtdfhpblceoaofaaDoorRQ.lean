/-
  The contracts of readQuotes, Front and Unquote.
-/
import Derived.Test.YtdfhpblceoaofaaDoorRB
namespace Go.Proofs.YtdfhpblceoaofaaDoor
open Go.ChangeShapes Go.WideShapes Go.ChangeAt Go.RowKit Go.Shelf
set_option linter.unusedVariables false

/-- What is left to be read at a place of bytes that begin with quotes. -/
def Left (s : ByteArray) (i : Nat) (pre : List UInt8) : Prop :=
  ∀ u : ByteArray, qtA u <+: s.data.toList → ∃ q t rest, s.data.toList.drop i = q ++ 34 :: rest ∧ QB q t ∧ pre ++ t = u.data.toList ∧ i + q.length + 1 = (qtA u).length
/-- What readQuotes returns. -/
def RQs (s : ByteArray) (e : Ending) : Prop :=
  ∃ (t : ByteArray) (n : Nat) (ok : Bool), e = .returned (.tuple #[.string t, .int .i64 (n : Int), .bool ok]) ∧ n ≤ s.size ∧ t.size ≤ s.size ∧ ∀ u : ByteArray, qtA u <+: s.data.toList → ok = true ∧ u = t ∧ n = (qtA u).length

theorem left_start (s : ByteArray) : Left s 1 [] := by
  rintro u ⟨r, hr⟩
  refine ⟨qtL u (LS u 0), u.data.toList, r, ?_, qtA_QB u, rfl, ?_⟩
  · rw [← hr]; unfold qtA; simp
  · unfold qtA; simp; omega
theorem toL (s : ByteArray) : s.toList = s.data.toList := Lib.toList_data s
theorem left_none {s : ByteArray} (h : ∀ a, s.data.toList[0]? = some a → a ≠ 34) (u : ByteArray) (hu : qtA u <+: s.data.toList) : False := by
  obtain ⟨r, hr⟩ := hu
  exact h 34 (by rw [← hr]; rfl) rfl
theorem left_end {s : ByteArray} {i : Nat} {pre : List UInt8} (h : Left s i pre) (hi : s.size ≤ i) (u : ByteArray) (hu : qtA u <+: s.data.toList) : False := by
  obtain ⟨q, t, rest, e, _⟩ := h u hu
  rw [List.drop_eq_nil_of_le (by rw [lenL]; omega)] at e
  simp at e
theorem qb_head {q t rest : List UInt8} (h : QB q t) (e : (q ++ 34 :: rest)[0]? = some 34) : q = [] ∧ t = [] := by
  cases h with
  | nil => exact ⟨rfl, rfl⟩
  | plain h3 _ _ => simp at e; exact absurd e h3
  | esc _ _ => simp at e
  | hex _ => simp at e
theorem drop0 (s : ByteArray) (i : Nat) (h : i < s.size) : (s.data.toList.drop i)[0]? = some (s[i]'h) := by
  rw [List.getElem?_drop, Nat.add_zero]; exact getL s i h
theorem left_close {s : ByteArray} {i : Nat} {pre : List UInt8} (h : Left s i pre) (hi : i < s.size) (h3 : s[i]'hi = 34) (u : ByteArray) (hu : qtA u <+: s.data.toList) : u = ⟨pre.toArray⟩ ∧ i + 1 = (qtA u).length := by
  obtain ⟨q, t, rest, e, hQ, hp, hl⟩ := h u hu
  have h0 := drop0 s i hi
  rw [e, h3] at h0
  obtain ⟨rfl, rfl⟩ := qb_head hQ h0
  simp at hp hl
  refine ⟨?_, hl⟩
  apply ByteArray.ext; simp [hp]
theorem left_step {s : ByteArray} {i : Nat} {pre : List UInt8} {c : UInt8} {k : Nat} {ok : Bool} (h : Left s i pre) (hi : i < s.size) (h3 : s[i]'hi ≠ 34) (hT : Told (s.data.toList.drop i) c k ok) :
    Left s (i + k) (pre ++ [c]) ∧ (∀ u, qtA u <+: s.data.toList → ok = true) := by
  have key : ∀ u, qtA u <+: s.data.toList → ok = true ∧ ∃ q t rest, s.data.toList.drop (i + k) = q ++ 34 :: rest ∧ QB q t ∧ (pre ++ [c]) ++ t = u.data.toList ∧ i + k + q.length + 1 = (qtA u).length := by
    intro u hu
    obtain ⟨q, t, rest, e, hQ, hp, hl⟩ := h u hu
    have hq : q ≠ [] := by
      intro hq; subst hq
      have h0 := drop0 s i hi
      rw [e] at h0; simp at h0; exact h3 h0.symm
    obtain ⟨hok, q', t', ht, hq', hQ'⟩ := hT.2 q t rest e hQ hq
    have hk := hT.1 hok
    have hlen : q.length = k + q'.length := by
      have := congrArg List.length hq'
      rw [List.length_append, List.length_take] at this
      omega
    refine ⟨hok, q', t', rest, ?_, hQ', ?_, by omega⟩
    · rw [← List.drop_drop, e]
      have e2 : q ++ 34 :: rest = (s.data.toList.drop i).take k ++ (q' ++ 34 :: rest) := by rw [← List.append_assoc, ← hq']
      rw [e2]
      exact List.drop_left' (by rw [List.length_take]; omega)
    · rw [← hp, ht]; simp
  exact ⟨fun u hu => (key u hu).2, fun u hu => (key u hu).1⟩

theorem cutL (s : ByteArray) (i : Nat) : (s.extract i s.size).data.toList = s.data.toList.drop i := by
  rw [ByteArray.data_extract, Array.toList_extract]
  have : s.data.size = s.size := rfl
  simp only [List.extract]
  exact List.take_of_length_le (by rw [List.length_drop, lenL]; omega)

theorem builder_at_below {T e : TypeId} {B b : Nat} {p : Value} {bs : List Value} {W W' : World} (h : Lib.BuilderAtF T e B b p bs W) (hb : Below W.heap.size W W') : Lib.BuilderAtF T e B b p bs W' := by
  obtain ⟨hB, v, hbl, hown, hne⟩ := h
  refine ⟨hB, v, (hb.block b (Array.getElem?_eq_some_iff.1 hbl).1).trans hbl, hown.kept (grownBy_below hb) ?_, hne⟩
  cases v.ownBlock
  · exact .inl rfl
  · exact .inr (by simp)
theorem builder_below {T e : TypeId} {B b : Nat} {bs : List Value} {W W' : World} (h : Lib.IsBuilderF T e B b bs W) (hb : Below W.heap.size W W') : Lib.IsBuilderF T e B b bs W' :=
  h.elim (fun a => .inl (builder_at_below a hb)) (fun a => .inr (builder_at_below a hb))
set_option maxRecDepth 100000 in
set_option maxHeartbeats 4000000 in
theorem readQuotes_any (s : ByteArray) (w : World) (hsz : s.size ≤ 1099511627776) :
    Calls Tryd.prog 42 #[.string s] w fun e W' => RQs s e ∧ Below w.heap.size w W' := by
  by_cases hz : s.size = 0
  · have E := Lib.hid (fun u hu => left_none (s := s) (fun a h => by rw [List.getElem?_eq_none (by rw [lenL]; omega)] at h; cases h) u hu)
    have he : s = ⟨#[]⟩ := ByteArray.ext (Array.eq_empty_of_size_eq_zero hz)
    subst he
    clear hz hsz
    go_enter Tryd.func42, Tryd.ntmps42
    go_wp2
    go_ret3
    exact ⟨⟨⟨#[]⟩, 0, false, rfl, Nat.le_refl _, Nat.le_refl _, fun u hu => (E.out u hu).elim⟩, Below.refl _ _⟩
  · have hs : 0 < s.size := by omega
    have g0 := getL s 0 hs
    have hne : ¬ s.toList = [] := by
      intro e; have := congrArg List.length e; rw [toL, lenL] at this; have : s.size = 0 := this; omega
    have hne' : s.toList.isEmpty = false := by
      cases h : s.toList with
      | nil => exact absurd h hne
      | cons a l => rfl
    by_cases h0 : s[0]'hs = 34
    · have hn0 : ((s[0]'hs).toNat : Int) = 34 := by rw [h0]; rfl
      clear g0
      have hL := Lib.hid (left_start s)
      go_enter Tryd.func42, Tryd.ntmps42
      go_wp2
      go_loopw [6] (fun v wr => ∃ (i : Nat) (pre : List UInt8), v = .int .i64 i ∧ 1 ≤ i ∧ i ≤ s.size ∧ pre.length ≤ i ∧ Hid (Left s i pre) ∧ Lib.IsBuilderF 57 5 w.heap.size w.heap.size (Lib.byteCells pre) wr ∧ Below w.heap.size w wr) (fun v _ => s.size - (intOf v).toNat)
      case atStart => exact ⟨1, [], rfl, Nat.le_refl _, hs, Nat.zero_le _, hL, Lib.IsBuilderF.of (Lib.fresh_isBuilder 57 5 w), (Below.refl _ _).alloc (Nat.le_refl _) _⟩
      case round =>
        obtain ⟨i, pre, rfl, hi1, his, hpl, hI, hbd, hB⟩ := hrel
        have hzz := hB.size
        have hbl : (Lib.byteCells pre).length = pre.length := Lib.byteCells_length pre
        by_cases hlt : i < s.size
        · have hc := lt256 (s[i]'hlt)
          by_cases h3 : s[i]'hlt = 34
          · have CC := Lib.hid (left_close hI.out hlt h3)
            have hn3 : ((s[i]'hlt).toNat : Int) = 34 := by rw [h3]; rfl
            clear h3
            go_wp2_with fail
            refine (Tryd.Builder_String_any_k w.heap.size w.heap.size pre wr hbd hzz).mono ?_
            rintro e W' ⟨rfl, _, hB', _⟩
            go_wp2
            go_ret3
            exact ⟨⟨⟨pre.toArray⟩, i + 1, true, rfl, hlt, by show pre.toArray.size ≤ s.size; rw [List.size_toArray]; omega, fun u hu => ⟨rfl, CC.out u hu⟩⟩, hB.trans hB'⟩
          · have hn3 : (((s[i]'hlt).toNat : Int) == 34) = false := u8i (n := 34) (by decide) h3
            have H3 := Lib.hid h3
            clear h3
            have hcs : 0 < (s.extract i s.size).size := by rw [ByteArray.size_extract]; omega
            go_wp2_with fail
            refine (readByte_any (s.extract i s.size) wr hcs).mono ?_
            rintro e W' ⟨⟨c, k, ok, rfl, hT⟩, hB'⟩
            rw [cutL] at hT
            have hk := hT.1
            rw [List.length_drop, lenL] at hk
            have LS := left_step hI.out hlt H3.out hT
            have L1 := Lib.hid LS.1
            have L2 := Lib.hid LS.2
            clear LS hT
            have hbd' : Lib.IsBuilderF 57 5 w.heap.size w.heap.size (Lib.byteCells pre) W' := builder_below hbd hB'
            have hz' := hB'.size
            cases ok
            · go_wp2
              go_ret3
              exact ⟨⟨⟨#[]⟩, 0, false, rfl, Nat.zero_le _, Nat.zero_le _, fun u hu => absurd (L2.out u hu) (by decide)⟩, hB.trans (hB'.mono hzz)⟩
            · have hk := hk rfl
              go_wp2_with fail
              refine (Tryd.Builder_WriteByte_k w.heap.size w.heap.size _ _ W' hbd' (by omega) (by omega)).mono ?_
              rintro e W2 ⟨rfl, hI2, hb2, ho2⟩
              go_wp2
              refine ⟨⟨i + k, pre ++ [c], by go_num, by omega, by omega, by simp; omega, L1, by rw [Lib.byteCells_append]; exact .inr hI2, (hB.trans (hB'.mono hzz)).trans hb2⟩, by simp [intOf]; omega⟩
        · have E := Lib.hid (left_end hI.out (by omega))
          go_wp2
          go_ret3
          exact ⟨⟨⟨#[]⟩, 0, false, rfl, Nat.zero_le _, Nat.zero_le _, fun u hu => (E.out u hu).elim⟩, hB⟩
    · have hn0 : (((s[0]'hs).toNat : Int) == 34) = false := u8i (n := 34) (by decide) h0
      have E := Lib.hid (fun u hu => left_none (s := s) (fun a h => by rw [← Option.some.inj (g0.symm.trans h)]; exact h0) u hu)
      clear g0 h0
      go_enter Tryd.func42, Tryd.ntmps42
      go_wp2
      go_ret3
      exact ⟨⟨⟨#[]⟩, 0, false, rfl, by omega, Nat.zero_le _, fun u hu => (E.out u hu).elim⟩, Below.refl _ _⟩
end Go.Proofs.YtdfhpblceoaofaaDoor
