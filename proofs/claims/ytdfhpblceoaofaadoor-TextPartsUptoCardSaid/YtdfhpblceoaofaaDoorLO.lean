/-
  What the lines tell: no blank at an end, where the first word ends, and why it had no room before.
-/
import Derived.Test.YtdfhpblceoaofaaDoorLN
import Derived.Test.YtdfhpblceoaofaaDoorCT
namespace Go.Proofs.YtdfhpblceoaofaaDoor
open Go.ChangeShapes Go.WideShapes Go.ChangeAt Go.RowKit Go.Shelf
set_option linter.unusedVariables false

/-- How much a row of texts holds. -/
def jl : List (List UInt8) → Nat
  | [] => 0
  | a :: l => a.length + 1 + jl l
theorem jl_append : ∀ l k : List (List UInt8), jl (l ++ k) = jl l + jl k
  | [], k => by simp [jl]
  | a :: l, k => by
    show a.length + 1 + jl (l ++ k) = a.length + 1 + jl l + jl k
    rw [jl_append l k]; omega
theorem jn_jl : ∀ l : List (List UInt8), l ≠ [] → (jn l).length + 1 = jl l
  | [], h => absurd rfl h
  | [a], _ => rfl
  | a :: b :: l, _ => by
    have := jn_jl (b :: l) (by simp)
    show (a ++ 32 :: jn (b :: l)).length + 1 = a.length + 1 + jl (b :: l)
    rw [List.length_append, List.length_cons]; omega
theorem jn_le (l : List (List UInt8)) : (jn l).length ≤ jl l := by
  by_cases h : l = []
  · subst h; exact Nat.le_refl _
  · have := jn_jl l h; omega
theorem jl_parts : ∀ P : List (ByteArray × Nat), jl (P.map fun p => bt p.1) ≤ cost P
  | [] => by simp [jl, cost]
  | p :: P => by
    have := jl_parts P
    rw [cost_cons]
    show (bt p.1).length + 1 + jl (P.map fun p => bt p.1) ≤ _
    rw [bt_len]; omega
theorem get_split {x : ByteArray} {a r : List UInt8} (h : bt x = a ++ r) {j : Nat} (hj : j < a.length) : x.get! j = a.getD j 0 := by
  rw [get_bt, h, List.getD_eq_getElem?_getD, List.getD_eq_getElem?_getD, List.getElem?_append_left hj]
theorem get_next {x : ByteArray} {a r : List UInt8} (h : bt x = a ++ 32 :: r) : x.get! a.length = 32 := by
  rw [get_bt, h, List.getD_eq_getElem?_getD, List.getElem?_append_right (Nat.le_refl _)]; simp
theorem size_of {x : ByteArray} {a : List UInt8} (h : bt x = a) : x.size = a.length := by rw [← h, bt_len]
theorem jn_end : ∀ l : List (List UInt8), l ≠ [] → (∀ a ∈ l, a ≠ [] ∧ ∀ c ∈ a, sepB c = false) → ∃ pre c, jn l = pre ++ [c] ∧ sepB c = false
  | [], h, _ => absurd rfl h
  | [a], _, h => ⟨a.dropLast, a.getLast (h a (by simp)).1, (List.dropLast_concat_getLast (h a (by simp)).1).symm, (h a (by simp)).2 _ (List.getLast_mem _)⟩
  | a :: b :: l, _, h => by
    obtain ⟨pre, c, e, hc⟩ := jn_end (b :: l) (by simp) (fun x hx => h x (List.mem_cons_of_mem _ hx))
    refine ⟨a ++ 32 :: pre, c, ?_, hc⟩
    show a ++ 32 :: jn (b :: l) = _
    rw [e]; simp
theorem sep_ne {c : UInt8} (h : sepB c = false) : c ≠ 32 := fun e => by subst e; exact absurd h (by decide)

/-- A line of a text. -/
structure LineF (width : Int) (x : ByteArray) (k : Nat) : Prop where
  k0 : 0 < k
  kx : k ≤ x.size
  pre : ∀ j, j < k → x.get! j ≠ 32
  end_ : k < x.size → x.get! k = 32
  last : x.get! (x.size - 1) ≠ 32
  wid : (rwsum (G x 0) : Int) ≤ width
theorem line_fact {width : Int} {a : Ln} (h : LineOK width a) : LineF width a.x a.p0.1.size ∧ a.f = rwsum (G a.x 0) ∧ a.x.extract 0 a.p0.1.size = a.p0.1 ∧ a.p0.2 = rwsum (G a.p0.1 0) := by
  obtain ⟨g, hg, hx, hf, hle⟩ := h
  have h0 := hg a.p0 (by simp)
  have hw : rwsum (G a.x 0) = gwid (a.p0 :: g) := rw_join _ _ (by simp) hg hx
  obtain ⟨r, hr, hr2⟩ : ∃ r, bt a.x = bt a.p0.1 ++ r ∧ (0 < r.length → ∃ r', r = 32 :: r') := by
    cases g with
    | nil => exact ⟨[], by rw [hx]; simp [jn], fun h => by simp at h⟩
    | cons q g => exact ⟨_, hx, fun _ => ⟨_, rfl⟩⟩
  have hz : a.x.size = a.p0.1.size + r.length := by rw [size_of hr, List.length_append, bt_len]
  obtain ⟨pre, c, e, hc⟩ := jn_end ((a.p0 :: g).map fun p => bt p.1) (by simp) (fun b hb => by
    obtain ⟨p, hp, rfl⟩ := List.mem_map.1 hb
    refine ⟨fun e => ?_, (hg p hp).2.1⟩
    have h1 := (hg p hp).1
    have h2 := bt_len p.1
    rw [e] at h2; simp at h2; omega)
  refine ⟨⟨h0.1, by omega, fun j hj => ?_, fun h => ?_, ?_, by rw [hw, ← hf]; exact hle⟩, by rw [hw, hf], ?_, h0.2.2.1⟩
  · rw [get_split hr (by rw [bt_len]; exact hj)]
    refine sep_ne (h0.2.1 _ ?_)
    rw [List.getD_eq_getElem?_getD, List.getElem?_eq_getElem (by rw [bt_len]; exact hj)]
    exact List.getElem_mem _
  · obtain ⟨r', rfl⟩ := hr2 (by omega)
    rw [← bt_len a.p0.1]
    exact get_next hr
  · have e2 : bt a.x = pre ++ [c] := hx.trans e
    rw [size_of e2, List.length_append, List.length_singleton, Nat.add_sub_cancel, get_bt, e2, List.getD_eq_getElem?_getD, List.getElem?_append_right (Nat.le_refl _)]
    simpa using sep_ne hc
  · apply bt_inj
    unfold bt
    rw [Lib.extract_data]
    show ((bt a.x).drop 0).take (a.p0.1.size - 0) = bt a.p0.1
    rw [hr, List.drop_zero, Nat.sub_zero, ← bt_len a.p0.1, List.take_left]
/-- What all the lines of a text tell. -/
structure LinesF (width : Int) (s : ByteArray) (xs : List ByteArray) : Prop where
  big : jl (xs.map bt) ≤ 6 * s.size + 1
  again : ∀ J : ByteArray, bt J = jn (xs.map bt) → WrL J width = xs
  bytes : noSep (jn (xs.map bt)) = noSep (bt s)
  line : ∀ i x, xs[i]? = some x → ∃ k, LineF width x k ∧ (∀ y, xs[i]? = some x → 0 < i → xs[i - 1]? = some y → width - (rwsum (G (x.extract 0 k) 0) : Int) ≤ (rwsum (G y 0) : Int))
theorem lines_facts (s : ByteArray) (width : Int) (hw : 4 ≤ width) : LinesF width s (WrL s width) := by
  have e0 : WrL s width = linesOf width (WL width s) := if_neg (by omega)
  have hP : ∀ p ∈ WL width s, Good width p := fun p hp => WL_good hw hp
  obtain ⟨M, hM, hC, hL, hJ⟩ := lines_are width (WL width s) hP
  refine ⟨?_, ?_, ?_, ?_⟩
  · rw [e0]
    have h1 := jl_parts (WL width s)
    have h2 := cost_WL width hw s
    have h3 := jn_le ((WL width s).map fun p => bt p.1)
    by_cases hn : (linesOf width (WL width s)).map bt = []
    · rw [hn]; simp [jl]
    · have h4 := jn_jl _ hn
      rw [hJ] at h4; omega
  · intro J hj
    rw [e0, hJ] at hj
    have := WL_again hw hP hj
    rw [e0]
    unfold WrL
    rw [if_neg (by omega), this]
  · rw [e0, hJ, noSep_jn _ (fun x hx => by obtain ⟨p, hp, rfl⟩ := List.mem_map.1 hx; exact (hP p hp).2.1), WL_bytes hw]
  · intro i x hx
    rw [e0, hL, List.getElem?_map] at hx
    obtain ⟨a, ha, rfl⟩ := Option.map_eq_some_iff.1 hx
    obtain ⟨l1, l2, l3, l4⟩ := line_fact (hM a (List.mem_of_getElem? ha))
    refine ⟨a.p0.1.size, l1, fun y _ hi hy => ?_⟩
    rw [e0, hL, List.getElem?_map] at hy
    obtain ⟨b, hb, rfl⟩ := Option.map_eq_some_iff.1 hy
    obtain ⟨m1, m2, m3, m4⟩ := line_fact (hM b (List.mem_of_getElem? hb))
    have hn := hC (i - 1) b a hb (by rw [show i - 1 + 1 = i by omega]; exact ha)
    unfold Nxt at hn
    rw [l3, ← l4, ← m2]
    omega
end Go.Proofs.YtdfhpblceoaofaaDoor
