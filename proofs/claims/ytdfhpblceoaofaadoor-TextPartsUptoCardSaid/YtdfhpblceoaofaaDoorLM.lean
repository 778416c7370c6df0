/-
  Lines parted again are the same lines; no byte of a word is lost; how wide they are.
-/
import Derived.Test.YtdfhpblceoaofaaDoorRP
import Derived.Test.YtdfhpblceoaofaaDoorFT
namespace Go.Proofs.YtdfhpblceoaofaaDoor
open Go.ChangeShapes Go.WideShapes Go.ChangeAt Go.RowKit Go.Shelf
set_option linter.unusedVariables false

/-- A text's bytes. -/
abbrev bt (x : ByteArray) : List UInt8 := x.data.toList
theorem bt_len (x : ByteArray) : (bt x).length = x.size := by simp
theorem bt_inj {x y : ByteArray} (h : bt x = bt y) : x = y := ByteArray.ext (Array.toList_inj.1 h)
/-- Joined by blanks. -/
def jn : List (List UInt8) → List UInt8
  | [] => []
  | [a] => a
  | a :: b :: l => a ++ 32 :: jn (b :: l)
theorem jn_snoc : ∀ (l : List (List UInt8)) (x : List UInt8), l ≠ [] → jn (l ++ [x]) = jn l ++ 32 :: x
  | [], x, h => absurd rfl h
  | [a], x, _ => rfl
  | a :: b :: l, x, _ => by
    have := jn_snoc (b :: l) x (by simp)
    show a ++ 32 :: jn (b :: l ++ [x]) = (a ++ 32 :: jn (b :: l)) ++ 32 :: x
    rw [this]; simp
theorem jn_last : ∀ (l : List (List UInt8)) (a b : List UInt8), jn (l ++ [a ++ b]) = jn (l ++ [a]) ++ b
  | [], a, b => rfl
  | [c], a, b => by show c ++ 32 :: (a ++ b) = (c ++ 32 :: a) ++ b; simp
  | c :: d :: l, a, b => by
    have := jn_last (d :: l) a b
    show c ++ 32 :: jn (d :: l ++ [a ++ b]) = (c ++ 32 :: jn (d :: l ++ [a])) ++ b
    rw [this]; simp

/-- A part that may stand in a line. -/
def Good (width : Int) (p : ByteArray × Nat) : Prop := 0 < p.1.size ∧ (∀ c ∈ bt p.1, sepB c = false) ∧ p.2 = rwsum (G p.1 0) ∧ (p.2 : Int) ≤ width

theorem Fl_clean {s : ByteArray} : ∀ f a i, s.size - i ≤ f → a ≤ i → i ≤ s.size → (∀ j, a ≤ j → j < i → sepB (s.get! j) = false) → ∀ x ∈ Fl s a i, ∀ c ∈ bt x, sepB c = false
  | 0, a, i, h, ha, hi, hc, x, hx, c, hcx => by
    obtain rfl : i = s.size := by omega
    rw [Fl_end (Nat.le_refl _)] at hx
    split at hx
    · simp at hx; subst hx
      obtain ⟨j, hj, rfl⟩ := List.mem_iff_getElem.1 hcx
      have hz : (s.extract a s.size).size = s.size - a := by simp
      rw [bt_len, hz] at hj
      have := hc (a + j) (by omega) (by omega)
      rw [← get_part s a s.size j (by omega) (Nat.le_refl _), get_idx _ j (by rw [hz]; exact hj)] at this
      exact this
    · simp at hx
  | f + 1, a, i, h, ha, hi, hc, x, hx, c, hcx => by
    by_cases hlt : i < s.size
    · cases hs : sepB (s.get! i)
      · rw [Fl_on hlt hs] at hx
        refine Fl_clean f a (i + 1) (by omega) (by omega) (by omega) (fun j h1 h2 => ?_) x hx c hcx
        rcases Nat.lt_or_ge j i with h' | h'
        · exact hc j h1 h'
        · rw [show j = i by omega]; exact hs
      · rw [Fl_sep hlt hs, List.mem_append] at hx
        rcases hx with hx | hx
        · split at hx
          · simp at hx; subst hx
            obtain ⟨j, hj, rfl⟩ := List.mem_iff_getElem.1 hcx
            have hz : (s.extract a i).size = i - a := by simp; omega
            rw [bt_len, hz] at hj
            have := hc (a + j) (by omega) (by omega)
            rw [← get_part s a i j (by omega) (by omega), get_idx _ j (by rw [hz]; exact hj)] at this
            exact this
          · simp at hx
        · exact Fl_clean f (i + 1) (i + 1) (by omega) (Nat.le_refl _) (by omega) (fun j h1 h2 => by omega) x hx c hcx
    · obtain rfl : i = s.size := by omega
      exact Fl_clean 0 a s.size (by omega) ha (Nat.le_refl _) hc x hx c hcx
theorem ext_mem {x : ByteArray} {a b : Nat} {c : UInt8} (h : c ∈ bt (x.extract a b)) : c ∈ bt x := by
  unfold bt at h
  rw [Lib.extract_data] at h
  exact List.mem_of_mem_drop (List.mem_of_mem_take h)
theorem Pt_clean {width : Int} (hw : 4 ≤ width) : ∀ (f : Nat) (x : ByteArray), x.size ≤ f → (∀ c ∈ bt x, sepB c = false) → ∀ p ∈ Pt width x, ∀ c ∈ bt p.1, sepB c = false
  | 0, x, h, _, p, hp => by rw [Pt_nil (by omega)] at hp; simp at hp
  | f + 1, x, h, hc, p, hp => by
    by_cases h0 : x.size = 0
    · rw [Pt_nil h0] at hp; simp at hp
    · rw [Pt_cons hw (by omega), List.mem_cons] at hp
      have hpp := fit_pos x width hw (by omega)
      have hl := fit_le x width
      rcases hp with rfl | hp
      · exact fun c hcx => hc c (ext_mem hcx)
      · exact Pt_clean hw f _ (by rw [rest_size _ _ hl]; omega) (fun c hcx => hc c (ext_mem hcx)) p hp
theorem WL_good {width : Int} (hw : 4 ≤ width) {s : ByteArray} {p : ByteArray × Nat} (h : p ∈ WL width s) : Good width p := by
  obtain ⟨a, b, c, d⟩ := WL_mem hw h
  refine ⟨a, ?_, c, d⟩
  unfold WL at h
  rw [List.mem_flatMap] at h
  obtain ⟨x, hx, hp⟩ := h
  exact Pt_clean hw _ x (Nat.le_refl _) (Fl_clean _ 0 0 (Nat.le_refl _) (Nat.le_refl _) (Nat.zero_le _) (fun j h1 h2 => by omega) x hx) p hp

/-! ### Parted again -/
theorem drop_at {s : ByteArray} {i j : Nat} {l : List UInt8} (hd : (bt s).drop i = l) : (bt s).drop (i + j) = l.drop j := by
  rw [← List.drop_drop, hd]
theorem get_drop {s : ByteArray} {i j : Nat} {l : List UInt8} (hd : (bt s).drop i = l) : s.get! (i + j) = l.getD j 0 := by
  rw [get_at, ← hd, List.getD_eq_getElem?_getD, List.getD_eq_getElem?_getD, List.getElem?_drop]
theorem ext_drop {s : ByteArray} {i k : Nat} {p r : List UInt8} (hd : (bt s).drop i = p ++ r) (hk : k = p.length) : bt (s.extract i (i + k)) = p := by
  unfold bt
  rw [Lib.extract_data]
  have : (s.data.toList).drop i = p ++ r := hd
  rw [this, hk, Nat.add_sub_cancel_left]
  simp
theorem Fl_join : ∀ (ps : List ByteArray) (s : ByteArray) (i : Nat), (∀ p ∈ ps, 0 < p.size ∧ ∀ c ∈ bt p, sepB c = false) → i ≤ s.size → (bt s).drop i = jn (ps.map bt) → Fl s i i = ps
  | [], s, i, _, hi, hd => by
    have := congrArg List.length hd
    rw [List.length_drop, bt_len] at this
    simp [jn] at this
    rw [Fl_end (by omega), if_neg (by omega)]
  | [p], s, i, hp, hi, hd => by
    have hd' : (bt s).drop i = bt p ++ [] := by rw [List.append_nil]; exact hd
    have hl := congrArg List.length hd'
    rw [List.length_drop, bt_len, List.append_nil, bt_len] at hl
    obtain ⟨h0, hc⟩ := hp p (by simp)
    rw [Fl_over p.size i (by omega) (fun j h1 h2 => by
      rw [show j = i + (j - i) by omega, get_drop hd', List.append_nil, List.getD_eq_getElem?_getD, List.getElem?_eq_getElem (by rw [bt_len]; omega)]
      exact hc _ (List.getElem_mem _)), Fl_end (by omega), if_pos (by omega)]
    congr 1
    apply bt_inj
    rw [show s.size = i + p.size by omega]
    exact ext_drop hd' (bt_len p).symm
  | p :: q :: ps, s, i, hp, hi, hd => by
    have hd' : (bt s).drop i = bt p ++ (32 :: jn ((q :: ps).map bt)) := hd
    have hl := congrArg List.length hd'
    rw [List.length_drop, bt_len, List.length_append, List.length_cons, bt_len] at hl
    obtain ⟨h0, hc⟩ := hp p (by simp)
    have hsep : sepB (s.get! (i + p.size)) = true := by
      rw [get_drop hd', List.getD_eq_getElem?_getD, List.getElem?_append_right (by rw [bt_len]; exact Nat.le_refl _), bt_len]
      simp [sepB]
    rw [Fl_over p.size i (by omega) (fun j h1 h2 => by
      rw [show j = i + (j - i) by omega, get_drop hd', List.getD_eq_getElem?_getD, List.getElem?_append_left (by rw [bt_len]; omega), List.getElem?_eq_getElem (by rw [bt_len]; omega)]
      exact hc _ (List.getElem_mem _)), Fl_sep (by omega) hsep, if_pos (by omega)]
    have hn : (bt s).drop (i + p.size + 1) = jn ((q :: ps).map bt) := by
      rw [Nat.add_assoc, drop_at hd', show p.size + 1 = (bt p).length + 1 by rw [bt_len], List.drop_append]
      simp
    rw [Fl_join (q :: ps) s (i + p.size + 1) (fun x hx => hp x (by simp at hx ⊢; exact .inr hx)) (by omega) hn]
    show [_] ++ _ = _
    rw [List.singleton_append]
    congr 1
    exact bt_inj (ext_drop hd' (bt_len p).symm)
theorem fit_all {x : ByteArray} {width : Int} (h : (rwsum (G x 0) : Int) ≤ width) : fitP x width = (x.size, rwsum (G x 0)) := by
  have := fitP_done (s := x) (width := width) (.inr (by rw [wsum_rwsum]; exact h))
  rw [wsum_rwsum] at this; exact this
theorem Pt_good {width : Int} (hw : 4 ≤ width) {p : ByteArray × Nat} (h : Good width p) : Pt width p.1 = [p] := by
  obtain ⟨h0, _, h2, h3⟩ := h
  rw [Pt_cons hw h0, fit_all (by rw [← h2]; exact h3)]
  simp only
  rw [extract_whole, Pt_nil (by simp), ← h2]
theorem WL_again {width : Int} (hw : 4 ≤ width) {J : ByteArray} {P : List (ByteArray × Nat)} (hP : ∀ p ∈ P, Good width p) (hJ : bt J = jn (P.map fun p => bt p.1)) : WL width J = P := by
  unfold WL FL
  rw [Fl_join (P.map Prod.fst) J 0 (fun x hx => by
    obtain ⟨p, hp, rfl⟩ := List.mem_map.1 hx
    exact ⟨(hP p hp).1, (hP p hp).2.1⟩) (Nat.zero_le _) (by rw [List.drop_zero, hJ, List.map_map]; rfl)]
  clear hJ
  induction P with
  | nil => rfl
  | cons p P ih =>
    rw [List.map_cons, List.flatMap_cons, ih (fun x hx => hP x (by simp [hx])), Pt_good hw (hP p (by simp))]; rfl

/-! ### No byte of a word is lost -/
def noSep (l : List UInt8) : List UInt8 := l.filter fun c => !sepB c
theorem noSep_clean {l : List UInt8} (h : ∀ c ∈ l, sepB c = false) : noSep l = l := by
  unfold noSep; rw [List.filter_eq_self]; intro c hc; rw [h c hc]; rfl
theorem noSep_append (a b : List UInt8) : noSep (a ++ b) = noSep a ++ noSep b := by simp [noSep]
theorem noSep_jn : ∀ (l : List (List UInt8)), (∀ x ∈ l, ∀ c ∈ x, sepB c = false) → noSep (jn l) = l.flatten
  | [], _ => rfl
  | [a], h => by show noSep a = _; rw [noSep_clean (h a (by simp))]; simp
  | a :: b :: l, h => by
    show noSep (a ++ 32 :: jn (b :: l)) = _
    rw [noSep_append, noSep_clean (h a (by simp))]
    have : noSep (32 :: jn (b :: l)) = noSep (jn (b :: l)) := by simp [noSep, sepB]
    rw [this, noSep_jn (b :: l) (fun x hx => h x (by simp at hx ⊢; exact .inr hx))]; simp
theorem Fl_bytes {s : ByteArray} : ∀ f a i, s.size - i ≤ f → a ≤ i → i ≤ s.size → ((Fl s a i).map bt).flatten = ((bt s).drop a).take (i - a) ++ noSep ((bt s).drop i)
  | f, a, i, h, ha, hi => by
    by_cases hlt : i < s.size
    · obtain ⟨f, rfl⟩ : ∃ g, f = g + 1 := ⟨f - 1, by omega⟩
      have hdi : (bt s).drop i = s.get! i :: (bt s).drop (i + 1) := by
        rw [get_idx s i hlt]; exact List.drop_eq_getElem_cons (by rw [bt_len]; exact hlt)
      cases hs : sepB (s.get! i)
      · rw [Fl_on hlt hs, Fl_bytes f a (i + 1) (by omega) (by omega) (by omega), hdi]
        have e : noSep (s.get! i :: (bt s).drop (i + 1)) = s.get! i :: noSep ((bt s).drop (i + 1)) := by simp [noSep, hs]
        rw [e, show i + 1 - a = (i - a) + 1 by omega, List.take_add_one]
        have e2 : ((bt s).drop a)[i - a]? = some (s.get! i) := by
          rw [List.getElem?_drop, show a + (i - a) = i by omega, List.getElem?_eq_getElem (by rw [bt_len]; exact hlt), get_idx s i hlt]; rfl
        rw [e2]; simp
      · rw [Fl_sep hlt hs, hdi]
        have e : noSep (s.get! i :: (bt s).drop (i + 1)) = noSep ((bt s).drop (i + 1)) := by simp [noSep, hs]
        have ih := Fl_bytes (s := s) f (i + 1) (i + 1) (by omega) (Nat.le_refl _) (by omega)
        rw [Nat.sub_self, List.take_zero, List.nil_append] at ih
        rw [e, List.map_append, List.flatten_append, ih]
        congr 1
        by_cases hai : a < i
        · rw [if_pos hai]
          simp only [List.map_cons, List.map_nil, List.flatten_cons, List.flatten_nil, List.append_nil]
          unfold bt; rw [Lib.extract_data]
        · rw [if_neg hai, show i - a = 0 by omega]; rfl
    · obtain rfl : i = s.size := by omega
      have e : (bt s).drop s.size = [] := List.drop_eq_nil_of_le (by rw [bt_len]; exact Nat.le_refl _)
      rw [Fl_end (Nat.le_refl _), e]
      have e3 : noSep [] = [] := rfl
      rw [e3, List.append_nil]
      split
      · simp only [List.map_cons, List.map_nil, List.flatten_cons, List.flatten_nil, List.append_nil]
        unfold bt; rw [Lib.extract_data]
      · rw [show s.size - a = 0 by omega]; rfl
theorem Pt_bytes {width : Int} (hw : 4 ≤ width) : ∀ (f : Nat) (x : ByteArray), x.size ≤ f → ((Pt width x).map fun p => bt p.1).flatten = bt x
  | 0, x, h => by
    rw [Pt_nil (by omega)]
    exact (List.eq_nil_of_length_eq_zero (by rw [bt_len]; omega)).symm
  | f + 1, x, h => by
    by_cases h0 : x.size = 0
    · rw [Pt_nil h0]
      exact (List.eq_nil_of_length_eq_zero (by rw [bt_len]; omega)).symm
    · have hpp := fit_pos x width hw (by omega)
      have hl := fit_le x width
      rw [Pt_cons hw (by omega), List.map_cons, List.flatten_cons, Pt_bytes hw f _ (by rw [rest_size _ _ hl]; omega)]
      unfold bt
      rw [Lib.extract_data, Lib.extract_data]
      simp only [List.drop_zero, Nat.sub_zero]
      rw [List.take_of_length_le (l := List.drop _ _) (by rw [List.length_drop]; simp)]
      exact List.take_append_drop _ _
theorem WL_bytes {width : Int} (hw : 4 ≤ width) (s : ByteArray) : ((WL width s).map fun p => bt p.1).flatten = noSep (bt s) := by
  have h := Fl_bytes (s := s) _ 0 0 (Nat.le_refl _) (Nat.le_refl _) (Nat.zero_le _)
  simp only [Nat.sub_zero, List.drop_zero, List.take_zero, List.nil_append] at h
  rw [← h]
  unfold WL FL
  generalize Fl s 0 0 = l
  induction l with
  | nil => rfl
  | cons x l ih =>
    rw [List.flatMap_cons, List.map_append, List.flatten_append, ih, Pt_bytes hw _ x (Nat.le_refl _)]; rfl
end Go.Proofs.YtdfhpblceoaofaaDoor
