/-
  What stands between blanks and line ends; words in parts; lines.
-/
import Derived.Test.YtdfhpblceoaofaaDoorWM
import Derived.Lib.SpaceUEq
namespace Go.Proofs.YtdfhpblceoaofaaDoor
open Go.ChangeShapes Go.WideShapes Go.ChangeAt Go.RowKit Go.Shelf
set_option linter.unusedVariables false

def sepB (c : UInt8) : Bool := c == 32 || c == 10
def fldGo (s : ByteArray) : Nat → Nat → Nat → List ByteArray
  | 0, a, _ => if a < s.size then [s.extract a s.size] else []
  | f + 1, a, i => if sepB (s.get! i) then (if a < i then [s.extract a i] else []) ++ fldGo s f (i + 1) (i + 1) else fldGo s f a (i + 1)
/-- The fields from a place i on, where a is the place at which the field under way began (i, if none has). -/
def Fl (s : ByteArray) (a i : Nat) : List ByteArray := fldGo s (s.size - i) a i
theorem Fl_end {s : ByteArray} {a i : Nat} (h : s.size ≤ i) : Fl s a i = if a < s.size then [s.extract a s.size] else [] := by
  unfold Fl; rw [show s.size - i = 0 by omega]; rfl
theorem Fl_sep {s : ByteArray} {a i : Nat} (h : i < s.size) (hs : sepB (s.get! i) = true) : Fl s a i = (if a < i then [s.extract a i] else []) ++ Fl s (i + 1) (i + 1) := by
  unfold Fl
  obtain ⟨f, hf⟩ : ∃ f, s.size - i = f + 1 := ⟨s.size - i - 1, by omega⟩
  rw [hf, show s.size - (i + 1) = f by omega]
  conv => lhs; unfold fldGo
  rw [if_pos hs]
theorem Fl_on {s : ByteArray} {a i : Nat} (h : i < s.size) (hs : sepB (s.get! i) = false) : Fl s a i = Fl s a (i + 1) := by
  unfold Fl
  obtain ⟨f, hf⟩ : ∃ f, s.size - i = f + 1 := ⟨s.size - i - 1, by omega⟩
  rw [hf, show s.size - (i + 1) = f by omega]
  conv => lhs; unfold fldGo
  rw [hs]; rfl
theorem Fl_over {s : ByteArray} {a : Nat} : ∀ (k i : Nat), i + k ≤ s.size → (∀ j, i ≤ j → j < i + k → sepB (s.get! j) = false) → Fl s a i = Fl s a (i + k)
  | 0, i, _, _ => rfl
  | k + 1, i, h, hs => by
    rw [Fl_on (by omega) (hs i (Nat.le_refl _) (by omega)), Fl_over k (i + 1) (by omega) (fun j h1 h2 => hs j (by omega) (by omega))]
    congr 1; omega
/-- Where a field begins does not show while none is under way. -/
theorem high_not {c : UInt8} (h : 128 ≤ c.toNat) : sepB c = false := by
  unfold sepB
  have h1 : c ≠ 32 := fun e => by rw [e] at h; simp at h
  have h2 : c ≠ 10 := fun e => by rw [e] at h; simp at h
  simp [h1, h2]

/-- A thing's rune is below 128 just if its byte is; then it is the byte. -/
theorem dec_low {s : ByteArray} {i : Nat} (h : (s.get! i).toNat < 128) : Utf8.decode s i = ((s.get! i).toNat, 1) := by
  rw [Lib.decode_at]; exact Lib.decodeN_ascii _ _ _ _ _ h
theorem dec_high {s : ByteArray} {i : Nat} (h : 128 ≤ (s.get! i).toNat) : 128 ≤ (Utf8.decode s i).1 ∧ ∀ j, i ≤ j → j < i + (Utf8.decode s i).2 → 128 ≤ (s.get! j).toNat := by
  rw [Lib.decode_at]
  obtain ⟨c1, c2, c3, c4⟩ := Lib.decodeN_conts (s.size - i) (s.get! i).toNat (s.get! (i + 1)).toNat (s.get! (i + 2)).toNat (s.get! (i + 3)).toNat
  refine ⟨?_, fun j h1 h2 => ?_⟩
  · unfold Lib.decodeN
    rw [if_neg (by omega)]
    split
    · split
      · simp only; omega
      · simp
    · split
      · split
        · simp only; omega
        · simp
      · split
        · split
          · simp only; omega
          · simp
        · simp
  · generalize Lib.decodeN (s.size - i) (s.get! i).toNat (s.get! (i + 1)).toNat (s.get! (i + 2)).toNat (s.get! (i + 3)).toNat = d at *
    have : j = i ∨ j = i + 1 ∨ j = i + 2 ∨ j = i + 3 := by omega
    rcases this with rfl | rfl | rfl | rfl
    · exact h
    · have := c1 (by omega); omega
    · have := c2 (by omega); omega
    · have := c3 (by omega); omega
theorem sep_iff {s : ByteArray} {i : Nat} : sepB (s.get! i) = (((Utf8.decode s i).1 : Int) == 32 || ((Utf8.decode s i).1 : Int) == 10) := by
  rcases Nat.lt_or_ge (s.get! i).toNat 128 with h | h
  · rw [dec_low h]
    unfold sepB
    have e1 : (s.get! i == 32) = ((((s.get! i).toNat : Nat) : Int) == 32) := by
      rw [Bool.eq_iff_iff]; simp only [beq_iff_eq]
      refine ⟨fun e => by rw [e]; rfl, fun e => UInt8.toNat_inj.1 (by show _ = 32; omega)⟩
    have e2 : (s.get! i == 10) = ((((s.get! i).toNat : Nat) : Int) == 10) := by
      rw [Bool.eq_iff_iff]; simp only [beq_iff_eq]
      refine ⟨fun e => by rw [e]; rfl, fun e => UInt8.toNat_inj.1 (by show _ = 10; omega)⟩
    rw [e1, e2]
  · rw [high_not h]
    have := (dec_high h).1
    symm; simp; omega
/-- One thing: a blank or a line end. -/
theorem Fl_hit {s : ByteArray} {a i : Nat} (h : i < s.size) (hs : sepB (s.get! i) = true) : (Utf8.decode s i).2 = 1 ∧ Fl s a i = (if a < i then [s.extract a i] else []) ++ Fl s (i + 1) (i + 1) := by
  refine ⟨?_, Fl_sep h hs⟩
  rcases Nat.lt_or_ge (s.get! i).toNat 128 with h' | h'
  · rw [dec_low h']
  · rw [high_not h'] at hs; cases hs
/-- One thing: another. -/
theorem Fl_miss {s : ByteArray} {a i : Nat} (h : i < s.size) (hs : sepB (s.get! i) = false) : Fl s a i = Fl s a (i + (Utf8.decode s i).2) := by
  have hb := dec_bd s i h
  refine Fl_over _ _ hb.2.2.1 (fun j h1 h2 => ?_)
  rcases Nat.lt_or_ge (s.get! i).toNat 128 with h' | h'
  · rw [dec_low h'] at h2
    rw [show j = i by simp only at h2; omega]; exact hs
  · exact high_not ((dec_high h').2 j h1 h2)
theorem Fl_size {s : ByteArray} : ∀ f a i, s.size - i ≤ f → ∀ x ∈ Fl s a i, 0 < x.size ∧ x.size ≤ s.size
  | 0, a, i, h, x, hx => by
    rw [Fl_end (by omega)] at hx
    split at hx
    · simp at hx; subst hx; simp; omega
    · simp at hx
  | f + 1, a, i, h, x, hx => by
    by_cases hi : i < s.size
    · cases hs : sepB (s.get! i)
      · rw [Fl_on hi hs] at hx; exact Fl_size f a (i + 1) (by omega) x hx
      · rw [Fl_sep hi hs, List.mem_append] at hx
        rcases hx with hx | hx
        · split at hx
          · simp at hx; subst hx; simp; omega
          · simp at hx
        · exact Fl_size f (i + 1) (i + 1) (by omega) x hx
    · rw [Fl_end (by omega)] at hx
      split at hx
      · simp at hx; subst hx; simp; omega
      · simp at hx

/-- The fields of a text. -/
def FL (s : ByteArray) : List ByteArray := Fl s 0 0
theorem FL_size {s x : ByteArray} (h : x ∈ FL s) : 0 < x.size ∧ x.size ≤ s.size := Fl_size _ 0 0 (Nat.le_refl _) x h

/-- A word in parts, none wider than a width, each with how wide it is. -/
def partGo (width : Int) : Nat → ByteArray → List (ByteArray × Nat)
  | 0, _ => []
  | f + 1, x => if x.size = 0 then [] else (x.extract 0 (fitP x width).1, (fitP x width).2) :: partGo width f (x.extract (fitP x width).1 x.size)
def Pt (width : Int) (x : ByteArray) : List (ByteArray × Nat) := partGo width x.size x
theorem rest_size (x : ByteArray) (p : Nat) (h : p ≤ x.size) : (x.extract p x.size).size = x.size - p := by simp
theorem partGo_fuel (width : Int) (hw : 4 ≤ width) : ∀ (a b : Nat) (x : ByteArray), x.size ≤ a → a ≤ b → partGo width a x = partGo width b x
  | 0, b, x, h, _ => by
    cases b with
    | zero => rfl
    | succ b => unfold partGo; rw [if_pos (by omega)]
  | a + 1, b, x, h, hab => by
    cases b with
    | zero => omega
    | succ b =>
      unfold partGo
      split
      · rfl
      · have hp := fit_pos x width hw (by omega)
        have hl := fit_le x width
        rw [partGo_fuel width hw a b _ (by rw [rest_size _ _ hl]; omega) (by omega)]
theorem Pt_nil {width : Int} {x : ByteArray} (h : x.size = 0) : Pt width x = [] := by unfold Pt; rw [h]; rfl
theorem Pt_cons {width : Int} (hw : 4 ≤ width) {x : ByteArray} (h : 0 < x.size) : Pt width x = (x.extract 0 (fitP x width).1, (fitP x width).2) :: Pt width (x.extract (fitP x width).1 x.size) := by
  have hp := fit_pos x width hw h
  have hl := fit_le x width
  unfold Pt
  obtain ⟨f, hf⟩ : ∃ f, x.size = f + 1 := ⟨x.size - 1, by omega⟩
  rw [hf]
  conv => lhs; unfold partGo
  rw [if_neg (by omega)]
  congr 1
  rw [hf.symm]
  exact (partGo_fuel width hw _ f _ (Nat.le_refl _) (by rw [rest_size _ _ hl]; omega)).symm

/-- All the parts of a text's words. -/
def WL (width : Int) (s : ByteArray) : List (ByteArray × Nat) := (FL s).flatMap (Pt width)
end Go.Proofs.YtdfhpblceoaofaaDoor
