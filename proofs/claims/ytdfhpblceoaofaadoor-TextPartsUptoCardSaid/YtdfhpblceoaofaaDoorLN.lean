/-
  What each line is: a row of parts, how wide, and why the next word has no room in it.
-/
import Derived.Test.YtdfhpblceoaofaaDoorLM
namespace Go.Proofs.YtdfhpblceoaofaaDoor
open Go.ChangeShapes Go.WideShapes Go.ChangeAt Go.RowKit Go.Shelf
set_option linter.unusedVariables false

/-- What stands ahead of a blank is decoded as if it ended there. -/
theorem decodeN_blank (n m b0 b1 b2 b3 c1 c2 c3 : Nat) (hm : 1 ≤ m) (hn : m < n) (e1 : 1 < m → c1 = b1) (e2 : 2 < m → c2 = b2) (e3 : 3 < m → c3 = b3) (z1 : m = 1 → b1 = 32) (z2 : m = 2 → b2 = 32) (z3 : m = 3 → b3 = 32) :
    Lib.decodeN n b0 b1 b2 b3 = Lib.decodeN m b0 c1 c2 c3 := by
  have k32 : ¬ (32 : Nat) / 64 = 2 := by decide
  by_cases a1 : b0 < 128
  · simp only [Lib.decodeN, if_pos a1]
  by_cases a2 : b0 / 32 = 6
  · have x3 : ¬ b0 / 16 = 14 := by omega
    have x4 : ¬ b0 / 8 = 30 := by omega
    by_cases g : 1 < m
    · have g' : 1 < n := by omega
      rw [e1 g]; simp only [Lib.decodeN, a1, a2, g, g', x3, x4, if_false, true_and, false_and]
    · have hb := z1 (by omega)
      subst hb
      simp only [Lib.decodeN, a1, a2, g, x3, x4, k32, if_false, false_and, and_false]
  by_cases a3 : b0 / 16 = 14
  · have x4 : ¬ b0 / 8 = 30 := by omega
    by_cases g : 2 < m
    · have g1 : 1 < m := by omega
      have g1' : 1 < n := by omega
      have g2' : 2 < n := by omega
      rw [e1 g1, e2 g]; simp only [Lib.decodeN, a1, a2, a3, g, g1, g1', g2', x4, if_false, true_and, false_and]
    · by_cases h1 : m = 1
      · have hb := z1 h1
        subst hb
        simp only [Lib.decodeN, a1, a2, a3, g, x4, k32, if_false, false_and, and_false]
      · have hb := z2 (by omega)
        subst hb
        simp only [Lib.decodeN, a1, a2, a3, g, x4, k32, if_false, false_and, and_false]
  by_cases a4 : b0 / 8 = 30
  · by_cases g : 3 < m
    · have g1 : 1 < m := by omega
      have g2 : 2 < m := by omega
      have g1' : 1 < n := by omega
      have g2' : 2 < n := by omega
      have g3' : 3 < n := by omega
      rw [e1 g1, e2 g2, e3 g]; simp only [Lib.decodeN, a1, a2, a3, a4, g, g1, g2, g1', g2', g3', if_false, true_and, false_and]
    · by_cases h1 : m = 1
      · have hb := z1 h1
        subst hb
        simp only [Lib.decodeN, a1, a2, a3, a4, g, k32, if_false, false_and, and_false]
      · by_cases h2 : m = 2
        · have hb := z2 h2
          subst hb
          simp only [Lib.decodeN, a1, a2, a3, a4, g, k32, if_false, false_and, and_false]
        · have hb := z3 (by omega)
          subst hb
          simp only [Lib.decodeN, a1, a2, a3, a4, g, k32, if_false, false_and, and_false]
  · simp only [Lib.decodeN, a1, a2, a3, a4, if_false, false_and]

theorem get_bt (s : ByteArray) (j : Nat) : s.get! j = (bt s).getD j 0 := get_at s j
theorem get_left {s x : ByteArray} {r : List UInt8} (h : bt s = bt x ++ r) {j : Nat} (hj : j < x.size) : s.get! j = x.get! j := by
  rw [get_bt, get_bt, h, List.getD_eq_getElem?_getD, List.getD_eq_getElem?_getD, List.getElem?_append_left (by rw [bt_len]; exact hj)]
theorem get_mid {s x : ByteArray} {r : List UInt8} (h : bt s = bt x ++ 32 :: r) : s.get! x.size = 32 := by
  rw [get_bt, h, List.getD_eq_getElem?_getD, List.getElem?_append_right (by rw [bt_len]; exact Nat.le_refl _), bt_len]; simp
theorem size_split {s x : ByteArray} {r : List UInt8} (h : bt s = bt x ++ 32 :: r) : s.size = x.size + 1 + r.length := by
  have := congrArg List.length h
  rw [bt_len, List.length_append, bt_len, List.length_cons] at this; omega
theorem dec_blank {s x : ByteArray} {r : List UInt8} (h : bt s = bt x ++ 32 :: r) {i : Nat} (hi : i < x.size) : Utf8.decode s i = Utf8.decode x i := by
  have hz := size_split h
  have hm := get_mid h
  rw [Lib.decode_at, Lib.decode_at, get_left h hi]
  refine decodeN_blank _ _ _ _ _ _ _ _ _ (by omega) (by omega) (fun g => ?_) (fun g => ?_) (fun g => ?_) (fun g => ?_) (fun g => ?_) (fun g => ?_)
  · rw [get_left h (show i + 1 < x.size by omega)]
  · rw [get_left h (show i + 2 < x.size by omega)]
  · rw [get_left h (show i + 3 < x.size by omega)]
  · rw [show i + 1 = x.size by omega, hm]; rfl
  · rw [show i + 2 = x.size by omega, hm]; rfl
  · rw [show i + 3 = x.size by omega, hm]; rfl
theorem reach_blank {s x : ByteArray} {r : List UInt8} (h : bt s = bt x ++ 32 :: r) : ∀ f i, x.size - i ≤ f → i ≤ x.size → Reach s i x.size
  | 0, i, hf, hi => by rw [show i = x.size by omega]; exact .refl _
  | f + 1, i, hf, hi => by
    by_cases hlt : i < x.size
    · have hb := dec_bd x i hlt
      have hz := size_split h
      refine .step (by omega) ?_
      rw [dec_blank h hlt]
      exact reach_blank h f _ (by omega) (by omega)
    · rw [show i = x.size by omega]; exact .refl _
theorem pc_r_eq {s y : ByteArray} {i j : Nat} (h : Utf8.decode s i = Utf8.decode y j) : (pc s i).r = (pc y j).r := by
  unfold pc; rw [h]; split <;> rfl
theorem rw_shift (s : ByteArray) (j : Nat) : ∀ f i, s.size - (j + i) ≤ f → rwsum (G (s.extract j s.size) i) = rwsum (G s (j + i))
  | f, i, hf => by
    have hz : (s.extract j s.size).size = s.size - j := by simp
    by_cases hlt : j + i < s.size
    · obtain ⟨f, rfl⟩ : ∃ g, f = g + 1 := ⟨f - 1, by omega⟩
      have hb := dec_bd s (j + i) hlt
      have hd := dec_part s j s.size i (Nat.le_refl _) hlt hb.2.2.1
      rw [G_cons (s := s.extract j s.size) (by omega), G_cons hlt, rwsum_cons, rwsum_cons, pc_r_eq hd, hd, rw_shift s j f _ (by omega), Nat.add_assoc]
    · rw [G_end (by omega), G_end (by omega)]
theorem rw_blank {s x y : ByteArray} (h : bt s = bt x ++ 32 :: bt y) : rwsum (G s 0) = rwsum (G x 0) + 1 + rwsum (G y 0) := by
  have hz := size_split h
  have hr := reach_blank h _ 0 (Nat.le_refl _) (Nat.zero_le _)
  have hx : s.extract 0 x.size = x := by
    apply bt_inj; unfold bt; rw [Lib.extract_data]
    show ((bt s).drop 0).take (x.size - 0) = _
    rw [h, ← bt_len x]; simp
  have hy : s.extract (x.size + 1) s.size = y := by
    apply bt_inj; unfold bt; rw [Lib.extract_data]
    show ((bt s).drop (x.size + 1)).take (s.size - (x.size + 1)) = bt y
    rw [h, show x.size + 1 = (bt x).length + 1 by rw [bt_len], List.drop_append]
    simp only [Nat.add_sub_cancel_left, List.drop_succ_cons, List.drop_zero]
    rw [List.drop_eq_nil_of_le (by omega), List.nil_append, List.take_of_length_le]
    have h1 := bt_len x
    have h2 := bt_len y
    omega
  have hm := get_mid h
  have hd : Utf8.decode s x.size = (32, 1) := by rw [dec_low (by rw [hm]; decide), hm]; rfl
  rw [G_cut hr (by omega), rwsum_append, hx, G_cons (i := x.size) (by omega), rwsum_cons, hd]
  have hp : (pc s x.size).r = 32 := by rw [pc_rune (by rw [hd]; decide), hd]; rfl
  have hs := rw_shift s (x.size + 1) _ 0 (Nat.le_refl _)
  rw [hy, Nat.add_zero] at hs
  rw [hp, show wd 32 = 1 by decide, ← hs]
  omega

/-- How wide a row of parts is. -/
def gwid : List (ByteArray × Nat) → Nat
  | [] => 0
  | [p] => p.2
  | p :: q :: l => p.2 + 1 + gwid (q :: l)
theorem gwid_snoc : ∀ (g : List (ByteArray × Nat)) (p : ByteArray × Nat), g ≠ [] → gwid (g ++ [p]) = gwid g + 1 + p.2
  | [], p, h => absurd rfl h
  | [a], p, _ => rfl
  | a :: b :: g, p, _ => by
    have := gwid_snoc (b :: g) p (by simp)
    show a.2 + 1 + gwid (b :: g ++ [p]) = a.2 + 1 + gwid (b :: g) + 1 + p.2
    rw [this]; omega
theorem rw_join {width : Int} : ∀ (g : List (ByteArray × Nat)) (x : ByteArray), g ≠ [] → (∀ p ∈ g, Good width p) → bt x = jn (g.map fun p => bt p.1) → rwsum (G x 0) = gwid g
  | [], x, h, _, _ => absurd rfl h
  | [p], x, _, hg, hx => by
    have e : x = p.1 := bt_inj hx
    rw [e]; exact (hg p (by simp)).2.2.1.symm
  | p :: q :: g, x, _, hg, hx => by
    have hx' : bt x = bt p.1 ++ 32 :: bt ⟨(jn ((q :: g).map fun p => bt p.1)).toArray⟩ := hx
    rw [rw_blank hx', rw_join (q :: g) ⟨(jn ((q :: g).map fun p => bt p.1)).toArray⟩ (by simp) (fun y hy => hg y (List.mem_cons_of_mem _ hy)) rfl, ← (hg p (by simp)).2.2.1]
    rfl

/-- A line: its text, how wide, its first part. -/
structure Ln where
  x : ByteArray
  f : Nat
  p0 : ByteArray × Nat
def LineOK (width : Int) (a : Ln) : Prop := ∃ g : List (ByteArray × Nat), (∀ p ∈ a.p0 :: g, Good width p) ∧ bt a.x = jn ((a.p0 :: g).map fun p => bt p.1) ∧ a.f = gwid (a.p0 :: g) ∧ (a.f : Int) ≤ width
def Nxt (width : Int) (a b : Ln) : Prop := width - (a.f : Int) < 1 + (b.p0.2 : Int)
def Chn (width : Int) (M : List Ln) : Prop := ∀ i a b, M[i]? = some a → M[i + 1]? = some b → Nxt width a b
theorem chn_snoc {width : Int} {M : List Ln} {c b : Ln} (h : Chn width (M ++ [c])) (hn : Nxt width c b) : Chn width (M ++ [c] ++ [b]) := by
  intro i a d ha hd
  have hl : (M ++ [c]).length = M.length + 1 := by simp
  rcases Nat.lt_or_ge (i + 1) (M.length + 1) with hi | hi
  · rw [List.getElem?_append_left (by omega)] at ha hd
    exact h i a d ha hd
  · rw [List.getElem?_append_right (by omega), hl] at hd
    have h0 : i + 1 - (M.length + 1) = 0 := by
      rcases Nat.eq_zero_or_pos (i + 1 - (M.length + 1)) with h | h
      · exact h
      · rw [List.getElem?_eq_none (by simp; omega)] at hd; cases hd
    rw [h0] at hd
    simp at hd; subst hd
    rw [List.getElem?_append_left (by omega), List.getElem?_append_right (by omega), show i - M.length = 0 by omega] at ha
    simp at ha; subst ha
    exact hn
theorem chn_last {width : Int} {M : List Ln} {c d : Ln} (h : Chn width (M ++ [c])) (e : d.p0 = c.p0) : Chn width (M ++ [d]) := by
  intro i a b ha hb
  have hbl : i + 1 < M.length + 1 := by
    rcases Nat.lt_or_ge (i + 1) (M.length + 1) with h | h
    · exact h
    · rw [List.getElem?_eq_none (by simp; omega)] at hb; cases hb
  rw [List.getElem?_append_left (by omega)] at ha
  have ha' : (M ++ [c])[i]? = some a := by rw [List.getElem?_append_left (by omega)]; exact ha
  rcases Nat.lt_or_ge (i + 1) M.length with hi | hi
  · rw [List.getElem?_append_left hi] at hb
    exact h i a b ha' (by rw [List.getElem?_append_left hi]; exact hb)
  · rw [List.getElem?_append_right hi, show i + 1 - M.length = 0 by omega] at hb
    simp at hb; subst hb
    have := h i a c ha' (by rw [List.getElem?_append_right hi, show i + 1 - M.length = 0 by omega]; rfl)
    unfold Nxt at this ⊢
    rw [e]; exact this

theorem snoc_ind {α : Type} {Q : List α → Prop} (h0 : Q []) (h1 : ∀ l a, Q l → Q (l ++ [a])) (l : List α) : Q l := by
  suffices h : ∀ r : List α, Q r.reverse by
    have := h l.reverse
    rwa [List.reverse_reverse] at this
  intro r
  induction r with
  | nil => exact h0
  | cons a r ih => rw [List.reverse_cons]; exact h1 _ _ ih
def FoldIs (width : Int) (P : List (ByteArray × Nat)) : Prop := (P = [] ∧ foldL width P = ⟨[], [], 0⟩) ∨
    ∃ (M : List Ln) (c : Ln), (∀ a ∈ M ++ [c], LineOK width a) ∧ Chn width (M ++ [c]) ∧ foldL width P = ⟨M.map Ln.x, bt c.x, c.f⟩ ∧ jn ((M ++ [c]).map fun a => bt a.x) = jn (P.map fun p => bt p.1)
/-- What the lines of a row of parts are. -/
theorem fold_lines (width : Int) (P : List (ByteArray × Nat)) (hP : ∀ p ∈ P, Good width p) : FoldIs width P := by
  revert hP
  refine snoc_ind (Q := fun P => (∀ p ∈ P, Good width p) → FoldIs width P) ?_ ?_ P
  · intro hP
    exact .inl ⟨rfl, rfl⟩
  · intro P p ih hP
    have hp := hP p (by simp)
    unfold FoldIs; rw [foldL_snoc]
    rcases ih (fun x hx => hP x (by simp [hx])) with ⟨rfl, hf⟩ | ⟨M, c, hM, hC, hf, hJ⟩
    · refine .inr ⟨[], ⟨p.1, p.2, p⟩, ?_, ?_, ?_, rfl⟩
      · intro a ha
        simp at ha; subst ha
        exact ⟨[], by simpa using hp, rfl, rfl, hp.2.2.2⟩
      · intro i a b ha hb; simp at hb
      · rw [hf, step_empty rfl]; simp
    · rw [hf]
      have hc := hM c (by simp)
      obtain ⟨g, hg, hx, hfw, hle⟩ := hc
      have hne : bt c.x ≠ [] := by
        intro e
        rw [hx] at e
        have h0 := (hg c.p0 (by simp)).1
        cases g with
        | nil =>
          have h1 : bt c.p0.1 = [] := e
          have h2 := bt_len c.p0.1
          rw [h1] at h2; simp at h2; omega
        | cons q g => simp [jn] at e
      have hPne : P.map (fun p => bt p.1) ≠ [] := by
        intro e
        have hPn : P = [] := List.map_eq_nil_iff.1 e
        subst hPn
        have h1 : foldL width [] = ⟨[], [], 0⟩ := rfl
        rw [h1] at hf
        exact hne (congrArg Ls.line hf).symm
      by_cases hfl : width - (c.f : Int) < 1 + (p.2 : Int)
      · refine .inr ⟨M ++ [c], ⟨p.1, p.2, p⟩, ?_, chn_snoc hC hfl, ?_, ?_⟩
        · intro a ha
          rw [List.mem_append] at ha
          rcases ha with ha | ha
          · exact hM a ha
          · simp at ha; subst ha
            exact ⟨[], by simpa using hp, rfl, rfl, hp.2.2.2⟩
        · rw [step_flush hne hfl]
          simp only [List.map_append, List.map_cons, List.map_nil]
        · rw [List.map_append, List.map_append (l₁ := P), List.map_cons, List.map_nil, List.map_cons, List.map_nil, jn_snoc _ _ (by simp), jn_snoc _ _ hPne, hJ]
      · refine .inr ⟨M, ⟨⟨(bt c.x ++ 32 :: bt p.1).toArray⟩, c.f + 1 + p.2, c.p0⟩, ?_, chn_last hC rfl, ?_, ?_⟩
        · intro a ha
          rw [List.mem_append] at ha
          rcases ha with ha | ha
          · exact hM a (by simp [ha])
          · simp at ha; subst ha
            refine ⟨g ++ [p], ?_, ?_, ?_, ?_⟩
            · intro y hy
              simp only [List.mem_cons, List.mem_append, List.mem_nil_iff, or_false] at hy
              rcases hy with rfl | hy | rfl
              · exact hg _ (by simp)
              · exact hg _ (by simp [hy])
              · exact hp
            · show bt c.x ++ 32 :: bt p.1 = _
              rw [← List.cons_append, List.map_append, List.map_cons (l := []), List.map_nil, jn_snoc _ _ (by simp), hx]
            · show c.f + 1 + p.2 = _
              rw [← List.cons_append, gwid_snoc _ _ (by simp), hfw]
            · show ((c.f + 1 + p.2 : Nat) : Int) ≤ width
              omega
        · rw [step_go hne hfl]
        · rw [List.map_append, List.map_append (l₁ := P), List.map_cons, List.map_nil, List.map_cons, List.map_nil, jn_snoc _ _ hPne, ← hJ, List.map_append, List.map_cons, List.map_nil]
          exact jn_last _ _ _
/-- The same of the lines that come out. -/
theorem lines_are (width : Int) (P : List (ByteArray × Nat)) (hP : ∀ p ∈ P, Good width p) : ∃ M : List Ln, (∀ a ∈ M, LineOK width a) ∧ Chn width M ∧ linesOf width P = M.map Ln.x ∧ jn ((linesOf width P).map bt) = jn (P.map fun p => bt p.1) := by
  unfold linesOf
  rcases fold_lines width P hP with ⟨rfl, hf⟩ | ⟨M, c, hM, hC, hf, hJ⟩
  · exact ⟨[], fun a ha => by simp at ha, fun i a b ha => by simp at ha, by rw [hf]; rfl, by rw [hf]; rfl⟩
  · have hne : bt c.x ≠ [] := by
      intro e
      obtain ⟨g, hg, hx, hfw, hle⟩ := hM c (by simp)
      rw [hx] at e
      have h0 := (hg c.p0 (by simp)).1
      cases g with
      | nil =>
        have h1 : bt c.p0.1 = [] := e
        have h2 := bt_len c.p0.1
        rw [h1] at h2; simp at h2; omega
      | cons q g => simp [jn] at e
    rw [hf]
    simp only
    rw [if_neg hne]
    have e : M.map Ln.x ++ [⟨(bt c.x).toArray⟩] = (M ++ [c]).map Ln.x := by
      rw [List.map_append, List.map_cons, List.map_nil]
    refine ⟨M ++ [c], hM, hC, e, ?_⟩
    rw [e, List.map_map]; exact hJ
end Go.Proofs.YtdfhpblceoaofaaDoor
