/-
  What Fold answers: the mathematics of it.
-/
import Derived.Test.YtocdinaomkmcbaaDoorFD
import Derived.Test.YtocdinaomkmcbaaDoorUA
namespace Go.Proofs.YtocdinaomkmcbaaDoor
open Go.ChangeShapes Go.WideShapes Go.ChangeAt Go.RowKit
set_option linter.unusedVariables false

/-- The document's best block: its length, and how many places it covers. -/
def rb (l : List Pl) : Nat → Nat × Nat
  | 0 => (0, 0)
  | n + 1 => if n + 1 ≤ l.length ∧ 2 ≤ tms l (n + 1) ∧ (rb l n).2 < (n + 1) * tms l (n + 1) then (n + 1, (n + 1) * tms l (n + 1)) else rb l n
theorem rb_bst (l : List Pl) : ∀ n, (rb l n = (0, 0) ∧ bst l n = (1, 1)) ∨ (2 ≤ (bst l n).2 ∧ 1 ≤ (bst l n).1 ∧ rb l n = ((bst l n).1, (bst l n).1 * (bst l n).2)) := by
  intro n
  induction n with
  | zero => exact .inl ⟨rfl, rfl⟩
  | succ n ih =>
    have hmul : 2 ≤ tms l (n + 1) → 2 ≤ (n + 1) * tms l (n + 1) := fun h => Nat.le_trans h (Nat.le_mul_of_pos_left _ (by omega))
    rcases ih with ⟨h1, h2⟩ | ⟨h0, h00, h1⟩
    · rw [rb, bst, h1, h2]
      by_cases hc : n + 1 ≤ l.length ∧ 2 ≤ tms l (n + 1)
      · have := hmul hc.2
        rw [if_pos ⟨hc.1, hc.2, by simp only; omega⟩, if_pos ⟨hc.1, by omega, by simp only; omega⟩]
        exact .inr ⟨hc.2, by simp, rfl⟩
      · rw [if_neg (fun h => hc ⟨h.1, h.2.1⟩), if_neg (fun h => hc ⟨h.1, h.2.1⟩)]
        exact .inl ⟨rfl, rfl⟩
    · rw [rb, bst, h1]
      by_cases hc : n + 1 ≤ l.length ∧ 2 ≤ tms l (n + 1) ∧ (bst l n).1 * (bst l n).2 < (n + 1) * tms l (n + 1)
      · rw [if_pos hc, if_pos ⟨hc.1, by omega, hc.2.2⟩]
        exact .inr ⟨hc.2.1, by simp, rfl⟩
      · rw [if_neg hc, if_neg (fun h => hc ⟨h.1, by omega, h.2.2⟩)]
        exact .inr ⟨h0, h00, rfl⟩
theorem bst_one (l : List Pl) (n : Nat) : bst l n = (1, 1) ∨ 2 ≤ (bst l n).2 := by
  rcases rb_bst l n with h | h
  · exact .inl h.2
  · exact .inr h.1
theorem rb_past {l : List Pl} : ∀ (d n : Nat), l.length ≤ n → rb l (n + d) = rb l n := by
  intro d
  induction d with
  | zero => intro n _; rfl
  | succ d ih =>
    intro n h
    rw [← Nat.add_assoc, rb, if_neg (by rintro ⟨h1, _⟩; omega)]
    exact ih n h
theorem rb_le (l : List Pl) : ∀ n, (rb l n).2 ≤ l.length ∧ (rb l n).1 ≤ n ∧ (rb l n).1 ≤ l.length := by
  intro n
  induction n with
  | zero => exact ⟨by simp [rb], by simp [rb], by simp [rb]⟩
  | succ n ih =>
    rw [rb]
    split
    · rename_i hc
      exact ⟨by have := tms_le l (n + 1); rw [Nat.mul_comm] at this; exact this, by simp, hc.1⟩
    · exact ⟨ih.1, by omega, ih.2.2⟩

/-- The last run with one place more. -/
def addP (rs : List Rn) (p : Pl) : List Rn := match rs.getLast? with
  | some r => rs.dropLast ++ [(r.1 ++ [p], r.2)]
  | none => []
theorem addP_snoc (rs : List Rn) (r : Rn) (p : Pl) : addP (rs ++ [r]) p = rs ++ [(r.1 ++ [p], r.2)] := by
  unfold addP; simp
def oneP (rs : List Rn) (al : Bool) (p : Pl) : List Rn := if al then addP rs p else rs ++ [([p], 1)]
/-- What Fold answers, of the places that are left. -/
def fdF : Nat → List Pl → List Rn → Bool → List Rn
  | 0, _, rs, _ => rs
  | _ + 1, [], rs, _ => rs
  | f + 1, p :: t, rs, al =>
    if (bst (p :: t) 8).2 = 1 then fdF f t (oneP rs al p) true
    else fdF f ((p :: t).drop ((bst (p :: t) 8).1 * (bst (p :: t) 8).2)) (rs ++ [((p :: t).take (bst (p :: t) 8).1, ((bst (p :: t) 8).2 : Int))]) false
def fd (l : List Pl) : List Rn := fdF l.length l [] false
theorem fdF_nil (f : Nat) (rs : List Rn) (al : Bool) : fdF f [] rs al = rs := by cases f <;> rfl

/-- The runs so far, and what is left. -/
structure FS (l : List Pl) (at' : Nat) (rs : List Rn) (al : Bool) : Prop where
  ofd : ∃ f, l.length ≤ at' + f ∧ fd l = fdF f (l.drop at') rs al
  ats : at' ≤ l.length
  oexp : exp rs = l.take at'
  good : ∀ r ∈ rs, 1 ≤ r.2 ∧ 1 ≤ r.1.length ∧ (1 < r.2 → r.1.length ≤ 8)
  last : al = true ↔ ∃ rs' ps, rs = rs' ++ [(ps, 1)]
  apart : ∀ i r r', rs[i]? = some r → rs[i + 1]? = some r' → r.2 ≠ 1 ∨ r'.2 ≠ 1
  few : (rs.map fun r => r.1.length).sum ≤ at'
  any : 1 ≤ at' → 1 ≤ rs.length
  cnt : rs.length ≤ at'
theorem FS.start (l : List Pl) : FS l 0 [] false :=
  ⟨⟨l.length, by omega, by simp [fd]⟩, by omega, by simp [exp], by simp, by simp, by simp, by simp, by omega, by simp⟩
theorem rep_one (l : List Pl) : rep l 1 = l := by simp [rep]
theorem blk_all : ∀ (l : List Pl) (p k : Nat), (∀ i, i < k → Blk l p i) → k * p ≤ l.length → rep (l.take p) k = l.take (k * p) := by
  intro l p k
  induction k with
  | zero => intro _ _; simp [rep]
  | succ k ih =>
    intro h hk
    have h1 := ih (fun i hi => h i (by omega)) (by rw [Nat.succ_mul] at hk; omega)
    have hb := (blk_iff hk).1 (h k (by omega))
    rw [rep, h1, ← hb, Nat.succ_mul, ← List.take_add]
theorem tmF_blk {l : List Pl} {p : Nat} : ∀ (f k : Nat), (∀ i, i < k → Blk l p i) → ∀ i, i < tmF l p f k → Blk l p i := by
  intro f
  induction f with
  | zero => intro k h; exact h
  | succ f ih =>
    intro k h
    rw [tmF]
    split
    · rename_i hb
      refine ih (k + 1) (fun i hi => ?_)
      by_cases hik : i < k
      · exact h i hik
      · obtain rfl : i = k := by omega
        exact hb
    · exact h
theorem bst_tms (l : List Pl) : ∀ n, 2 ≤ (bst l n).2 → (bst l n).2 = tms l (bst l n).1 ∧ (bst l n).1 ≤ n ∧ (bst l n).1 ≤ l.length := by
  intro n
  induction n with
  | zero => intro h; simp [bst] at h
  | succ n ih =>
    rw [bst]
    split
    · rename_i hc
      exact fun _ => ⟨rfl, Nat.le_refl _, hc.1⟩
    · exact fun h => ⟨(ih h).1, Nat.le_succ_of_le (ih h).2.1, (ih h).2.2⟩
theorem sum_snoc (rs : List Rn) (r : Rn) : ((rs ++ [r]).map fun r => r.1.length).sum = (rs.map fun r => r.1.length).sum + r.1.length := by simp
theorem drop_head {l : List Pl} {n : Nat} {p : Pl} (h : l[n]? = some p) : l.drop n = p :: l.drop (n + 1) := by
  obtain ⟨hn, rfl⟩ := List.getElem?_eq_some_iff.1 h
  exact List.drop_eq_getElem_cons hn
theorem take_snocP {l : List Pl} {n : Nat} {p : Pl} (h : l[n]? = some p) : l.take (n + 1) = l.take n ++ [p] := by
  rw [List.take_add_one, h]; rfl
theorem FS.first {l : List Pl} {n : Nat} {rs : List Rn} {p : Pl} (h : FS l n rs false) (hp : l[n]? = some p) (h1 : (bst (l.drop n) 8).2 = 1) : FS l (n + 1) (rs ++ [([p], 1)]) true := by
  obtain ⟨f, hf, he⟩ := h.ofd
  have hn := (List.getElem?_eq_some_iff.1 hp).1
  have hd := drop_head hp
  refine ⟨?_, hn, by rw [exp_snoc, h.oexp, take_snocP hp]; simp [rep_one], fun r hr => ?_, ?_, fun i r r' hi hi' => ?_, by rw [sum_snoc]; have := h.few; simp; omega, fun _ => by simp, by have := h.cnt; simp; omega⟩
  · cases f with
    | zero => omega
    | succ f =>
      rw [hd] at he h1
      refine ⟨f, by omega, he.trans ?_⟩
      rw [fdF, if_pos h1]; rfl
  · rcases List.mem_append.1 hr with hr | hr
    · exact h.good r hr
    · simp at hr; subst hr; exact ⟨by simp, by simp, by simp⟩
  · simp only [true_iff]; exact ⟨rs, [p], rfl⟩
  · by_cases hl : i + 1 < rs.length
    · rw [List.getElem?_append_left (by omega)] at hi
      rw [List.getElem?_append_left hl] at hi'
      exact h.apart i r r' hi hi'
    · have := (List.getElem?_eq_some_iff.1 hi').1
      simp at this
      have hil : i + 1 = rs.length := by omega
      rw [List.getElem?_append_left (by omega)] at hi
      refine .inl (fun hr => ?_)
      have : (false : Bool) = true := h.last.2 ⟨rs.take i, r.1, by
        have h0 : rs = rs.take (i + 1) := by rw [hil, List.take_length]
        rw [List.take_add_one, hi] at h0
        rw [← hr]; exact h0⟩
      cases this
theorem FS.more {l : List Pl} {n : Nat} {rs : List Rn} {ps : List Pl} {p : Pl} (h : FS l n (rs ++ [(ps, 1)]) true) (hp : l[n]? = some p) (h1 : (bst (l.drop n) 8).2 = 1) : FS l (n + 1) (rs ++ [(ps ++ [p], 1)]) true := by
  obtain ⟨f, hf, he⟩ := h.ofd
  have hn := (List.getElem?_eq_some_iff.1 hp).1
  have hd := drop_head hp
  refine ⟨?_, hn, ?_, fun r hr => ?_, ?_, fun i r r' hi hi' => ?_, ?_, fun _ => by simp, by have := h.cnt; simp at this ⊢; omega⟩
  · cases f with
    | zero => omega
    | succ f =>
      rw [hd] at he h1
      refine ⟨f, by omega, he.trans ?_⟩
      rw [fdF, if_pos h1]
      show fdF f _ (addP (rs ++ [(ps, 1)]) p) true = _
      rw [addP_snoc]
  · have := h.oexp
    rw [exp_snoc] at this
    rw [exp_snoc, take_snocP hp, ← this]
    show _ ++ rep (ps ++ [p]) 1 = _ ++ rep ps 1 ++ [p]
    rw [rep_one, rep_one, List.append_assoc]
  · rcases List.mem_append.1 hr with hr | hr
    · exact h.good r (by simp [hr])
    · simp at hr; subst hr; exact ⟨by simp, by simp, by simp⟩
  · simp only [true_iff]; exact ⟨rs, ps ++ [p], rfl⟩
  · by_cases hl : i + 1 < rs.length
    · rw [List.getElem?_append_left (by omega)] at hi
      rw [List.getElem?_append_left hl] at hi'
      exact h.apart i r r' (by rw [List.getElem?_append_left (by omega)]; exact hi) (by rw [List.getElem?_append_left hl]; exact hi')
    · have := (List.getElem?_eq_some_iff.1 hi').1
      simp at this
      have hil : i + 1 = rs.length := by omega
      rw [List.getElem?_append_left (by omega)] at hi
      have := h.apart i r (ps, 1) (by rw [List.getElem?_append_left (by omega)]; exact hi) (by rw [hil]; simp)
      simp at this
      exact .inl this
  · have := h.few
    rw [sum_snoc] at this ⊢
    simp at this ⊢
    omega
theorem FS.block {l : List Pl} {n b k : Nat} {rs : List Rn} {al : Bool} (h : FS l n rs al) (hn : n < l.length) (hb : bst (l.drop n) 8 = (b, k)) (hk : 2 ≤ k) : FS l (n + b * k) (rs ++ [((l.drop n).take b, (k : Int))]) false ∧ b ≤ 8 ∧ n + b * k ≤ l.length ∧ 1 ≤ b ∧ n + b ≤ l.length := by
  obtain ⟨f, hf, he⟩ := h.ofd
  obtain ⟨p, hp⟩ : ∃ p, l[n]? = some p := ⟨_, List.getElem?_eq_getElem hn⟩
  have hd := drop_head hp
  have hlen : (l.drop n).length = l.length - n := by simp
  obtain ⟨ht, hb8, hbl⟩ := bst_tms (l.drop n) 8 (by rw [hb]; exact hk)
  obtain ⟨hle, h1b, _⟩ := bst_le (l := l.drop n) (by omega) 8
  rw [hb] at ht hb8 hle h1b hbl
  simp only at ht hb8 hle h1b hbl
  have hall : rep ((l.drop n).take b) k = (l.drop n).take (b * k) := by
    rw [Nat.mul_comm b k]
    refine blk_all _ _ _ ?_ (by rw [Nat.mul_comm]; exact hle)
    rw [ht]
    exact tmF_blk _ 0 (fun i hi => by omega)
  refine ⟨⟨?_, by omega, ?_, fun r hr => ?_, ?_, fun i r r' hi hi' => ?_, ?_, fun _ => by simp, by have := h.cnt; have h9 : 1 ≤ b * k := Nat.le_trans (by omega : 1 ≤ k) (Nat.le_mul_of_pos_left _ h1b); simp; omega⟩, hb8, by omega, h1b, by omega⟩
  · cases f with
    | zero => omega
    | succ f =>
      have hbk : 1 ≤ b * k := Nat.le_trans (by omega : 1 ≤ k) (Nat.le_mul_of_pos_left _ h1b)
      refine ⟨f, by omega, he.trans ?_⟩
      rw [hd] at hb
      rw [hd, fdF, hb, if_neg (by simp only; omega), ← hd, List.drop_drop]
  · rw [exp_snoc, h.oexp]
    show _ ++ rep _ ((k : Int).toNat) = _
    rw [Int.toNat_natCast, hall, List.take_add]
  · rcases List.mem_append.1 hr with hr | hr
    · exact h.good r hr
    · simp only [List.mem_singleton] at hr
      subst hr
      exact ⟨by simp only; omega, by simp only [List.length_take, hlen]; omega, fun _ => by simp only [List.length_take, hlen]; omega⟩
  · simp only [Bool.false_eq_true, false_iff]
    rintro ⟨rs', ps, h'⟩
    have := (List.append_inj_right' h' rfl)
    simp at this
    omega
  · by_cases hl : i + 1 < rs.length
    · rw [List.getElem?_append_left (by omega)] at hi
      rw [List.getElem?_append_left hl] at hi'
      exact h.apart i r r' hi hi'
    · have := (List.getElem?_eq_some_iff.1 hi').1
      simp at this
      have hil : i + 1 = rs.length := by omega
      rw [hil] at hi'
      simp at hi'
      subst hi'
      exact .inr (by simp only; omega)
  · rw [sum_snoc]
    have := h.few
    simp only [List.length_take, hlen]
    have : b ≤ b * k := Nat.le_mul_of_pos_right _ (by omega)
    omega
theorem FS.end {l : List Pl} {rs : List Rn} {al : Bool} (h : FS l l.length rs al) : fd l = rs := by
  obtain ⟨f, _, he⟩ := h.ofd
  rw [List.drop_length, fdF_nil] at he
  exact he
end Go.Proofs.YtocdinaomkmcbaaDoor
