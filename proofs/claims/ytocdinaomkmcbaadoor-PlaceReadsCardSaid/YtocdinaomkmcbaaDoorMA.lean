/-
  The mathematics of places and their texts: what a place's text is, that it is read back, that texts part at the three bytes between.
-/
import Derived.Lib.AtoiAll
import Derived.Lib.ItoaMem
import Derived.Lib.IndexMore
import Derived.Lib.IndexLaws
import Derived.Lib.ItoaLen
namespace Go.Proofs.YtocdinaomkmcbaaDoor
set_option linter.unusedVariables false

abbrev Pl := ByteArray × Int
def okB (c : UInt8) : Bool := decide (33 ≤ c.toNat ∧ c.toNat ≤ 126 ∧ c.toNat ≠ 58)
def may (p : Pl) : Bool := decide (1 ≤ p.1.size ∧ p.1.size ≤ 120 ∧ 0 ≤ p.2 ∧ p.2 ≤ 1048576) && p.1.data.toList.all okB
def chk (l : List Pl) : Int := if l.all may then (if l.length ≤ 64 then 0 else 31) else 30
def txP (p : Pl) : List UInt8 := p.1.data.toList ++ 58 :: Lib.itoa p.2
def sepL : List UInt8 := [32, 60, 32]
def join : List (List UInt8) → List UInt8
  | [] => []
  | [x] => x
  | x :: y :: l => x ++ sepL ++ join (y :: l)
/-- A stack's text, the outermost place first in the list. -/
def txL (l : List Pl) : List UInt8 := join (l.reverse.map txP)

theorem may_iff {p : Pl} : may p = true ↔ 1 ≤ p.1.size ∧ p.1.size ≤ 120 ∧ 0 ≤ p.2 ∧ p.2 ≤ 1048576 ∧ ∀ c ∈ p.1.data.toList, 33 ≤ c.toNat ∧ c.toNat ≤ 126 ∧ c.toNat ≠ 58 := by
  unfold may okB
  simp only [Bool.and_eq_true, decide_eq_true_eq, List.all_eq_true]
  constructor
  · rintro ⟨⟨a, b, c, d⟩, e⟩; exact ⟨a, b, c, d, e⟩
  · rintro ⟨a, b, c, d, e⟩; exact ⟨⟨a, b, c, d⟩, e⟩

/-! Numerals. -/
theorem dec_mem (u : Nat) : ∀ c ∈ Lib.decDigits u, 48 ≤ c.toNat ∧ c.toNat ≤ 57 := by
  induction u using Nat.strongRecOn with
  | _ u ih =>
    intro c hc
    rw [Lib.decDigits] at hc
    split at hc
    · rename_i h
      simp only [List.mem_singleton] at hc
      subst hc
      rw [UInt8.toNat_ofNat']
      omega
    · rename_i h
      rcases List.mem_append.1 hc with hc | hc
      · exact ih (u / 10) (by omega) c hc
      · simp only [List.mem_singleton] at hc
        subst hc
        rw [UInt8.toNat_ofNat']
        omega
theorem dec_ne (u : Nat) : Lib.decDigits u ≠ [] := by
  rw [Lib.decDigits]; split <;> simp
theorem uint_snoc (l : List UInt8) (c : UInt8) : ∀ (acc v : Nat), Lib.parseUint10 acc l = .ok v → 48 ≤ c.toNat → c.toNat ≤ 57 → v * 10 + (c.toNat - 48) < 1844674407370955162 → Lib.parseUint10 acc (l ++ [c]) = .ok (v * 10 + (c.toNat - 48)) := by
  induction l with
  | nil =>
    intro acc v h h0 h1 h2
    simp only [Lib.parseUint10] at h
    injection h with h
    subst h
    simp only [List.nil_append, Lib.parseUint10]
    rw [if_pos ⟨h0, h1⟩, if_neg (by omega), if_neg (by omega)]
  | cons b l ih =>
    intro acc v h h0 h1 h2
    simp only [Lib.parseUint10] at h
    simp only [List.cons_append, Lib.parseUint10]
    split at h
    · rename_i hb
      rw [if_pos hb]
      split at h
      · cases h
      · rename_i hc
        rw [if_neg hc]
        split at h
        · cases h
        · rename_i hd
          rw [if_neg hd]
          exact ih _ v h h0 h1 h2
    · cases h
theorem uint_dec (u : Nat) (hu : u < 100000000) : Lib.parseUint10 0 (Lib.decDigits u) = .ok u := by
  induction u using Nat.strongRecOn with
  | _ u ih =>
    rw [Lib.decDigits]
    split
    · rename_i h
      have e : (UInt8.ofNat (48 + u)).toNat = 48 + u := by rw [UInt8.toNat_ofNat']; omega
      simp only [Lib.parseUint10, e]
      rw [if_pos (by omega), if_neg (by omega), if_neg (by omega)]
      congr 1; omega
    · rename_i h
      have e : (UInt8.ofNat (48 + u % 10)).toNat = 48 + u % 10 := by rw [UInt8.toNat_ofNat']; omega
      rw [uint_snoc _ _ 0 (u / 10) (ih (u / 10) (by omega) (by omega)) (by omega) (by omega) (by omega), e]
      congr 1; omega
theorem atoi_dec (u : Nat) (hu : u < 100000000) : Lib.atoiAll (Lib.decDigits u) = .ok (u : Int) := by
  have hm := dec_mem u
  have hn := dec_ne u
  have hp := uint_dec u hu
  cases hl : Lib.decDigits u with
  | nil => exact absurd hl hn
  | cons c r =>
    rw [hl] at hm hp
    have hc := hm c (by simp)
    unfold Lib.atoiAll
    simp only
    rw [if_neg (by omega)]
    unfold Lib.parseMag
    rw [if_neg (by simp), hp]
    simp only
    rw [if_neg (by omega), if_neg (by omega), if_neg (by omega)]
theorem itoa_dec {n : Int} (h : 0 ≤ n) : Lib.itoa n = Lib.decDigits n.toNat := by
  obtain ⟨u, rfl⟩ := Int.eq_ofNat_of_zero_le h
  rw [Lib.itoa_nonneg]; simp
theorem atoi_itoa {n : Int} (h : 0 ≤ n) (h1 : n ≤ 1048576) : Lib.atoiAll (Lib.itoa n) = .ok n := by
  rw [itoa_dec h, atoi_dec _ (by omega)]
  congr 1; omega
theorem itoa_mem {n : Int} (h : 0 ≤ n) : ∀ c ∈ Lib.itoa n, 48 ≤ c.toNat ∧ c.toNat ≤ 57 := by
  rw [itoa_dec h]; exact dec_mem _

/-! The first colon. -/
theorem index_one {a r : List UInt8} {c : UInt8} (h : c ∉ a) : Lib.index (a ++ c :: r) [c] = (a.length : Int) := by
  induction a with
  | nil => simp [Lib.index, List.isPrefixOf]
  | cons b a ih =>
    have hb : ¬ c = b := by rintro rfl; simp at h
    have ha : c ∉ a := fun h' => h (by simp [h'])
    simp only [List.cons_append, Lib.index, List.isPrefixOf]
    rw [ih ha]
    have e : ((a.length : Int) == -1) = false := beq_eq_false_iff_ne.2 (by omega)
    have e2 : (c == b) = false := beq_eq_false_iff_ne.2 hb
    simp [e, e2]
theorem cut_colon {a r : List UInt8} (h : (58 : UInt8) ∉ a) : Lib.cut (a ++ 58 :: r) [58] = (a, r, true) := by
  unfold Lib.cut
  rw [index_one h, if_pos (by omega)]
  simp

/-- What a part of a text is read as. -/
def rd (s : List UInt8) : Option Pl :=
  match Lib.atoiAll (Lib.cut s [58]).2.1 with
  | .ok v => if may (⟨(Lib.cut s [58]).1.toArray⟩, v) && (txP (⟨(Lib.cut s [58]).1.toArray⟩, v) == s) then some (⟨(Lib.cut s [58]).1.toArray⟩, v) else none
  | _ => none
theorem rd_some {s : List UInt8} {p : Pl} (h : rd s = some p) : may p = true ∧ txP p = s := by
  unfold rd at h
  split at h
  · split at h
    · rename_i h2
      simp only [Bool.and_eq_true, beq_iff_eq] at h2
      injection h with h
      subst h
      exact h2
    · cases h
  · cases h
theorem no_colon {p : Pl} (h : may p = true) : (58 : UInt8) ∉ p.1.data.toList := fun hc => ((may_iff.1 h).2.2.2.2 58 hc).2.2 rfl
theorem rd_txP {p : Pl} (h : may p = true) : rd (txP p) = some p := by
  obtain ⟨n, v⟩ := p
  have hm := may_iff.1 h
  unfold rd
  have e : Lib.cut (txP (n, v)) [58] = (n.data.toList, Lib.itoa v, true) := cut_colon (no_colon h)
  rw [e]
  simp only
  rw [atoi_itoa hm.2.2.1 hm.2.2.2.1]
  have en : (⟨n.data.toList.toArray⟩ : ByteArray) = n := by cases n; simp
  simp only [en, h]
  simp

/-! Parting at the three bytes. -/
theorem index_free : ∀ {a : List UInt8}, (32 : UInt8) ∉ a → Lib.index a sepL = -1 := by
  intro a h
  induction a with
  | nil => rfl
  | cons b a ih =>
    have hb : ¬ (32 : UInt8) = b := by rintro rfl; simp at h
    have ha : (32 : UInt8) ∉ a := fun h' => h (by simp [h'])
    have := ih ha
    unfold Lib.index
    have e2 : sepL.isPrefixOf (b :: a) = false := by
      simp [sepL, List.isPrefixOf, hb]
    simp [e2, this]
theorem index_sep {a r : List UInt8} (h : (32 : UInt8) ∉ a) : Lib.index (a ++ sepL ++ r) sepL = (a.length : Int) := by
  induction a with
  | nil => simp [Lib.index, List.isPrefixOf, sepL]
  | cons b a ih =>
    have hb : ¬ (32 : UInt8) = b := by rintro rfl; simp at h
    have ha : (32 : UInt8) ∉ a := fun h' => h (by simp [h'])
    have hi := ih ha
    rw [sepL] at hi ⊢
    simp only [List.cons_append, Lib.index, List.isPrefixOf]
    simp only [List.append_assoc] at hi ⊢
    rw [hi]
    have e : ((a.length : Int) == -1) = false := beq_eq_false_iff_ne.2 (by omega)
    have e2 : ((32 : UInt8) == b) = false := beq_eq_false_iff_ne.2 hb
    simp [e, e2]

def splF : Nat → List UInt8 → List (List UInt8)
  | 0, s => [s]
  | f + 1, s => if 0 ≤ Lib.index s sepL then s.take (Lib.index s sepL).toNat :: splF f (s.drop ((Lib.index s sepL).toNat + 3)) else [s]
def spl (s : List UInt8) : List (List UInt8) := splF s.length s

theorem index_fits {s sub : List UInt8} (h : 0 ≤ Lib.index s sub) : sub.isPrefixOf (s.drop (Lib.index s sub).toNat) = true := by
  induction s with
  | nil =>
    unfold Lib.index at h ⊢
    split at h
    · rename_i h2; simp [List.isEmpty_iff.1 h2]
    · omega
  | cons b l ih =>
    unfold Lib.index at h ⊢
    split
    · rename_i h2; simpa using h2
    · rename_i h2
      rw [if_neg h2] at h
      split
      · rename_i h3
        rw [if_pos h3] at h; omega
      · rename_i h3
        rw [if_neg h3] at h
        have h4 : 0 ≤ Lib.index l sub := by
          have h5 : ¬ Lib.index l sub = -1 := by simpa using h3
          have := Lib.index_ge l sub
          omega
        rw [show (Lib.index l sub + 1).toNat = (Lib.index l sub).toNat + 1 by omega, List.drop_succ_cons]
        exact ih h4
theorem index_parts {s : List UInt8} (h : 0 ≤ Lib.index s sepL) : s.take (Lib.index s sepL).toNat ++ sepL ++ s.drop ((Lib.index s sepL).toNat + 3) = s ∧ (Lib.index s sepL).toNat + 3 ≤ s.length := by
  have hp := index_fits h
  generalize (Lib.index s sepL).toNat = i at *
  have hpp : sepL <+: s.drop i := List.isPrefixOf_iff_prefix.1 hp
  obtain ⟨t, ht⟩ := hpp
  have e : s.drop (i + 3) = t := by
    rw [← List.drop_drop, ← ht]; rfl
  have el := congrArg List.length ht
  simp [sepL] at el
  refine ⟨?_, by omega⟩
  rw [e, List.append_assoc, ht]
  exact List.take_append_drop i s

theorem splF_more : ∀ (f : Nat) (s : List UInt8), s.length ≤ f → splF f s = spl s := by
  have key : ∀ (n : Nat) (s : List UInt8), s.length ≤ n → ∀ f g, s.length ≤ f → s.length ≤ g → splF f s = splF g s := by
    intro n
    induction n with
    | zero =>
      intro s hs f g hf hg
      obtain rfl : s = [] := List.eq_nil_of_length_eq_zero (by omega)
      cases f <;> cases g <;> simp [splF, Lib.index, sepL]
    | succ n ih =>
      intro s hs f g hf hg
      by_cases h0 : s.length = 0
      · obtain rfl : s = [] := List.eq_nil_of_length_eq_zero h0
        cases f <;> cases g <;> simp [splF, Lib.index, sepL]
      · cases f with
        | zero => omega
        | succ f =>
          cases g with
          | zero => omega
          | succ g =>
            simp only [splF]
            by_cases hi : 0 ≤ Lib.index s sepL
            · rw [if_pos hi, if_pos hi]
              have := (index_parts hi).2
              have hl : (s.drop ((Lib.index s sepL).toNat + 3)).length = s.length - ((Lib.index s sepL).toNat + 3) := List.length_drop
              rw [ih (s.drop ((Lib.index s sepL).toNat + 3)) (by omega) f g (by omega) (by omega)]
            · rw [if_neg hi, if_neg hi]
  intro f s hs
  exact key s.length s (Nat.le_refl _) f s.length hs (Nat.le_refl _)
theorem spl_last {s : List UInt8} (h : Lib.index s sepL < 0) : spl s = [s] := by
  unfold spl
  cases hl : s.length with
  | zero => simp [splF]
  | succ n => simp only [splF]; rw [if_neg (by omega)]
theorem spl_more {s : List UInt8} (h : 0 ≤ Lib.index s sepL) : spl s = s.take (Lib.index s sepL).toNat :: spl (s.drop ((Lib.index s sepL).toNat + 3)) := by
  have hb := (index_parts h).2
  have hl : (s.drop ((Lib.index s sepL).toNat + 3)).length = s.length - ((Lib.index s sepL).toNat + 3) := List.length_drop
  rw [spl]
  cases hn : s.length with
  | zero => omega
  | succ n =>
    simp only [splF]
    rw [if_pos h, splF_more _ _ (by omega)]
theorem spl_ne (s : List UInt8) : spl s ≠ [] := by
  by_cases h : 0 ≤ Lib.index s sepL
  · rw [spl_more h]; simp
  · rw [spl_last (by omega)]; simp
theorem join_cons {x : List UInt8} {l : List (List UInt8)} (h : l ≠ []) : join (x :: l) = x ++ sepL ++ join l := by
  cases l with
  | nil => exact absurd rfl h
  | cons y l => rfl
theorem join_spl (s : List UInt8) : join (spl s) = s := by
  have key : ∀ (n : Nat) (s : List UInt8), s.length ≤ n → join (spl s) = s := by
    intro n
    induction n with
    | zero =>
      intro s hs
      obtain rfl : s = [] := List.eq_nil_of_length_eq_zero (by omega)
      rfl
    | succ n ih =>
      intro s hs
      by_cases hi : 0 ≤ Lib.index s sepL
      · obtain ⟨h1, h2⟩ := index_parts hi
        have hl : (s.drop ((Lib.index s sepL).toNat + 3)).length = s.length - ((Lib.index s sepL).toNat + 3) := List.length_drop
        rw [spl_more hi, join_cons (spl_ne _), ih _ (by omega)]
        exact h1
      · rw [spl_last (by omega)]; rfl
  exact key _ s (Nat.le_refl _)
theorem spl_join : ∀ (l : List (List UInt8)), l ≠ [] → (∀ x ∈ l, (32 : UInt8) ∉ x) → spl (join l) = l := by
  intro l
  induction l with
  | nil => intro h; exact absurd rfl h
  | cons x l ih =>
    intro _ hx
    by_cases hl : l = []
    · subst hl
      have := index_free (hx x (by simp))
      exact spl_last (by show Lib.index x sepL < 0; omega)
    · rw [join_cons hl]
      have hi := index_sep (r := join l) (hx x (by simp))
      rw [spl_more (by rw [hi]; omega), hi]
      have e1 : ((x.length : Int)).toNat = x.length := by simp
      rw [e1]
      have e2 : (x ++ sepL ++ join l).take x.length = x := by simp
      have e3 : (x ++ sepL ++ join l).drop (x.length + 3) = join l := by
        rw [show x.length + 3 = (x ++ sepL).length by simp [sepL]]
        exact List.drop_left
      rw [e2, e3, ih hl (fun y hy => hx y (by simp [hy]))]

theorem no_blank {p : Pl} (h : may p = true) : (32 : UInt8) ∉ txP p := by
  have hm := may_iff.1 h
  intro hc
  unfold txP at hc
  rcases List.mem_append.1 hc with hc | hc
  · have := (hm.2.2.2.2 32 hc).1; simp at this
  · rcases List.mem_cons.1 hc with hc | hc
    · simp at hc
    · have := (itoa_mem hm.2.2.1 32 hc).1; simp at this

/-- The stack that a text is. -/
def prs (s : List UInt8) : Option (List Pl) :=
  if s = [] then some [] else
  match (spl s).mapM rd with
  | some l => if l.length ≤ 64 then some l.reverse else none
  | none => none
theorem mapM_txP : ∀ (l : List Pl), (∀ p ∈ l, may p = true) → (l.map txP).mapM rd = some l := by
  intro l
  induction l with
  | nil => intro _; rfl
  | cons p l ih =>
    intro h
    rw [List.map_cons, List.mapM_cons, rd_txP (h p (by simp)), ih (fun q hq => h q (by simp [hq]))]
    rfl
theorem mapM_some : ∀ {s : List (List UInt8)} {l : List Pl}, s.mapM rd = some l → l.map txP = s ∧ ∀ p ∈ l, may p = true := by
  intro s
  induction s with
  | nil => intro l h; simp at h; subst h; simp
  | cons x s ih =>
    intro l h
    rw [List.mapM_cons] at h
    cases hx : rd x with
    | none => rw [hx] at h; simp at h
    | some p =>
      rw [hx] at h
      cases hs : s.mapM rd with
      | none => rw [hs] at h; simp at h
      | some l' =>
        rw [hs] at h
        simp at h
        subst h
        obtain ⟨h1, h2⟩ := ih hs
        obtain ⟨h3, h4⟩ := rd_some hx
        refine ⟨by simp [h1, h4], ?_⟩
        intro q hq
        rcases List.mem_cons.1 hq with rfl | hq
        · exact h3
        · exact h2 q hq
theorem chk_ok {l : List Pl} : chk l = 0 ↔ (∀ p ∈ l, may p = true) ∧ l.length ≤ 64 := by
  unfold chk
  by_cases h : l.all may = true
  · rw [if_pos h]
    by_cases h2 : l.length ≤ 64
    · rw [if_pos h2]; exact ⟨fun _ => ⟨List.all_eq_true.1 h, h2⟩, fun _ => rfl⟩
    · rw [if_neg h2]; exact ⟨fun h => by omega, fun h => absurd h.2 h2⟩
  · rw [if_neg h]; exact ⟨fun h => by omega, fun h' => absurd (List.all_eq_true.2 h'.1) h⟩
theorem txP_ne (p : Pl) : txP p ≠ [] := by unfold txP; simp
theorem join_ne {l : List Pl} (h : l ≠ []) : join (l.map txP) ≠ [] := by
  cases l with
  | nil => exact absurd rfl h
  | cons p l =>
    cases l with
    | nil => exact txP_ne p
    | cons q l => simp [join, txP_ne]
/-- A text is read as the one stack whose text it is. -/
theorem prs_iff {s : List UInt8} {l : List Pl} : prs s = some l ↔ chk l = 0 ∧ txL l = s := by
  unfold prs
  by_cases h0 : s = []
  · subst h0
    rw [if_pos rfl]
    constructor
    · intro h
      injection h with h
      subst h
      exact ⟨rfl, rfl⟩
    · rintro ⟨_, h⟩
      by_cases hl : l = []
      · rw [hl]
      · exact absurd h (join_ne (by simpa using hl))
  · rw [if_neg h0]
    constructor
    · intro h
      cases hm : (spl s).mapM rd with
      | none => rw [hm] at h; cases h
      | some m =>
        rw [hm] at h
        simp only at h
        split at h
        · rename_i h64
          injection h with h
          subst h
          obtain ⟨h1, h2⟩ := mapM_some hm
          refine ⟨chk_ok.2 ⟨fun p hp => h2 p (by simpa using hp), by simpa using h64⟩, ?_⟩
          unfold txL
          rw [List.reverse_reverse, h1, join_spl]
        · cases h
    · rintro ⟨hc, ht⟩
      obtain ⟨h1, h2⟩ := chk_ok.1 hc
      have hl : l.reverse ≠ [] := by
        intro he
        apply h0
        rw [← ht]; unfold txL; rw [he]; rfl
      have : (spl s).mapM rd = some l.reverse := by
        rw [← ht]
        unfold txL
        rw [spl_join _ (by simpa using hl) (by
          intro x hx
          obtain ⟨p, hp, rfl⟩ := List.mem_map.1 hx
          exact no_blank (h1 p (by simpa using hp)))]
        exact mapM_txP _ (fun p hp => h1 p (by simpa using hp))
      rw [this]
      simp only
      rw [if_pos (by simpa using h2), List.reverse_reverse]
/-- Of unlike stacks the texts are unlike. -/
theorem txL_inj {l m : List Pl} (hl : chk l = 0) (hm : chk m = 0) (h : txL l = txL m) : l = m := by
  have h1 := prs_iff.2 ⟨hl, rfl⟩
  have h2 := prs_iff.2 ⟨hm, rfl⟩
  rw [h, h2] at h1
  injection h1 with h1
  exact h1.symm
theorem txP_size {p : Pl} (h : may p = true) : (txP p).length ≤ 142 := by
  have hm := may_iff.1 h
  have := Lib.itoa_length_le p.2 (by omega) (by omega)
  unfold txP
  have e : p.1.data.toList.length = p.1.size := by simp
  simp only [List.length_append, List.length_cons, e]
  omega
end Go.Proofs.YtocdinaomkmcbaaDoor
