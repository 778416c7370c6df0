/-
  PlaceNone: its places, its nodes.
-/
import Derived.Test.YtfhnhilnjcfpkaaKB
namespace Go.Proofs.Ytfhnhilnjcfpkaa
open Go.ChangeShapes Go.WideShapes Go.ChangeAt Go.RowKit Go.Shelf
set_option linter.unusedVariables false

def pf (j : Nat) : Pl := (⟨#[102]⟩, 1048576 - (j : Int))
def pg (j : Nat) : Pl := (⟨#[103]⟩, (j : Int))
def fl (k : Nat) : List Pl := (List.range k).map pf
def ch (k : Nat) : List Nd := rootN ++ (List.range k).map fun j => (j, pf j)
def trN (i : Nat) : List Nd := ch 64 ++ (List.range i).map fun j => (0, pg j)
theorem pf_may (j : Nat) (h : j ≤ 1048576) : may (pf j) = true := by
  refine may_iff.2 ⟨(by decide : 1 ≤ (ByteArray.mk #[102]).size), (by decide : (ByteArray.mk #[102]).size ≤ 120), ?_, ?_, ?_⟩
  · show 0 ≤ 1048576 - (j : Int); omega
  · show 1048576 - (j : Int) ≤ 1048576; omega
  · intro c hc
    simp [pf] at hc
    subst hc
    decide
theorem pg_may (j : Nat) (h : j ≤ 1048576) : may (pg j) = true := by
  refine may_iff.2 ⟨(by decide : 1 ≤ (ByteArray.mk #[103]).size), (by decide : (ByteArray.mk #[103]).size ≤ 120), ?_, ?_, ?_⟩
  · show 0 ≤ (j : Int); omega
  · show (j : Int) ≤ 1048576; omega
  · intro c hc
    simp [pg] at hc
    subst hc
    decide
theorem fl_len (k : Nat) : (fl k).length = k := by simp [fl]
theorem fl_succ (k : Nat) : fl (k + 1) = fl k ++ [pf k] := by simp [fl, List.range_succ]
theorem fl_may (k : Nat) (h : k ≤ 65) : ∀ p ∈ fl k, may p = true := by
  intro p hp
  obtain ⟨j, hj, rfl⟩ := List.mem_map.1 hp
  have := List.mem_range.1 hj
  exact pf_may j (by omega)
theorem fl_chk (k : Nat) (h : k ≤ 64) : chk (fl k) = 0 := chk_ok.2 ⟨fl_may k (by omega), by rw [fl_len]; exact h⟩
theorem fl_long : chk (fl 65) = 31 := by
  unfold chk
  rw [if_pos (List.all_eq_true.2 (fl_may 65 (by omega))), if_neg (by rw [fl_len]; omega)]
theorem ch_len (k : Nat) : (ch k).length = k + 1 := by simp [ch, rootN]
theorem ch_succ (k : Nat) : ch (k + 1) = ch k ++ [(k, pf k)] := by simp [ch, List.range_succ]
theorem tr_len (i : Nat) : (trN i).length = i + 65 := by simp [trN, ch_len]; omega
theorem tr_succ (i : Nat) : trN (i + 1) = trN i ++ [(0, pg i)] := by simp [trN, List.range_succ]
theorem ch_get (k i : Nat) (x : Nd) (hi : 1 ≤ i) (h : (ch k)[i]? = some x) : x = (i - 1, pf (i - 1)) ∧ i ≤ k := by
  have hl := (List.getElem?_eq_some_iff.1 h).1
  rw [ch_len] at hl
  unfold ch at h
  rw [List.getElem?_append_right (by show 1 ≤ i; exact hi)] at h
  rw [show rootN.length = 1 from rfl, List.getElem?_map, List.getElem?_range (by omega)] at h
  simp only [Option.map_some, Option.some.injEq] at h
  exact ⟨h.symm, by omega⟩
theorem tr_get (k i : Nat) (x : Nd) (hi : 1 ≤ i) (h : (trN k)[i]? = some x) : (x = (i - 1, pf (i - 1)) ∧ i ≤ 64) ∨ (x = (0, pg (i - 65)) ∧ 65 ≤ i ∧ i < k + 65) := by
  have hl := (List.getElem?_eq_some_iff.1 h).1
  rw [tr_len] at hl
  unfold trN at h
  by_cases h1 : i < 65
  · rw [List.getElem?_append_left (by rw [ch_len]; exact h1)] at h
    exact .inl (ch_get 64 i x hi h)
  · rw [List.getElem?_append_right (by rw [ch_len]; omega), ch_len, List.getElem?_map, List.getElem?_range (by omega)] at h
    simp only [Option.map_some, Option.some.injEq] at h
    exact .inr ⟨h.symm, by omega, by omega⟩
theorem seek_no {nd : List Nd} {x : Nd} (h : ∀ i, 1 ≤ i → nd[i]? ≠ some x) : seekN nd x = none := by
  unfold seekN
  rw [List.find?_eq_none]
  intro i _
  simp only [decide_eq_true_eq, not_and]
  exact h i
theorem pf_inj {i j : Nat} (h : pf i = pf j) : i = j := by
  have := congrArg Prod.snd h
  simp only [pf] at this
  omega
theorem pg_inj {i j : Nat} (h : pg i = pg j) : i = j := by
  have := congrArg Prod.snd h
  simp only [pg] at this
  omega
theorem pf_pg {i j : Nat} : pf i ≠ pg j := by
  intro h
  have := congrArg (fun p : Pl => p.1.data) h
  simp [pf, pg] at this
theorem ins_ch (k : Nat) : insN (ch k) k (pf k) = (k + 1, ch (k + 1)) := by
  have hs : seekN (ch k) (k, pf k) = none := seek_no fun i hi e => by
    obtain ⟨h1, h2⟩ := ch_get k i _ hi e
    have := congrArg Prod.fst h1
    simp only at this
    omega
  unfold insN
  rw [hs, ch_len, ch_succ]
theorem add_ch (k : Nat) : addN rootN 0 (fl k) = (k, ch k) := by
  induction k with
  | zero => rfl
  | succ k ih => rw [fl_succ, addN_snoc, ih]; exact ins_ch k
theorem ins_tr (i : Nat) : insN (trN i) 0 (pg i) = (i + 65, trN (i + 1)) := by
  have hs : seekN (trN i) (0, pg i) = none := seek_no fun j hj e => by
    rcases tr_get i j _ hj e with ⟨h1, _⟩ | ⟨h1, h2, h3⟩
    · exact pf_pg (congrArg Prod.snd h1).symm
    · have := pg_inj (congrArg Prod.snd h1)
      omega
  unfold insN
  rw [hs, tr_len, tr_succ]
/-- The place with the line 1 is none of those behind the root. -/
theorem seek_p (i : Nat) : seekN (trN i) (0, (⟨#[102]⟩, 1)) = none := seek_no fun j hj e => by
  rcases tr_get i j _ hj e with ⟨h1, h2⟩ | ⟨h1, h2, h3⟩
  · have h3 := congrArg Prod.fst h1
    have h4 := congrArg (fun x : Nd => x.2.2) h1
    simp only [pf] at h3 h4
    omega
  · have := congrArg (fun x : Nd => x.2.1.data) h1
    simp [pg] at this
theorem seek_g (i k : Nat) (h : k < i) (hw : Wf (trN i)) : seekN (trN i) (0, pg k) = some (k + 65) := by
  have hg : (trN i)[k + 65]? = some (0, pg k) := by
    unfold trN
    rw [List.getElem?_append_right (by rw [ch_len]; omega), ch_len, List.getElem?_map, show k + 65 - (64 + 1) = k by omega, List.getElem?_range h]
    rfl
  cases hs : seekN (trN i) (0, pg k) with
  | none => exact absurd hg (seek_none hs _ (by omega))
  | some j =>
    obtain ⟨s1, s2, s3⟩ := seek_some hs
    rw [hw.one j (k + 65) _ s1 (by omega) s2 hg]
theorem tr_zero : trN 0 = ch 64 := by simp [trN]
theorem ch_wf (k : Nat) (h : k ≤ 64) : Wf (ch k) := by
  have := (addN_ok (fl k) rootN 0 root_wf (by decide) (fl_may k (by omega))).1
  rw [add_ch] at this
  exact this
theorem ch_top : stk (ch 64) 64 = fl 64 := by
  have := (addN_ok (fl 64) rootN 0 root_wf (by decide) (fl_may 64 (by omega))).2.2.2.2
  rw [add_ch] at this
  simpa [stk_zero] using this
theorem tr_wf (i : Nat) (h : i ≤ 4031) : Wf (trN i) := by
  induction i with
  | zero => rw [tr_zero]; exact ch_wf 64 (by omega)
  | succ i ih =>
    have := (insN_ok (n := 0) (p := pg i) (ih (by omega)) (by rw [tr_len]; omega) (pg_may i (by omega))).1
    rw [ins_tr] at this
    exact this
end Go.Proofs.Ytfhnhilnjcfpkaa
