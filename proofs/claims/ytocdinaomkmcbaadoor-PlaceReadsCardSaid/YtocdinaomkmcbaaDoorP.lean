/-
  The document's text of a stack.
-/
import Derived.Test.YtocdinaomkmcbaaDoorO
import Derived.Test.YtocdinaomkmcbaaDoorG
namespace Go.Proofs.YtocdinaomkmcbaaDoor
open Go.ChangeShapes Go.WideShapes Go.ChangeAt Go.RowKit Go.Shelf
set_option linter.unusedVariables false

/-- The text of what is behind the first k. -/
def tk (l : List Pl) (k : Nat) : ByteArray := bts (join ((l.drop k).reverse.map txP))
theorem join_snoc : ∀ (L : List (List UInt8)) (x : List UInt8), L ≠ [] → join (L ++ [x]) = join L ++ sepL ++ x := by
  intro L
  induction L with
  | nil => intro x h; exact absurd rfl h
  | cons y L ih =>
    intro x _
    by_cases hL : L = []
    · subst hL; rfl
    · rw [List.cons_append, join_cons (by simp), ih x hL, join_cons hL]
      simp
theorem tk_end (l : List Pl) (k : Nat) (h : l.length ≤ k) : tk l k = bts [] := by unfold tk; rw [List.drop_of_length_le h]; rfl
theorem tk_first {l : List Pl} {j : Nat} {p : Pl} (hp : l[j]? = some p) (h : l.length = j + 1) : tk l j = bts (txP p) := by
  unfold tk
  rw [List.drop_eq_getElem_cons (by omega), List.drop_of_length_le (by omega), (List.getElem?_eq_some_iff.1 hp).2]
  rfl
theorem tk_more {l : List Pl} {j : Nat} {p : Pl} (hp : l[j]? = some p) (h : j + 1 < l.length) : tk l j = tk l (j + 1) ++ ⟨#[32, 60, 32]⟩ ++ bts (txP p) := by
  unfold tk
  rw [List.drop_eq_getElem_cons (i := j) (by omega), (List.getElem?_eq_some_iff.1 hp).2, List.reverse_cons, List.map_append, List.map_cons, List.map_nil, join_snoc]
  · apply ba_ext; rw [bts_list]; simp [bts, sepL]
  · intro hc
    have := congrArg List.length hc
    simp at this; omega
theorem tk_ne {l : List Pl} {k : Nat} (h : k < l.length) : (tk l k).toList.isEmpty = false := by
  rw [Lib.toList_data]
  unfold tk
  rw [bts_list]
  have := join_ne (l := (l.drop k).reverse) (by
    intro hc
    have := congrArg List.length hc
    simp at this; omega)
  cases hj : join ((l.drop k).reverse.map txP) with
  | nil => exact absurd hj this
  | cons a b => rfl
theorem txP_size' {p : Pl} (h : may p = true) : (bts (txP p)).size ≤ 142 := by
  obtain ⟨_, hs, h0, h1, _⟩ := may_iff.1 h
  have := Lib.itoa_length_le p.2 (by omega) (by omega)
  have e : p.1.data.size = p.1.size := rfl
  rw [bts_size]; unfold txP; simp; omega
theorem tk_size : ∀ (l : List Pl) (k : Nat), (∀ p ∈ l, may p = true) → k ≤ l.length → (tk l k).size ≤ 145 * (l.length - k) := by
  intro l k hm hk
  induction hd : l.length - k generalizing k with
  | zero => rw [tk_end l k (by omega), bts_size]; simp
  | succ d ih =>
    obtain ⟨p, hp⟩ : ∃ p, l[k]? = some p := ⟨_, List.getElem?_eq_getElem (by omega)⟩
    have h1 := txP_size' (hm p (List.mem_of_getElem? hp))
    by_cases h2 : l.length = k + 1
    · rw [tk_first hp h2]; omega
    · rw [tk_more hp (by omega)]
      have := ih (k + 1) (by omega) (by omega)
      have e : (⟨#[32, 60, 32]⟩ : ByteArray).size = 3 := rfl
      rw [ByteArray.size_append, ByteArray.size_append, e]; omega
theorem txP_parts (s1 : ByteArray) (p : Pl) : s1 ++ p.1 ++ ⟨#[58]⟩ ++ bts (Lib.itoa p.2) = s1 ++ bts (txP p) := by
  apply ba_ext; unfold txP; simp [bts]

set_option maxRecDepth 100000 in
set_option maxHeartbeats 4000000 in
theorem rtext_good (A : Option Addr) (cap : Nat) (l : List Pl) (w : World) (hA : At w A l) (hc : chk l = 0) :
    Calls Tryd.prog 12 #[.slice A l.length cap] w fun e w' => e = .returned (.tuple #[.string (tk l 0), .int .i64 0]) ∧ Below w.heap.size w w' := by
  obtain ⟨hmay, h64⟩ := chk_ok.1 hc
  have h1 := rcheck_any A cap l w hA (by omega)
  rw [hc] at h1
  have H1 := Lib.hid h1
  clear h1
  go_enter Tryd.func12, Tryd.ntmps12
  go_wp2_with fail
  refine H1.out.mono ?_
  rintro e W ⟨rfl, hb⟩
  have hA1 := hA.below hb (Nat.le_refl _)
  go_wp2_with fail
  go_loopw [5, 6] (fun v t wr => ∃ (k : Nat) (i : Int), v = .string (tk l k) ∧ t = .int .i64 i ∧ i = (k : Int) - 1 ∧ k ≤ l.length ∧ Below w.heap.size w wr ∧ Below W.heap.size W wr) (fun _ t _ => (intOf t + 1).toNat)
  case atStart => exact ⟨l.length, _, by rw [tk_end l _ (Nat.le_refl _)]; rfl, rfl, by omega, Nat.le_refl _, hb, Below.refl _ _⟩
  case round =>
    obtain ⟨k, i, rfl, rfl, hi, hk, hbw, hbW⟩ := hrel
    cases k with
    | zero =>
      have hi0 : ¬ (0 : Int) ≤ i := by omega
      go_wp2_with fail
      go_ret2
      exact ⟨by simp, hbw⟩
    | succ j =>
      obtain rfl : i = (j : Int) := by omega
      clear hi
      have hj0 : (0 : Int) ≤ (j : Int) := Int.natCast_nonneg _
      have hj1 : (j : Int) < (l.length : Int) := by omega
      obtain ⟨p, hp⟩ : ∃ p, l[j]? = some p := ⟨_, List.getElem?_eq_getElem (by omega)⟩
      have hmp := hmay p (List.mem_of_getElem? hp)
      obtain ⟨g, o, e', c0, c1⟩ := (hA1.below hbW (Nat.le_refl _)) j p hp
      subst e'
      have hmp' := txP_size' hmp
      have hmp2 := may_iff.1 hmp
      have hp1 : 0 ≤ p.2 ∧ p.2 ≤ 1048576 ∧ p.1.size ≤ 120 := ⟨hmp2.2.2.1, hmp2.2.2.2.1, hmp2.2.1⟩
      clear hmp2
      by_cases hlast : l.length = j + 1
      · have he : (tk l (j + 1)).toList.isEmpty = true := by rw [tk_end l _ (by omega), Lib.toList_data, bts_list]; rfl
        have HF : Hid (tk l (j + 1) ++ p.1 ++ ⟨#[58]⟩ ++ bts (Lib.itoa p.2) = tk l j) := Lib.hid (by rw [txP_parts, tk_first hp hlast, tk_end l _ (by omega)]; apply ba_ext; simp [bts])
        have hSS := tk_size l (j + 1) hmay (by omega)
        have HL := Lib.hid hlast
        clear hp hlast
        go_wp2_with fail
        clear he
        generalize hS1 : tk l (j + 1) = S1 at *
        clear hS1
        have hs1 : S1.size + p.1.size + 1 + (bts (Lib.itoa p.2)).size ≤ 100000 := by have := Lib.itoa_length_le p.2 (by omega) (by omega); rw [bts_size]; omega
        have H2 : Hid (∀ V : World, (V.cell? ⟨g, o + j * 2, none⟩ = some (.string p.1) ∧ V.cell? ⟨g, o + j * 2 + 1, none⟩ = some (.int .i64 p.2) ∧ Below w.heap.size w V ∧ Below W.heap.size W V) →
            Calls Tryd.prog 49 #[.int .i64 p.2] V fun e w' => e = .returned (.string (bts (Lib.itoa p.2))) ∧ w'.cell? ⟨g, o + j * 2, none⟩ = some (.string p.1) ∧ w'.cell? ⟨g, o + j * 2 + 1, none⟩ = some (.int .i64 p.2) ∧ Below w.heap.size w w' ∧ Below W.heap.size W w') :=
          Lib.hid (fun V ⟨k0, k1, k2, k3⟩ => (digits_any p.2 V (by omega) (by omega)).mono fun e w' ⟨he, hb'⟩ => ⟨he, cell_below k0 hb' (Nat.le_refl _), cell_below k1 hb' (Nat.le_refl _), k2.trans (hb'.mono k2.size), k3.trans (hb'.mono k3.size)⟩)
        generalize bts (Lib.itoa p.2) = t at *
        generalize p.2 = n at *
        generalize p.1 = s at *
        have hno1 : ¬ (S1.size + s.size > 9223372036854775807) := by omega
        have hno2 : ¬ (S1.size + s.size + 1 > 9223372036854775807) := by omega
        have hno3 : ¬ (S1.size + s.size + 1 + t.size > 9223372036854775807) := by omega
        clear hs1 hmp hmp'
        have hd1 := hbw.drew
        have hd2 := hbW.drew
        go_region_held3 (fun w' => w'.cell? ⟨g, o + j * 2, none⟩ = some (.string s) ∧ w'.cell? ⟨g, o + j * 2 + 1, none⟩ = some (.int .i64 n) ∧ Below w.heap.size w w' ∧ Below W.heap.size W w')
          (first | go_keep | ((refine ⟨?_, ?_, ?_, ?_⟩) <;> assumption))
          ((go_at_call 49; (with_reducible refine (H2.out _ ?_).mono ?_); (· (first | assumption | (go_split_ands; (refine ⟨?_, ?_, ?_, ?_⟩) <;> assumption))); rintro e w1 ⟨rfl, k0, k1, k2, k3⟩))
        go_wp2_with fail
        go_roundw
        case rel => exact ⟨j, _, by rw [← HF.out], by go_num, rfl, by omega, k2, k3⟩
        case measure => simp [intOf]
      · have he := tk_ne (l := l) (k := j + 1) (by omega)
        have hno : ¬ ((tk l (j + 1)).size + 3 > 9223372036854775807) := by have := tk_size l (j + 1) hmay (by omega); omega
        have HF : Hid (tk l (j + 1) ++ ⟨#[32, 60, 32]⟩ ++ p.1 ++ ⟨#[58]⟩ ++ bts (Lib.itoa p.2) = tk l j) := Lib.hid (by rw [txP_parts, tk_more hp (by omega)])
        have hSS : (tk l (j + 1) ++ ⟨#[32, 60, 32]⟩ : ByteArray).size ≤ 20000 := by
          have := tk_size l (j + 1) hmay (by omega)
          have e : (⟨#[32, 60, 32]⟩ : ByteArray).size = 3 := rfl
          rw [ByteArray.size_append, e]; omega
        clear hp
        go_wp2_with fail
        clear he hno
        generalize hS1 : tk l (j + 1) ++ ⟨#[32, 60, 32]⟩ = S1 at *
        clear hS1
        have hs1 : S1.size + p.1.size + 1 + (bts (Lib.itoa p.2)).size ≤ 100000 := by have := Lib.itoa_length_le p.2 (by omega) (by omega); rw [bts_size]; omega
        have H2 : Hid (∀ V : World, (V.cell? ⟨g, o + j * 2, none⟩ = some (.string p.1) ∧ V.cell? ⟨g, o + j * 2 + 1, none⟩ = some (.int .i64 p.2) ∧ Below w.heap.size w V ∧ Below W.heap.size W V) →
            Calls Tryd.prog 49 #[.int .i64 p.2] V fun e w' => e = .returned (.string (bts (Lib.itoa p.2))) ∧ w'.cell? ⟨g, o + j * 2, none⟩ = some (.string p.1) ∧ w'.cell? ⟨g, o + j * 2 + 1, none⟩ = some (.int .i64 p.2) ∧ Below w.heap.size w w' ∧ Below W.heap.size W w') :=
          Lib.hid (fun V ⟨k0, k1, k2, k3⟩ => (digits_any p.2 V (by omega) (by omega)).mono fun e w' ⟨he, hb'⟩ => ⟨he, cell_below k0 hb' (Nat.le_refl _), cell_below k1 hb' (Nat.le_refl _), k2.trans (hb'.mono k2.size), k3.trans (hb'.mono k3.size)⟩)
        generalize bts (Lib.itoa p.2) = t at *
        generalize p.2 = n at *
        generalize p.1 = s at *
        have hno1 : ¬ (S1.size + s.size > 9223372036854775807) := by omega
        have hno2 : ¬ (S1.size + s.size + 1 > 9223372036854775807) := by omega
        have hno3 : ¬ (S1.size + s.size + 1 + t.size > 9223372036854775807) := by omega
        clear hs1 hmp hmp'
        have hd1 := hbw.drew
        have hd2 := hbW.drew
        go_region_held3 (fun w' => w'.cell? ⟨g, o + j * 2, none⟩ = some (.string s) ∧ w'.cell? ⟨g, o + j * 2 + 1, none⟩ = some (.int .i64 n) ∧ Below w.heap.size w w' ∧ Below W.heap.size W w')
          (first | go_keep | ((refine ⟨?_, ?_, ?_, ?_⟩) <;> assumption))
          ((go_at_call 49; (with_reducible refine (H2.out _ ?_).mono ?_); (· (first | assumption | (go_split_ands; (refine ⟨?_, ?_, ?_, ?_⟩) <;> assumption))); rintro e w1 ⟨rfl, k0, k1, k2, k3⟩))
        go_wp2_with fail
        go_roundw
        case rel => exact ⟨j, _, by rw [← HF.out], by go_num, rfl, by omega, k2, k3⟩
        case measure => simp [intOf]
end Go.Proofs.YtocdinaomkmcbaaDoor
