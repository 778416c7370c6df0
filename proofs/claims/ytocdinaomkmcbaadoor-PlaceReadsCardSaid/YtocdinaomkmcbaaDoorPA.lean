/-
  The document's Text and Parse, whatever they are given.
-/
import Derived.Test.YtocdinaomkmcbaaDoorSE
import Derived.Test.YtocdinaomkmcbaaDoorU
namespace Go.Proofs.YtocdinaomkmcbaaDoor
open Go.ChangeShapes Go.WideShapes Go.ChangeAt Go.RowKit Go.Shelf
set_option linter.unusedVariables false

theorem tk_zero (l : List Pl) : tk l 0 = bts (txL l) := rfl
/-- What the text is, nothing where the list is refused. -/
def txR (l : List Pl) : ByteArray := if chk l = 0 then bts (txL l) else ⟨#[]⟩
theorem rtext_bad (A : Option Addr) (cap : Nat) (l : List Pl) (w : World) (hA : At w A l) (hn : l.length ≤ 5864062014634) (hc : chk l ≠ 0) :
    Calls Tryd.prog 12 #[.slice A l.length cap] w fun e w' => e = .returned (.tuple #[.string ⟨#[]⟩, .int .i64 (chk l)]) ∧ Below w.heap.size w w' := by
  have H1 := Lib.hid (rcheck_any A cap l w hA hn)
  generalize hcl : chk l = c at *
  have hne : (c != 0) = true := by simpa using hc
  clear hc hcl hA
  go_enter Tryd.func12, Tryd.ntmps12
  go_wp2_with fail
  refine H1.out.mono ?_
  rintro e W ⟨rfl, hB⟩
  go_wp2
  go_ret2
  exact ⟨rfl, hB⟩
theorem text_bad (A : Option Addr) (cap : Nat) (l : List Pl) (w : World) (hA : At w A l) (hn : l.length ≤ 5864062014634) (hc : chk l ≠ 0) :
    Calls Tryd.prog 11 #[.slice A l.length cap] w fun e w' => e = .returned (.tuple #[.string ⟨#[]⟩, .int .i64 (chk l)]) ∧ Below w.heap.size w w' := by
  have H1 := Lib.hid (check_any A cap l w hA hn)
  generalize hcl : chk l = c at *
  have hne : (c != 0) = true := by simpa using hc
  clear hc hcl hA
  go_enter Tryd.func11, Tryd.ntmps11
  go_wp2_with fail
  refine H1.out.mono ?_
  rintro e W ⟨rfl, hB⟩
  go_wp2
  go_ret2
  exact ⟨rfl, hB⟩
theorem rtext_any (A : Option Addr) (cap : Nat) (l : List Pl) (w : World) (hA : At w A l) (hn : l.length ≤ 5864062014634) :
    Calls Tryd.prog 12 #[.slice A l.length cap] w fun e w' => e = .returned (.tuple #[.string (txR l), .int .i64 (chk l)]) ∧ Below w.heap.size w w' := by
  unfold txR
  by_cases hc : chk l = 0
  · rw [if_pos hc, hc]; exact rtext_good A cap l w hA hc
  · rw [if_neg hc]; exact rtext_bad A cap l w hA hn hc
theorem text_u (A : Option Addr) (cap : Nat) (l : List Pl) (w : World) (hE : Env w) (hA : At w A l) (hn : l.length ≤ 5864062014634) :
    Calls Tryd.prog 11 #[.slice A l.length cap] w fun e w' => e = .returned (.tuple #[.string (txR l), .int .i64 (chk l)]) ∧ Below w.heap.size w w' := by
  unfold txR
  by_cases hc : chk l = 0
  · rw [if_pos hc, hc]; exact text_any A cap l w hE hA hc
  · rw [if_neg hc]; exact text_bad A cap l w hA hn hc

/-- The stack that a text seems to be. -/
def pcs (L : List UInt8) : List (List UInt8) := if L = [] then [] else spl L
def cand (L : List UInt8) : List Pl := (pcs L).reverse.map seem
theorem cand_of {L : List UInt8} {l : List Pl} (h : prs L = some l) : cand L = l := by
  obtain ⟨h1, h2⟩ := prs_iff.1 h
  have hm := (chk_ok.1 h1).1
  unfold cand pcs
  by_cases h0 : L = []
  · rw [if_pos h0]
    subst h0
    by_cases hl : l = []
    · subst hl; rfl
    · exact absurd h2 (join_ne (by simpa using hl))
  · rw [if_neg h0, ← h2]
    unfold txL
    have hl : l ≠ [] := by
      rintro rfl
      exact h0 h2.symm
    rw [spl_join _ (by simpa using hl) (fun x hx => by
      obtain ⟨p, hp, rfl⟩ := List.mem_map.1 hx
      exact no_blank (hm p (by simpa using hp)))]
    rw [← List.map_reverse, List.reverse_reverse, List.map_map]
    conv => rhs; rw [← List.map_id l]
    exact List.map_congr_left (fun p hp => seem_txP (hm p hp))
theorem prs_yes {L : List UInt8} (h1 : chk (cand L) = 0) (h2 : txL (cand L) = L) : prs L = some (cand L) := prs_iff.2 ⟨h1, h2⟩
theorem prs_no {L : List UInt8} (h : ¬ (chk (cand L) = 0 ∧ txL (cand L) = L)) : prs L = none := by
  cases hp : prs L with
  | none => rfl
  | some l =>
    exfalso
    apply h
    rw [cand_of hp]
    exact prs_iff.1 hp
theorem pcs_len (L : List UInt8) : (pcs L).length ≤ L.length + 1 := by
  have key : ∀ (n : Nat) (s : List UInt8), s.length ≤ n → (spl s).length ≤ s.length + 1 := by
    intro n
    induction n with
    | zero =>
      intro s hs
      obtain rfl := List.eq_nil_of_length_eq_zero (Nat.le_zero.1 hs)
      decide
    | succ n ih =>
      intro s hs
      by_cases hi : 0 ≤ Lib.index s sepL
      · have h2 := (index_parts hi).2
        rw [spl_more hi, List.length_cons]
        have := ih (s.drop ((Lib.index s sepL).toNat + 3)) (by rw [List.length_drop]; omega)
        rw [List.length_drop] at this
        omega
      · rw [spl_last (by omega)]; simp
  unfold pcs
  split
  · simp
  · exact key _ _ (Nat.le_refl _)
theorem pcs_le {s : ByteArray} {x : List UInt8} (h : x ∈ pcs s.data.toList) : (bts x).size ≤ s.size := by
  unfold pcs at h
  split at h
  · simp at h
  · exact prt_le (s := s) (by unfold prt; exact List.mem_map_of_mem h)
theorem cand_len (L : List UInt8) : (cand L).length = (pcs L).length := by simp [cand]
theorem seem_step {P : List (List UInt8)} {j : Nat} {x : List UInt8} (h : P[j]? = some x) : (P.drop j).reverse.map seem = (P.drop (j + 1)).reverse.map seem ++ [seem x] := by
  obtain ⟨hl, hv⟩ := List.getElem?_eq_some_iff.1 h
  rw [List.drop_eq_getElem_cons hl, hv]; simp
theorem own_formS {w : World} {base n : Nat} {v : Value} {L : List ByteArray} (h : w.ownsRow base 9 1 v n (strs L)) (hn : n = L.length) : ∃ A cap, v = .slice A n cap ∧ AtS w A L := by
  subst hn
  rcases h.2 with ⟨rfl, h0⟩ | ⟨g, cap, cur, rfl, _⟩
  · obtain rfl : L = [] := List.eq_nil_of_length_eq_zero h0
    exact ⟨none, 0, rfl, fun i s hs => by simp at hs⟩
  · exact ⟨_, cap, rfl, ats_own h (fun _ _ h => h) (Nat.le_refl _)⟩
/-- What the document's Parse answers. -/
def PRr (B : Nat) (s : ByteArray) (e : Ending) (W : World) : Prop :=
  (∃ (l : List Pl) (v : Value), prs s.data.toList = some l ∧ e = .returned (.tuple #[v, .int .i64 0]) ∧ W.ownsRow B 102 2 v l.length (flat l)) ∨ (prs s.data.toList = none ∧ e = .returned (.tuple #[.slice none 0 0, .int .i64 4]))

set_option maxRecDepth 100000 in
set_option maxHeartbeats 4000000 in
theorem rparse_any (s : ByteArray) (w : World) (hs : s.size ≤ 1048576) :
    Calls Tryd.prog 20 #[.string s] w fun e W' => PRr w.heap.size s e W' ∧ Below w.heap.size w W' := by
  obtain ⟨i0, hi0, hz0, hz1, hz2'⟩ := info_parts info102
  have H1 : Hid (Calls Tryd.prog 55 #[.string s] w fun e w' => ∃ v, e = .returned v ∧ w'.ownsRow w.heap.size 9 1 v (pcs s.data.toList).length (strs ((pcs s.data.toList).map bts)) ∧ Below w.heap.size w w') := Lib.hid (pieces_any s w hs)
  have hPl : (pcs s.data.toList).length ≤ 1048577 := by have := pcs_len s.data.toList; simp at this; omega
  have HX := Lib.hid (fun (x : List UInt8) (W : World) (hx : x ∈ pcs s.data.toList) => place_any (bts x) W (by have := pcs_le hx; omega))
  have HY := Lib.hid (prs_yes (L := s.data.toList))
  have HN := Lib.hid (prs_no (L := s.data.toList))
  have HC : Hid (cand s.data.toList = (pcs s.data.toList).reverse.map seem) := Lib.hid rfl
  generalize pcs s.data.toList = P at *
  generalize cand s.data.toList = C at *
  have HE : Hid (∀ W v, W.ownsRow w.heap.size 102 2 v C.length (flat C) → Calls Tryd.prog 12 #[v] W fun e w' => e = .returned (.tuple #[.string (txR C), .int .i64 (chk C)]) ∧ Below W.heap.size W w') := Lib.hid (fun W v hv => by
    obtain ⟨A, cap, rfl, ha, _⟩ := own_form hv
    exact rtext_any A cap C W ha (by rw [HC.out]; simp; omega))
  go_enter Tryd.func20, Tryd.ntmps20
  go_wp2_with fail
  refine H1.out.mono ?_
  rintro e W ⟨v, rfl, ho, hb⟩
  have hz := hb.size
  obtain ⟨A, cap, rfl, ha⟩ := own_formS ho (by simp)
  clear ho H1
  go_wp2_with fail
  go_loopw [5, 6] (fun v t wr => ∃ (k : Nat) (i : Int), t = .int .i64 i ∧ i = (k : Int) - 1 ∧ k ≤ P.length ∧ wr.ownsRow W.heap.size 102 2 v (P.length - k) (flat ((P.drop k).reverse.map seem)) ∧ Below W.heap.size W wr) (fun _ t _ => (intOf t + 1).toNat)
  case atStart => exact ⟨P.length, _, rfl, by omega, Nat.le_refl _, by rw [List.drop_of_length_le (Nat.le_refl _), Nat.sub_self]; exact World.ownsRow_nil _ _ _ _, Below.refl _ _⟩
  case round =>
    obtain ⟨k, i, rfl, hi, hk, hr, hB⟩ := hrel
    have hzr := hB.size
    cases k with
    | zero =>
      have hi0 : ¬ (0 : Int) ≤ i := by omega
      have hr1 : wr.ownsRow w.heap.size 102 2 u5 C.length (flat C) := by
        have e : P.length - 0 = C.length := by rw [HC.out]; simp
        rw [e, List.drop_zero, ← HC.out] at hr
        exact own_base hr hz
      clear hr
      have hbw : Below w.heap.size w wr := hb.trans (hB.mono hz)
      go_wp2_with fail
      refine (HE.out wr _ hr1).mono ?_
      rintro e W3 ⟨rfl, b3⟩
      have hr3 := own_below hr1 b3
      have hb3 := hbw.trans (b3.mono hbw.size)
      clear hr1 hbw
      by_cases hc : chk C = 0
      · by_cases ht : txL C = s.data.toList
        · have e1 : txR C = s := by unfold txR; rw [if_pos hc, ht, bts_back]
          have HF := Lib.hid (HY.out hc ht)
          rw [e1, hc]
          clear ht e1 hc
          go_wp2_with fail
          go_ret2
          exact ⟨.inl ⟨C, _, HF.out, rfl, hr3⟩, hb3⟩
        · have HF := Lib.hid (HN.out (fun h => ht h.2))
          have e1 : ¬ (txR C).toList = s.toList := by
            unfold txR
            rw [if_pos hc, Lib.toList_data, Lib.toList_data, bts_list]
            exact ht
          have e2 : ((txR C).toList == s.toList) = false := beq_eq_false_iff_ne.2 e1
          rw [hc]
          clear ht hc
          go_wp2_with fail
          go_ret2
          exact ⟨.inr ⟨HF.out, rfl⟩, hb3⟩
      · have HF := Lib.hid (HN.out (fun h => hc h.1))
        have e1 : (chk C != 0) = true := by simpa using hc
        generalize chk C = cc at *
        clear hc
        go_wp2_with fail
        go_ret2
        exact ⟨.inr ⟨HF.out, rfl⟩, hb3⟩
    | succ j =>
      obtain rfl : i = (j : Int) := by omega
      clear hi
      have hj0 : (0 : Int) ≤ (j : Int) := Int.natCast_nonneg _
      have hj1 : (j : Int) < (P.length : Int) := by omega
      obtain ⟨x, hx⟩ : ∃ x, P[j]? = some x := ⟨_, List.getElem?_eq_getElem (by omega)⟩
      have hxs : (P.map bts)[j]? = some (bts x) := by rw [List.getElem?_map, hx]; rfl
      obtain ⟨g, o, e', c0⟩ := (ha.below hB (Nat.le_refl _)) j _ hxs
      subst e'
      have HS := Lib.hid (seem_step hx)
      have H56 := Lib.hid (HX.out x wr (List.mem_of_getElem? hx))
      rw [bts_list] at H56
      clear hx hxs HX
      generalize bts x = t at *
      generalize seem x = q at *
      go_wp2_with fail
      refine H56.out.mono ?_
      rintro e W2 ⟨rfl, b2⟩
      have hr2 := own_below hr b2
      have hB2 := hB.trans (b2.mono hzr)
      have hz2 := hB2.size
      clear hr
      go_wp2_with (at_builtin; refine wpList_append_lies _ rfl _ _ 29 rfl W.heap.size 102 i0 _ 2 24 Tryd.underlying29 hi0 hz0 hz1 hz2' rfl (by omega) u5 (P.length - (j + 1)) (flat ((P.drop (j + 1)).reverse.map seem)) rfl (hr2.alloc _) ⟨W2.heap.size, 0, none⟩ 1 1 (cel q) rfl rfl (World.news_of_block (cs := #[.string q.1, .int .i64 q.2]) (t := 102) (fr := (0, 0)) (heap_alloc_new W2 _)) (by simp [cel, Value.oneCell']) (by omega) (by unfold maxLen; omega) (by omega) (by simp; omega) (W2.heap.size + 1) (by simp) ?_; intro gg cap' w1 hown1 hgrow hat hlt1)
      go_roundw
      case rel => exact ⟨j, _, by go_num, rfl, by omega, by rw [HS.out, flat_snoc, show P.length - j = P.length - (j + 1) + 1 by omega]; exact hown1, Below.grown (hB2.alloc hz2 _) hgrow (by simp; omega) (fun j hj => (hr2.lt j hj).1)⟩
      case measure => simp [intOf]
end Go.Proofs.YtocdinaomkmcbaaDoor
