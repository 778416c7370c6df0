/-
  The place that a text seems to be.
-/
import Derived.Test.YtocdinaomkmcbaaDoorQ
import Derived.Lib.SmallJoins
namespace Go.Proofs.YtocdinaomkmcbaaDoor
open Go.ChangeShapes Go.WideShapes Go.ChangeAt Go.RowKit Go.Shelf
set_option linter.unusedVariables false

def nc (c : UInt8) : Bool := c != 58
def acc (l : List UInt8) : Nat := l.foldl (fun a c => 10 * a + c.toNat % 16) 0
def nmL (L : List UInt8) : List UInt8 := L.takeWhile nc
def seem (L : List UInt8) : Pl := (bts (nmL L), (acc ((L.drop ((nmL L).length + 1)).take 8) : Int))
theorem acc_snoc (l : List UInt8) (c : UInt8) : acc (l ++ [c]) = 10 * acc l + c.toNat % 16 := by unfold acc; rw [List.foldl_append]; rfl
theorem acc_le : ∀ (m : Nat) (l : List UInt8), l.length = m → acc l + 2 ≤ 2 * 10 ^ m := by
  intro m
  induction m with
  | zero => intro l h; obtain rfl := List.eq_nil_of_length_eq_zero h; decide
  | succ m ih =>
    intro l h
    obtain ⟨l', c, rfl⟩ : ∃ l' c, l = l' ++ [c] := ⟨l.dropLast, l.getLast (by intro h'; subst h'; simp at h), (List.dropLast_concat_getLast _).symm⟩
    have := ih l' (by simpa using h)
    rw [acc_snoc, Nat.pow_succ]
    omega
theorem acc_dec (u : Nat) : acc (Lib.decDigits u) = u := by
  induction u using Nat.strongRecOn with
  | _ u ih =>
    rw [Lib.decDigits]
    split
    · rename_i h
      have e : (UInt8.ofNat (48 + u)).toNat = 48 + u := by rw [UInt8.toNat_ofNat']; omega
      unfold acc
      simp only [List.foldl_cons, List.foldl_nil, e]
      omega
    · rename_i h
      have e : (UInt8.ofNat (48 + u % 10)).toNat = 48 + u % 10 := by rw [UInt8.toNat_ofNat']; omega
      rw [acc_snoc, ih (u / 10) (by omega), e]
      omega
theorem nm_stop {L : List UInt8} {i : Nat} (h : (L.take i).all nc = true) (he : L[i]? = none ∨ L[i]? = some 58) (hi : i ≤ L.length) : nmL L = L.take i := by
  unfold nmL
  conv => lhs; rw [← List.take_append_drop i L]
  rw [List.takeWhile_append_of_pos (fun a ha => List.all_eq_true.1 h a ha)]
  have : (L.drop i).takeWhile nc = [] := by
    rcases he with he | he
    · rw [List.getElem?_eq_none_iff] at he
      rw [List.drop_of_length_le he]; rfl
    · obtain ⟨hl, hv⟩ := List.getElem?_eq_some_iff.1 he
      rw [List.drop_eq_getElem_cons hl, hv]; rfl
  rw [this, List.append_nil]
theorem dec_len8 : ∀ (m u : Nat), u < 10 ^ (m + 1) → (Lib.decDigits u).length ≤ m + 1 := by
  intro m
  induction m with
  | zero => intro u h; rw [Lib.decDigits, dif_pos (by simpa using h)]; simp
  | succ m ih =>
    intro u h
    rw [Lib.decDigits]
    split
    · simp
    · have := ih (u / 10) (by rw [Nat.pow_succ] at h; omega)
      simp; omega
theorem seem_txP {p : Pl} (h : may p = true) : seem (txP p) = p := by
  obtain ⟨n, v⟩ := p
  have hm := may_iff.1 h
  have hn : nmL (txP (n, v)) = n.data.toList := by
    have e : (txP (n, v)).take n.data.toList.length = n.data.toList := by unfold txP; simp
    rw [nm_stop (i := n.data.toList.length) _ _ _, e]
    · rw [e, List.all_eq_true]
      intro c hc
      unfold nc
      simpa using (hm.2.2.2.2 c hc).2.2 ∘ fun e => by subst e; rfl
    · right; unfold txP; simp
    · unfold txP; simp
  unfold seem
  rw [hn]
  have ed : (txP (n, v)).drop (n.data.toList.length + 1) = Lib.itoa v := by
    unfold txP
    rw [← List.drop_drop, List.drop_left]; rfl
  rw [ed, itoa_dec hm.2.2.1]
  have hl := dec_len8 7 v.toNat (by have := hm.2.2.2.1; simp only at this; omega)
  rw [List.take_of_length_le hl, acc_dec, bts_back]
  have := hm.2.2.1
  simp only at this
  congr 1
  omega
theorem all_take_snoc {s : ByteArray} {k : Nat} (hk : k < s.size) (h : (s.data.toList.take k).all nc = true) (hb : s[k] ≠ 58) : (s.data.toList.take (k + 1)).all nc = true := by
  rw [List.take_succ_eq_append_getElem (by simpa using hk), List.all_append, h]
  have e : s.data.toList[k]'(by simpa using hk) = s[k] := rfl
  rw [e]
  simpa [nc] using hb
theorem acc_more {s : ByteArray} {a m : Nat} (h : a + m < s.size) : acc ((s.data.toList.drop a).take (m + 1)) = 10 * acc ((s.data.toList.drop a).take m) + (s[a + m]).toNat % 16 := by
  rw [List.take_succ_eq_append_getElem (by simp; omega), acc_snoc]
  congr 2
  rw [List.getElem_drop]; rfl
/-- What stands while the line is read. -/
structure SI (s : ByteArray) (i m : Nat) (w W : World) : Prop where
  r : W.heap[w.heap.size]? = some (.cells #[.string ⟨#[]⟩, .int .i64 0] 102 (0, 0))
  p : W.heap[w.heap.size + 1]? = some (.cells #[.string (s.extract 0 i), .int .i64 (acc ((s.data.toList.drop (i + 1)).take m))] 102 (0, 0))
  b : Below w.heap.size w W

theorem SI.step {s : ByteArray} {i m : Nat} {w W : World} (h : SI s i m w W) {v : Int} (hv : v = ((acc ((s.data.toList.drop (i + 1)).take (m + 1)) : Nat) : Int)) : SI s i (m + 1) w (W.setCell ⟨w.heap.size + 1, 1, none⟩ (.int .i64 v)).drew := by
  refine ⟨(Below.heap_setCell W _ _ w.heap.size (by simp)).trans h.r, ?_, ?_⟩
  · have := Go.Joins.block_setCell (i := 1) h.p (.int .i64 v)
    rw [hv] at this ⊢
    exact this
  · exact (h.b.setCell (by simp) _).drew
theorem seem_done {s : ByteArray} {i m : Nat} (hi : i ≤ s.size) (hn : nmL s.data.toList = s.data.toList.take i) (hm : m = 8 ∨ (m ≤ 8 ∧ s.size ≤ i + 1 + m)) : seem s.data.toList = (s.extract 0 i, (acc ((s.data.toList.drop (i + 1)).take m) : Int)) := by
  unfold seem
  have hl : (s.data.toList.take i).length = i := by rw [List.length_take]; simp; omega
  rw [hn, hl]
  congr 1
  · rw [ext_bts]; simp
  · congr 2
    rcases hm with rfl | ⟨hm, h2⟩
    · rfl
    · rw [List.take_of_length_le (by simp; omega), List.take_of_length_le (by simp; omega)]

theorem two_stored {W : World} {B : Nat} {a b x y : Value} {t : TypeId} (h : W.heap[B]? = some (.cells #[a, b] t (0, 0))) :
    ((W.setCell ⟨B, 0, none⟩ x).setCell ⟨B, 1, none⟩ y).cell? ⟨B, 0, none⟩ = some x ∧ ((W.setCell ⟨B, 0, none⟩ x).setCell ⟨B, 1, none⟩ y).cell? ⟨B, 1, none⟩ = some y := by
  have h1 := Go.Joins.block_setCell (i := 0) h x
  have h2 := Go.Joins.block_setCell (i := 1) h1 y
  exact ⟨Go.Joins.cell_of_block h2 0, Go.Joins.cell_of_block h2 1⟩

set_option maxRecDepth 100000 in
set_option maxHeartbeats 4000000 in
theorem place_any (s : ByteArray) (w : World) (hs : s.size ≤ 281474976710656) :
    Calls Tryd.prog 56 #[.string s] w fun e w' => e = .returned (.agg #[.string (seem s.data.toList).1, .int .i64 (seem s.data.toList).2]) ∧ Below w.heap.size w w' := by
  go_enter Tryd.func56, Tryd.ntmps56
  go_wp2_with fail
  go_loop [4] (fun t => ∃ i : Nat, t = .int .i64 i ∧ i ≤ s.size ∧ Hid ((s.data.toList.take i).all nc = true)) (fun t => s.size - (intOf t).toNat)
  case atStart => exact ⟨0, rfl, by omega, Lib.hid rfl⟩
  case round =>
    obtain ⟨i, rfl, hi, HK⟩ := hrel
    have hi0 : (0 : Int) ≤ (i : Int) := Int.natCast_nonneg _
    by_cases hgo : ∃ hlt : i < s.size, s[i] ≠ 58
    · obtain ⟨hlt, hb⟩ := hgo
      have HA := Lib.hid (all_take_snoc hlt HK.out hb)
      have hi1 : (i : Int) < (s.size : Int) := by omega
      have b3 : (((s[i]'hlt).toNat : Int) == 58) = false := beq_eq_false_iff_ne.2 (fun h => hb (UInt8.toNat_inj.1 (by show (s[i]'hlt).toNat = 58; omega)))
      have b4 : ¬ ((s[i]'hlt).toNat : Int) = 58 := by simpa using b3
      go_wp2_with fail
      go_round
      case rel => exact ⟨i + 1, by go_num, by omega, HA⟩
      case measure => simp [intOf]; omega
    · have HS : Hid (nmL s.data.toList = s.data.toList.take i) := Lib.hid (nm_stop HK.out (by
        by_cases hlt : i < s.size
        · right
          have : s[i] = 58 := by
            rcases Decidable.em (s[i] = 58) with h | h
            · exact h
            · exact absurd ⟨hlt, h⟩ hgo
          rw [List.getElem?_eq_getElem (by simpa using hlt)]
          exact congrArg some this
        · left; rw [List.getElem?_eq_none_iff]; simp; omega) (by simpa using hi))
      by_cases hlt : i < s.size
      · have hi1 : (i : Int) < (s.size : Int) := by omega
        have b3 : (((s[i]'hlt).toNat : Int) == 58) = true := by
          rcases Decidable.em (s[i] = 58) with h | h
          · rw [h]; rfl
          · exact absurd ⟨hlt, h⟩ hgo
        have b4 : ((s[i]'hlt).toNat : Int) = 58 := by simpa using b3
        clear hgo
        go_wp2_with fail
        go_loopw [5] (fun t wr => ∃ m : Nat, t = .int .i64 ((i + 1 + m : Nat) : Int) ∧ m ≤ 8 ∧ (m = 0 ∨ i + 1 + m ≤ s.size) ∧ SI s i m w wr) (fun t _ => i + 9 - (intOf t).toNat)
        case atStart =>
          refine ⟨0, by simp, by omega, .inl rfl, ⟨?_, ?_, ((Below.refl _ w).alloc (Nat.le_refl _) _).alloc (by simp) _⟩⟩
          · exact heap_alloc2_old w _ _
          · exact (heap_alloc2_new w _ _).trans (by simp [acc])
        case round =>
          obtain ⟨m, rfl, hm, hmo, HI⟩ := hrel
          have hm0 : (0 : Int) ≤ ((i + 1 + m : Nat) : Int) := Int.natCast_nonneg _
          have c0 := Go.Joins.cell_of_block HI.p 0
          have c1 := Go.Joins.cell_of_block HI.p 1
          have f1 := Go.Joins.unfrozen_of_block HI.p 1
          have d0 := Go.Joins.cell_of_block HI.r 0
          have d1 := Go.Joins.cell_of_block HI.r 1
          have g0 := Go.Joins.unfrozen_of_block HI.r 0
          have g1 := Go.Joins.unfrozen_of_block HI.r 1
          simp only [List.getElem?_toArray, List.getElem?_cons_zero, List.getElem?_cons_succ] at c0 c1 d0 d1
          generalize hk : i + 1 + m = k at *
          by_cases hgo : k < s.size ∧ m < 8
          · have k1 : (k : Int) < (s.size : Int) := by omega
            have k2 : (k : Int) < (i : Int) + 9 := by omega
            have HA := acc_more (s := s) (a := i + 1) (m := m) (by omega)
            have hsk : s[i + 1 + m]'(by omega) = s[k]'(hgo.1) := by congr 1
            rw [hsk] at HA
            have hle := acc_le m ((s.data.toList.drop (i + 1)).take m) (by simp; omega)
            have hpw : 10 ^ m ≤ 10 ^ 8 := Nat.pow_le_pow_right (by omega) (by omega)
            generalize hacc : acc ((s.data.toList.drop (i + 1)).take m) = A at *
            have hA0 : A ≤ 200000000 := by omega
            clear hle hpw
            have HAH := Lib.hid HA
            have HIH := Lib.hid HI
            clear HA HI hacc
            have hw1 : IntKind.i64.wrap (10 * (A : Int)) = 10 * (A : Int) := by unfold IntKind.wrap; simp [IntKind.bits, IntKind.signed]; omega
            go_wp2_with fail
            go_region
            go_wp2_with fail
            go_roundw
            case rel => exact ⟨m + 1, by rw [show i + 1 + (m + 1) = k + 1 by omega]; go_num, by omega, .inr (by omega), HIH.out.step (by rw [HAH.out]; omega)⟩
            case measure => simp [intOf]; omega
          · have HD := Lib.hid (seem_done (m := m) hi HS.out (by omega))
            have HB := HI.b
            obtain ⟨e0, e1⟩ := two_stored (x := .string (s.extract 0 i)) (y := .int .i64 (acc ((s.data.toList.drop (i + 1)).take m))) HI.r
            clear HI
            by_cases hk3 : k < s.size
            · have k1 : (k : Int) < (s.size : Int) := by omega
              have k2 : ¬ (k : Int) < (i : Int) + 9 := by omega
              go_wp2_with fail
              refine bodyPost_ret (v := .agg #[.string (s.extract 0 i), .int .i64 (acc ((s.data.toList.drop (i + 1)).take m))]) (by simp [results, Tryd.results56, go_sem, e0, e1]) rfl ⟨by rw [HD.out], (HB.setCell (Nat.le_refl _) _).setCell (Nat.le_refl _) _⟩
            · have k1 : ¬ (k : Int) < (s.size : Int) := by omega
              go_wp2_with fail
              refine bodyPost_ret (v := .agg #[.string (s.extract 0 i), .int .i64 (acc ((s.data.toList.drop (i + 1)).take m))]) (by simp [results, Tryd.results56, go_sem, e0, e1]) rfl ⟨by rw [HD.out], (HB.setCell (Nat.le_refl _) _).setCell (Nat.le_refl _) _⟩
      · have hi1 : ¬ (i : Int) < (s.size : Int) := by omega
        clear hgo
        go_wp2_with fail
        go_loopw [5] (fun t wr => ∃ m : Nat, t = .int .i64 ((i + 1 + m : Nat) : Int) ∧ m ≤ 8 ∧ (m = 0 ∨ i + 1 + m ≤ s.size) ∧ SI s i m w wr) (fun t _ => i + 9 - (intOf t).toNat)
        case atStart =>
          refine ⟨0, by simp, by omega, .inl rfl, ⟨?_, ?_, ((Below.refl _ w).alloc (Nat.le_refl _) _).alloc (by simp) _⟩⟩
          · exact heap_alloc2_old w _ _
          · exact (heap_alloc2_new w _ _).trans (by simp [acc])
        case round =>
          obtain ⟨m, rfl, hm, hmo, HI⟩ := hrel
          have hm0 : (0 : Int) ≤ ((i + 1 + m : Nat) : Int) := Int.natCast_nonneg _
          have c0 := Go.Joins.cell_of_block HI.p 0
          have c1 := Go.Joins.cell_of_block HI.p 1
          have f1 := Go.Joins.unfrozen_of_block HI.p 1
          have d0 := Go.Joins.cell_of_block HI.r 0
          have d1 := Go.Joins.cell_of_block HI.r 1
          have g0 := Go.Joins.unfrozen_of_block HI.r 0
          have g1 := Go.Joins.unfrozen_of_block HI.r 1
          simp only [List.getElem?_toArray, List.getElem?_cons_zero, List.getElem?_cons_succ] at c0 c1 d0 d1
          generalize hk : i + 1 + m = k at *
          by_cases hgo : k < s.size ∧ m < 8
          · exact absurd hgo.1 (by omega)
          · have HD := Lib.hid (seem_done (m := m) hi HS.out (by omega))
            have HB := HI.b
            obtain ⟨e0, e1⟩ := two_stored (x := .string (s.extract 0 i)) (y := .int .i64 (acc ((s.data.toList.drop (i + 1)).take m))) HI.r
            clear HI
            by_cases hk3 : k < s.size
            · exact absurd hk3 (by omega)
            · have k1 : ¬ (k : Int) < (s.size : Int) := by omega
              go_wp2_with fail
              refine bodyPost_ret (v := .agg #[.string (s.extract 0 i), .int .i64 (acc ((s.data.toList.drop (i + 1)).take m))]) (by simp [results, Tryd.results56, go_sem, e0, e1]) rfl ⟨by rw [HD.out], (HB.setCell (Nat.le_refl _) _).setCell (Nat.le_refl _) _⟩
end Go.Proofs.YtocdinaomkmcbaaDoor
