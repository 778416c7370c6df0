/-
  The contract of the document's own words.
-/
import Derived.Test.YtdfhpblceoaofaaDoorRC
import Derived.Test.YtdfhpblceoaofaaDoorWQ
import Derived.Test.YtdfhpblceoaofaaDoorRV
namespace Go.Proofs.YtdfhpblceoaofaaDoor
open Go.ChangeShapes Go.WideShapes Go.ChangeAt Go.RowKit Go.Shelf
set_option linter.unusedVariables false

theorem info9' : (Tryd.prog.info? 9).map (fun i => (i.zero, i.size, i.bytes)) = some (some (.string ByteArray.empty), 1, 16) := by kernel_rfl
theorem empty_str {y : ByteArray} (h : y.size = 0) : y.toList = [] := by
  have e : y.data.toList.length = y.size := by simp
  rw [Lib.toList_data]; exact List.eq_nil_of_length_eq_zero (by omega)
theorem full_str {y : ByteArray} (h : 0 < y.size) : y.toList.isEmpty = false := by
  rw [Lib.toList_data]
  cases hl : y.data.toList with
  | nil =>
    have e : y.data.toList.length = y.size := by simp
    rw [hl] at e; simp at e; omega
  | cons a l => rfl
theorem get_idx (s : ByteArray) (i : Nat) (h : i < s.size) : s.get! i = s[i]'h := by
  rw [get_at, ← List.getElem_eq_getD (h := by simpa using h)]; rfl

/-- The parts still to come. -/
def Rm (width : Int) (s : ByteArray) (a i : Nat) : List ByteArray := if i ≤ s.size then ((Fl s a i).flatMap (Pt width)).map Prod.fst else []
def Pf (width : Int) (x : ByteArray) : List ByteArray := (Pt width x).map Prod.fst
theorem Rm_on {width : Int} {s : ByteArray} {a i : Nat} (h : i < s.size) (hs : sepB (s.get! i) = false) : Rm width s a i = Rm width s a (i + 1) := by
  unfold Rm; rw [if_pos (by omega), if_pos (by omega), Fl_on h hs]
theorem Pf_empty {width : Int} {s : ByteArray} {a : Nat} : Pf width (s.extract a a) = [] := by
  unfold Pf; rw [Pt_nil (by simp)]; rfl
theorem Rm_sep {width : Int} {s : ByteArray} {a i : Nat} (ha : a ≤ i) (h : i < s.size) (hs : sepB (s.get! i) = true) : Rm width s a i = Pf width (s.extract a i) ++ Rm width s (i + 1) (i + 1) := by
  unfold Rm; rw [if_pos (by omega), if_pos (by omega), Fl_sep h hs]
  by_cases hai : a < i
  · rw [if_pos hai]; simp [Pf]
  · obtain rfl : a = i := by omega
    rw [if_neg hai, Pf_empty]; rfl
theorem Rm_end {width : Int} {s : ByteArray} {a : Nat} (ha : a ≤ s.size) : Rm width s a s.size = Pf width (s.extract a s.size) ++ Rm width s (s.size + 1) (s.size + 1) := by
  unfold Rm; rw [if_pos (Nat.le_refl _), if_neg (by omega), Fl_end (Nat.le_refl _), List.append_nil]
  by_cases hai : a < s.size
  · rw [if_pos hai]; simp [Pf]
  · obtain rfl : a = s.size := by omega
    rw [if_neg hai, Pf_empty]; rfl
theorem Pf_cons {width : Int} (hw : 4 ≤ width) {x : ByteArray} (h : 0 < x.size) : Pf width x = x.extract 0 (fitP x width).1 :: Pf width (x.extract (fitP x width).1 x.size) := by
  unfold Pf; rw [Pt_cons hw h]; rfl

/-- The inner loop: a word's parts. -/
def lenS (v : Value) : Nat := match v with | .string y => y.size | _ => 0

set_option maxRecDepth 100000 in
set_option maxHeartbeats 4000000 in
theorem rwords_any (s : ByteArray) (width : Int) (w : World) (hsz : s.size ≤ 1099511627776) (hw4 : 4 ≤ width) (hhi : width ≤ 9223372036854775807) :
    Calls Tryd.prog 45 #[.string s, .int .i64 width] w fun e W' => (∃ v, e = .returned v ∧ W'.ownsRow w.heap.size 9 1 v ((WL width s).map Prod.fst).length (((WL width s).map Prod.fst).map Value.string)) ∧ Below w.heap.size w W' := by
  obtain ⟨i0, hi, hz0, hz1, hz2⟩ := info_parts info9'
  have hcW := cost_WL width hw4 s
  have hlen : ((WL width s).map Prod.fst).length ≤ cost (WL width s) := by
    rw [List.length_map]
    generalize WL width s = l
    induction l with
    | nil => simp
    | cons p l ih => rw [cost_cons, List.length_cons]; omega
  have hst : Hid (([] : List ByteArray) ++ Rm width s 0 0 = (WL width s).map Prod.fst) := Lib.hid (by unfold Rm WL FL; rw [if_pos (Nat.zero_le _)]; rfl)
  generalize (WL width s).map Prod.fst = L at *
  generalize cost (WL width s) = cw at *
  go_enter Tryd.func45, Tryd.ntmps45
  go_wp2
  go_loopw [5, 6, 7] (fun v f t wr => ∃ (a i : Nat) (pre : List ByteArray), t = .int .i64 i ∧ f = .int .i64 a ∧ i ≤ s.size + 1 ∧ a ≤ i ∧ wr.ownsRow w.heap.size 9 1 v pre.length (pre.map Value.string) ∧ Below w.heap.size w wr ∧ Hid (pre ++ Rm width s a i = L)) (fun _ _ t _ => s.size + 1 - (intOf t).toNat)
  case atStart => exact ⟨0, 0, [], rfl, rfl, by omega, by omega, World.ownsRow_nil _ _ _ _, Below.refl _ _, hst⟩
  case round =>
    obtain ⟨a, i, pre, rfl, rfl, hi1, hai, hown, hB, HG⟩ := hrel
    obtain ⟨wo, rfl⟩ : ∃ wo : World, wo = wr := ⟨_, rfl⟩
    by_cases hle : i ≤ s.size
    · by_cases hns : ∃ h : i < s.size, sepB (s[i]'h) = false
      · obtain ⟨hlt, hs⟩ := hns
        have HN := Lib.hid (Rm_on (width := width) (a := a) hlt (by rw [get_idx s i hlt]; exact hs))
        have n1 : ¬ s[i]'hlt = 32 := fun e => by rw [e] at hs; cases hs
        have n2 : ¬ s[i]'hlt = 10 := fun e => by rw [e] at hs; cases hs
        have e1 : (((s[i]'hlt).toNat : Int) == 32) = false := u8i (n := 32) (by decide) n1
        have e1' : ¬ ((s[i]'hlt).toNat : Int) = 32 := by simpa using e1
        have e2 : (((s[i]'hlt).toNat : Int) == 10) = false := u8i (n := 10) (by decide) n2
        have e2' : ¬ ((s[i]'hlt).toNat : Int) = 10 := by simpa using e2
        have e1n : (((s[i]'hlt).toNat : Int) != 32) = true := by simpa using e1'
        have e2n : (((s[i]'hlt).toNat : Int) != 10) = true := by simpa using e2'
        clear n1 n2 hs
        go_wp2
        exact ⟨⟨a, i + 1, pre, by go_num, rfl, by omega, by omega, hown, hB, Lib.hid (by rw [← HG.out, HN.out])⟩, by simp [intOf]; omega⟩
      · have HF : Hid (Rm width s a i = Pf width (s.extract a i) ++ Rm width s (i + 1) (i + 1)) := Lib.hid (by
          by_cases hlt : i < s.size
          · refine Rm_sep hai hlt ?_
            rw [get_idx s i hlt]
            cases h : sepB (s[i]'hlt) with
            | true => rfl
            | false => exact absurd ⟨hlt, h⟩ hns
          · obtain rfl : i = s.size := by omega
            exact Rm_end hai)
        have hxs : (s.extract a i).size ≤ s.size := by simp; omega
        have hai' : (a : Int) ≤ (i : Int) := by omega
        have hle' : (i : Int) ≤ (s.size : Int) := by omega
        have h3 : (∃ h : i < s.size, s[i]'h = 32) ∨ (∃ h : i < s.size, s[i]'h = 10) ∨ ¬ i < s.size := by
          by_cases hlt : i < s.size
          · by_cases a1 : s[i]'hlt = 32
            · exact .inl ⟨hlt, a1⟩
            · by_cases a2 : s[i]'hlt = 10
              · exact .inr (.inl ⟨hlt, a2⟩)
              · exact absurd ⟨hlt, by unfold sepB; simp [a1, a2]⟩ hns
          · exact .inr (.inr hlt)
        clear hns
        have hX : Hid (s.extract a i = s.extract a i) := Lib.hid rfl
        rcases h3 with ⟨hlt, e⟩ | ⟨hlt, e⟩ | hlt
        · have q1 : ((s[i]'hlt).toNat : Int) = 32 := by rw [e]; rfl
          clear e
          go_wp2
          generalize s.extract a i = x at *
          go_loopw [5, 8] (fun v t wr => ∃ (y : ByteArray) (q : List ByteArray), t = .string y ∧ y.size ≤ s.size ∧ wr.ownsRow w.heap.size 9 1 v (pre ++ q).length ((pre ++ q).map Value.string) ∧ Below w.heap.size w wr ∧ Hid (q ++ Pf width y = Pf width x)) (fun _ t _ => lenS t)
          case atStart => exact ⟨x, [], rfl, hxs, by rw [List.append_nil]; exact hown, hB, Lib.hid rfl⟩
          case round =>
            obtain ⟨y, q, rfl, hys, hown2, hB2, HQ⟩ := hrel
            have hzz := hB2.size
            by_cases h0 : y.size = 0
            · have e1 := empty_str h0
              have HE : Hid (q = Pf width x) := Lib.hid (by rw [← HQ.out]; unfold Pf; rw [Pt_nil h0]; simp)
              clear h0
              go_wp2
              exact ⟨⟨i + 1, i + 1, pre ++ q, by go_num, by go_num, by omega, by omega, hown2, hB2, Lib.hid (by rw [HE.out, List.append_assoc, ← HF.out, HG.out])⟩, by simp [intOf]; omega⟩
            · have e1 := full_str (y := y) (by omega)
              have e2 : (!y.toList.isEmpty) = true := by rw [e1]; rfl
              have hc := rcut_any y width wr (by omega) (by omega) hhi
              have hpl := fit_le y width
              have hpp := fit_pos y width hw4 (by omega)
              have hP := Pf_cons hw4 (x := y) (by omega)
              generalize (fitP y width).1 = p at *
              have hcs : (y.extract 0 p).size = p := by simp; omega
              obtain ⟨c, hc'⟩ : ∃ c, c = y.extract 0 p := ⟨_, rfl⟩
              rw [← hc'] at hcs hc hP
              have HC := Lib.hid hc
              have hlb : (pre ++ q).length + 1 ≤ L.length := by
                rw [← HG.out, HF.out, ← HQ.out, hP]; simp; omega
              have HP := Lib.hid hP
              have hpi : (p : Int) ≤ (y.size : Int) := by omega
              clear hc hP hc'
              go_wp2_with fail
              refine HC.out.mono ?_
              rintro e W2 ⟨rfl, hb⟩
              have hown3 := own_below hown2 hb
              have hz2' := hb.size
              have hB3 := hB2.trans (hb.mono hzz)
              go_wp2_with (at_builtin; refine wpList_append_own _ rfl _ _ 42 rfl w.heap.size 9 i0 (.string ByteArray.empty) 1 16 Tryd.underlying42 hi hz0 hz1 hz2 rfl (by decide) _ _ _ rfl (hown3.alloc _) ⟨W2.heap.size, 0, none⟩ 1 1 [.string c] rfl rfl (cell_one_new _ _ _) (by simp [Value.oneCell']) (by unfold maxLen; omega) (by omega) (by simp; omega) ?_; intro v' w3 hown4 hgrow4 _)
              exact ⟨⟨y.extract p y.size, q ++ [c], rfl, by simp; omega, by rw [← List.append_assoc, List.length_append, List.map_append]; exact hown4, Below.grown (hB3.alloc (by omega) _) hgrow4 (by simp; omega) (fun j hj => (row_block hown3 j hj).1), Lib.hid (by rw [← HQ.out, HP.out]; simp)⟩, by simp [lenS]; omega⟩
        · have q1 : ((s[i]'hlt).toNat : Int) = 10 := by rw [e]; rfl
          clear e
          go_wp2
          generalize s.extract a i = x at *
          go_loopw [5, 8] (fun v t wr => ∃ (y : ByteArray) (q : List ByteArray), t = .string y ∧ y.size ≤ s.size ∧ wr.ownsRow w.heap.size 9 1 v (pre ++ q).length ((pre ++ q).map Value.string) ∧ Below w.heap.size w wr ∧ Hid (q ++ Pf width y = Pf width x)) (fun _ t _ => lenS t)
          case atStart => exact ⟨x, [], rfl, hxs, by rw [List.append_nil]; exact hown, hB, Lib.hid rfl⟩
          case round =>
            obtain ⟨y, q, rfl, hys, hown2, hB2, HQ⟩ := hrel
            have hzz := hB2.size
            by_cases h0 : y.size = 0
            · have e1 := empty_str h0
              have HE : Hid (q = Pf width x) := Lib.hid (by rw [← HQ.out]; unfold Pf; rw [Pt_nil h0]; simp)
              clear h0
              go_wp2
              exact ⟨⟨i + 1, i + 1, pre ++ q, by go_num, by go_num, by omega, by omega, hown2, hB2, Lib.hid (by rw [HE.out, List.append_assoc, ← HF.out, HG.out])⟩, by simp [intOf]; omega⟩
            · have e1 := full_str (y := y) (by omega)
              have e2 : (!y.toList.isEmpty) = true := by rw [e1]; rfl
              have hc := rcut_any y width wr (by omega) (by omega) hhi
              have hpl := fit_le y width
              have hpp := fit_pos y width hw4 (by omega)
              have hP := Pf_cons hw4 (x := y) (by omega)
              generalize (fitP y width).1 = p at *
              have hcs : (y.extract 0 p).size = p := by simp; omega
              obtain ⟨c, hc'⟩ : ∃ c, c = y.extract 0 p := ⟨_, rfl⟩
              rw [← hc'] at hcs hc hP
              have HC := Lib.hid hc
              have hlb : (pre ++ q).length + 1 ≤ L.length := by
                rw [← HG.out, HF.out, ← HQ.out, hP]; simp; omega
              have HP := Lib.hid hP
              have hpi : (p : Int) ≤ (y.size : Int) := by omega
              clear hc hP hc'
              go_wp2_with fail
              refine HC.out.mono ?_
              rintro e W2 ⟨rfl, hb⟩
              have hown3 := own_below hown2 hb
              have hz2' := hb.size
              have hB3 := hB2.trans (hb.mono hzz)
              go_wp2_with (at_builtin; refine wpList_append_own _ rfl _ _ 42 rfl w.heap.size 9 i0 (.string ByteArray.empty) 1 16 Tryd.underlying42 hi hz0 hz1 hz2 rfl (by decide) _ _ _ rfl (hown3.alloc _) ⟨W2.heap.size, 0, none⟩ 1 1 [.string c] rfl rfl (cell_one_new _ _ _) (by simp [Value.oneCell']) (by unfold maxLen; omega) (by omega) (by simp; omega) ?_; intro v' w3 hown4 hgrow4 _)
              exact ⟨⟨y.extract p y.size, q ++ [c], rfl, by simp; omega, by rw [← List.append_assoc, List.length_append, List.map_append]; exact hown4, Below.grown (hB3.alloc (by omega) _) hgrow4 (by simp; omega) (fun j hj => (row_block hown3 j hj).1), Lib.hid (by rw [← HQ.out, HP.out]; simp)⟩, by simp [lenS]; omega⟩
        · go_wp2
          generalize s.extract a i = x at *
          go_loopw [5, 8] (fun v t wr => ∃ (y : ByteArray) (q : List ByteArray), t = .string y ∧ y.size ≤ s.size ∧ wr.ownsRow w.heap.size 9 1 v (pre ++ q).length ((pre ++ q).map Value.string) ∧ Below w.heap.size w wr ∧ Hid (q ++ Pf width y = Pf width x)) (fun _ t _ => lenS t)
          case atStart => exact ⟨x, [], rfl, hxs, by rw [List.append_nil]; exact hown, hB, Lib.hid rfl⟩
          case round =>
            obtain ⟨y, q, rfl, hys, hown2, hB2, HQ⟩ := hrel
            have hzz := hB2.size
            by_cases h0 : y.size = 0
            · have e1 := empty_str h0
              have HE : Hid (q = Pf width x) := Lib.hid (by rw [← HQ.out]; unfold Pf; rw [Pt_nil h0]; simp)
              clear h0
              go_wp2
              exact ⟨⟨i + 1, i + 1, pre ++ q, by go_num, by go_num, by omega, by omega, hown2, hB2, Lib.hid (by rw [HE.out, List.append_assoc, ← HF.out, HG.out])⟩, by simp [intOf]; omega⟩
            · have e1 := full_str (y := y) (by omega)
              have e2 : (!y.toList.isEmpty) = true := by rw [e1]; rfl
              have hc := rcut_any y width wr (by omega) (by omega) hhi
              have hpl := fit_le y width
              have hpp := fit_pos y width hw4 (by omega)
              have hP := Pf_cons hw4 (x := y) (by omega)
              generalize (fitP y width).1 = p at *
              have hcs : (y.extract 0 p).size = p := by simp; omega
              obtain ⟨c, hc'⟩ : ∃ c, c = y.extract 0 p := ⟨_, rfl⟩
              rw [← hc'] at hcs hc hP
              have HC := Lib.hid hc
              have hlb : (pre ++ q).length + 1 ≤ L.length := by
                rw [← HG.out, HF.out, ← HQ.out, hP]; simp; omega
              have HP := Lib.hid hP
              have hpi : (p : Int) ≤ (y.size : Int) := by omega
              clear hc hP hc'
              go_wp2_with fail
              refine HC.out.mono ?_
              rintro e W2 ⟨rfl, hb⟩
              have hown3 := own_below hown2 hb
              have hz2' := hb.size
              have hB3 := hB2.trans (hb.mono hzz)
              go_wp2_with (at_builtin; refine wpList_append_own _ rfl _ _ 42 rfl w.heap.size 9 i0 (.string ByteArray.empty) 1 16 Tryd.underlying42 hi hz0 hz1 hz2 rfl (by decide) _ _ _ rfl (hown3.alloc _) ⟨W2.heap.size, 0, none⟩ 1 1 [.string c] rfl rfl (cell_one_new _ _ _) (by simp [Value.oneCell']) (by unfold maxLen; omega) (by omega) (by simp; omega) ?_; intro v' w3 hown4 hgrow4 _)
              exact ⟨⟨y.extract p y.size, q ++ [c], rfl, by simp; omega, by rw [← List.append_assoc, List.length_append, List.map_append]; exact hown4, Below.grown (hB3.alloc (by omega) _) hgrow4 (by simp; omega) (fun j hj => (row_block hown3 j hj).1), Lib.hid (by rw [← HQ.out, HP.out]; simp)⟩, by simp [lenS]; omega⟩
    · obtain rfl : i = s.size + 1 := by omega
      have HE : Hid (pre = L) := Lib.hid (by rw [← HG.out]; unfold Rm; rw [if_neg (by omega), List.append_nil])
      go_wp2
      go_ret
      exact ⟨⟨_, rfl, by rw [← HE.out]; exact hown⟩, hB⟩
end Go.Proofs.YtdfhpblceoaofaaDoor
