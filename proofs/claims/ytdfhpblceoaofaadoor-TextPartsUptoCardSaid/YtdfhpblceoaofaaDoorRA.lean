/-
  The contracts of the document's own all, Show, Quote, Width.
-/
import Derived.Test.YtdfhpblceoaofaaDoorRS
import Derived.Test.YtdfhpblceoaofaaDoorI
import Derived.Lib.AppendStr
namespace Go.Proofs.YtdfhpblceoaofaaDoor
open Go.ChangeShapes Go.WideShapes Go.ChangeAt Go.RowKit Go.Shelf
set_option linter.unusedVariables false

def pcS (s : ByteArray) (p : Pc) : ByteArray := s.extract p.at_ (p.at_ + p.n)
def raL (q : Bool) (s : ByteArray) (l : List Pc) : List UInt8 := l.flatMap fun p => rsL q p.r (pcS s p)
theorem raL_take (q : Bool) (s : ByteArray) (l : List Pc) (i : Nat) (p : Pc) (h : l[i]? = some p) : raL q s (l.take (i + 1)) = raL q s (l.take i) ++ rsL q p.r (pcS s p) := by
  have e : l.take (i + 1) = l.take i ++ [p] := by
    rw [List.take_add_one, h]; rfl
  rw [e]; simp [raL]

theorem flatP_str (s : ByteArray) : ∀ (l : List Pc) (i : Nat) (p : Pc), l[i]? = some p → (flatP s l)[i * 3 + 1]? = some (.string (pcS s p))
  | [], i, p, h => by simp at h
  | q :: l, 0, p, h => by
    simp at h; subst h
    simp [flatP, cellsP, pcS]
  | q :: l, i + 1, p, h => by
    have := flatP_str s l i p (by simpa using h)
    have e : flatP s (q :: l) = cellsP s q ++ flatP s l := by simp [flatP]
    have hl : (cellsP s q).length = 3 := rfl
    rw [e, List.getElem?_append_right (by omega), hl]
    rw [show (i + 1) * 3 + 1 - 3 = i * 3 + 1 by omega]
    exact this

theorem pcs_n (s : ByteArray) : ∀ f i, ∀ p ∈ pcs s f i, 1 ≤ p.n ∧ p.n ≤ 4 ∧ p.at_ + p.n ≤ s.size
  | 0, i, p, h => by simp [pcs] at h
  | f + 1, i, p, h => by
    simp only [pcs] at h
    split at h
    · rename_i hi
      simp only [List.mem_cons] at h
      rcases h with rfl | h
      · have hb := dec_bd s i hi
        rw [pc_n, pc_at]; omega
      · exact pcs_n s f _ p h
    · simp at h
theorem pcS_size (s : ByteArray) (p : Pc) (h : p.at_ + p.n ≤ s.size) : (pcS s p).size = p.n := by unfold pcS; simp; omega

theorem rsL_le (q : Bool) (r : Int) (p : ByteArray) (h : p.size ≤ 4) : (rsL q r p).length ≤ 5 := by
  have : p.data.toList.length ≤ 4 := by simpa using h
  unfold rsL
  split
  · simp
  · split
    · simp; omega
    · omega
theorem raL_le (q : Bool) (s : ByteArray) : ∀ l : List Pc, (∀ p ∈ l, (pcS s p).size ≤ 4) → (raL q s l).length ≤ 5 * l.length
  | [], _ => by simp [raL]
  | p :: l, h => by
    have := raL_le q s l (fun x hx => h x (by simp [hx]))
    have := rsL_le q p.r (pcS s p) (h p (by simp))
    simp only [raL, List.flatMap_cons, List.length_append, List.length_cons] at *
    omega

theorem info5 : (Tryd.prog.info? 5).map (fun i => (i.zero, i.size, i.bytes)) = some (some (.int .u8 0), 1, 1) := by kernel_rfl
theorem own_hitB {w3 : World} {B : Nat} {v' : Value} {pre post add : List UInt8} (h : post = pre ++ add) (hown : w3.ownsRow B 5 1 v' (pre.length + (⟨add.toArray⟩ : ByteArray).size) (Lib.byteCells pre ++ Lib.strCells ⟨add.toArray⟩)) :
    w3.ownsRow B 5 1 v' post.length (Lib.byteCells post) := by
  have e : Lib.strCells ⟨add.toArray⟩ = Lib.byteCells add := by simp [Lib.strCells, Lib.byteCells]
  rw [e] at hown
  rw [h, List.length_append, Lib.byteCells_append]
  have : (⟨add.toArray⟩ : ByteArray).size = add.length := by simp [ByteArray.size]
  rw [this] at hown; exact hown

theorem conv_own {w : World} {B : Nat} {v : Value} {bs : List UInt8} (h : w.ownsRow B 5 1 v bs.length (Lib.byteCells bs)) :
    (convert 55 9 v).run Tryd.prog w = .ok (.string ⟨bs.toArray⟩) w := by
  have hh := h
  obtain ⟨h1, h2⟩ := h
  rcases h2 with ⟨rfl, h0⟩ | ⟨g, cap, cur, rfl, hg1, hg2, hcl, hcm, hcs, htk⟩
  · have : bs = [] := by cases bs; rfl; simp at h0
    subst this
    exact run_convert_bytes_nil w 55 5 Tryd.underlying55 Tryd.underlying5 0 0 9 Tryd.underlying9
  · have := run_convert_bytes_arg w 55 5 Tryd.underlying55 Tryd.underlying5 g 0 bs.length cap (bs.map fun c => (c.toNat : Int)) (by simp) (fun i hi => by
      have hi' : i < bs.length := by simpa using hi
      have e := hh.cellAt i (by omega)
      have e2 : w.cell? ⟨g, 0 + i, none⟩ = (Lib.byteCells bs)[i]? := by rw [show 0 + i = i by omega]; exact e
      exact e2.trans (by simp [Lib.byteCells, List.getElem?_eq_getElem hi'])) 9 Tryd.underlying9
    rw [this]; simp [strOfNums, Function.comp_def]

set_option maxRecDepth 100000 in
set_option maxHeartbeats 4000000 in
theorem rall_any (q : Bool) (s : ByteArray) (w : World) (hsz : s.size ≤ 1099511627776) :
    Calls Tryd.prog 37 #[.string s, .bool q] w fun e W' => e = .returned (.string ⟨(raL q s (G s 0)).toArray⟩) ∧ Below w.heap.size w W' := by
  obtain ⟨i0, hi, hz0, hz1, hz2⟩ := info_parts info5
  have hGl := G_le s
  go_enter Tryd.func37, Tryd.ntmps37
  go_wp2_with (go_at_call 9; refine (pieces_any s _ hsz).mono ?_; rintro e W1 ⟨⟨vW, rfl, hrow⟩, hB1⟩)
  have hz := hB1.size
  go_loopw [5, 7] (fun v t wr => ∃ (i : Nat), t = .int .i64 i ∧ i ≤ (G s 0).length ∧ wr.ownsRow W1.heap.size 5 1 v (raL q s ((G s 0).take i)).length (Lib.byteCells (raL q s ((G s 0).take i))) ∧ Below W1.heap.size W1 wr) (fun _ t _ => (G s 0).length - (intOf t).toNat)
  case atStart => exact ⟨0, rfl, by omega, World.ownsRow_nil _ _ _ _, Below.refl _ _⟩
  case round =>
    obtain ⟨i, rfl, hil, hown, hB⟩ := hrel
    rcases hrow.2 with ⟨rfl, h0⟩ | ⟨g, cap, cur, rfl, hg1, hg2, hcl, hcm, hcs, htk⟩
    · have HE := Lib.hid (show (G s 0).take i = G s 0 from take_all (by omega))
      have hcv := conv_own hown
      rw [HE.out] at hcv
      go_wp2
      go_ret
      exact ⟨rfl, hB1.trans (hB.mono hz)⟩
    · by_cases hlt : i < (G s 0).length
      · obtain ⟨p, hp⟩ : ∃ p, (G s 0)[i]? = some p := ⟨_, List.getElem?_eq_getElem hlt⟩
        have hf := flatP_at s _ i p hp
        have hf1 := flatP_str s _ i p hp
        have hgz := (Array.getElem?_eq_some_iff.1 hg2).1
        have hc0 : wr.cell? ⟨g, i * 3, none⟩ = some (.int .i64 (p.at_ : Int)) := by
          rw [hB.cell (p := ⟨g, i * 3, none⟩) hgz]
          exact (hrow.cellAt (i * 3) (by omega)).trans hf.1
        have hc1 : wr.cell? ⟨g, i * 3 + 1, none⟩ = some (.string (pcS s p)) := by
          rw [hB.cell (p := ⟨g, i * 3 + 1, none⟩) hgz]
          exact (hrow.cellAt (i * 3 + 1) (by omega)).trans hf1
        have hc2 : wr.cell? ⟨g, i * 3 + 2, none⟩ = some (.int .i32 p.r) := by
          rw [hB.cell (p := ⟨g, i * 3 + 2, none⟩) hgz]
          exact (hrow.cellAt (i * 3 + 2) (by omega)).trans hf.2
        have hn := pcs_n s _ _ p (List.mem_of_getElem? hp)
        have hps := pcS_size s p hn.2.2
        have HT := Lib.hid (raL_take q s _ i p hp)
        have hlo : (raL q s ((G s 0).take i)).length ≤ 5 * i := Nat.le_trans (raL_le q s _ (fun x hx => by
          have hm := pcs_n s _ _ x (List.mem_of_mem_take hx)
          rw [pcS_size s x hm.2.2]; exact hm.2.1)) (by simp; omega)
        have hadd := rsL_le q p.r (pcS s p) (by omega)
        clear hf hf1 hp hg2 hrow htk
        go_wp2_with fail
        refine (rshown_any q _ _ _ wr (by omega) (by omega)).mono ?_
        rintro e W2 ⟨rfl, hB2⟩
        have hown2 := own_below hown hB2
        have hzq := hB2.size
        have hzz := hB.size
        have hsa : (⟨(rsL q p.r (pcS s p)).toArray⟩ : ByteArray).size ≤ 5 := by simpa [ByteArray.size] using hadd
        go_wp2_with (at_builtin; refine Lib.wpList_append_own_string W2 rfl _ _ 55 9 rfl W1.heap.size 5 i0 Tryd.underlying55 Tryd.underlying9 hi hz0 hz1 hz2 _ _ _ rfl hown2 _ rfl (by unfold maxLen; omega) (by omega) (by omega) ?_; intro v' w3 hown3 hgrow3 _)
        exact ⟨⟨i + 1, (by go_num), hlt, own_hitB HT.out hown3, Below.grown (hB.trans (hB2.mono hzz)) hgrow3 (by omega) (fun j hj => by have := (hown2.lt _ hj).1; omega)⟩, by simp [intOf]; omega⟩
      · have HE := Lib.hid (show (G s 0).take i = G s 0 from take_all (by omega))
        have hcv := conv_own hown
        rw [HE.out] at hcv
        go_wp2
        go_ret
        exact ⟨rfl, hB1.trans (hB.mono hz)⟩

set_option maxRecDepth 100000 in
theorem rshow_any (s : ByteArray) (w : World) (hsz : s.size ≤ 1099511627776) :
    Calls Tryd.prog 15 #[.string s] w fun e W' => e = .returned (.string ⟨(raL false s (G s 0)).toArray⟩) ∧ Below w.heap.size w W' := by
  go_enter Tryd.func15, Tryd.ntmps15
  go_wp2_with (go_at_call 37; refine (rall_any false s _ hsz).mono ?_; rintro e W1 ⟨rfl, hB1⟩)
  go_ret
  exact ⟨rfl, hB1⟩
theorem raL_whole (q : Bool) (s : ByteArray) (hsz : s.size ≤ 1099511627776) : (raL q s (G s 0)).length ≤ 5 * s.size := by
  have := raL_le q s (G s 0) (fun x hx => by
    have hm := pcs_n s _ _ x hx
    rw [pcS_size s x hm.2.2]; exact hm.2.1)
  have := G_le s
  omega
set_option maxRecDepth 100000 in
theorem rquote_any (s : ByteArray) (w : World) (hsz : s.size ≤ 1099511627776) :
    Calls Tryd.prog 19 #[.string s] w fun e W' => e = .returned (.string ⟨(34 :: (raL true s (G s 0) ++ [34])).toArray⟩) ∧ Below w.heap.size w W' := by
  have hl := raL_whole true s hsz
  go_enter Tryd.func19, Tryd.ntmps19
  go_wp2_with (go_at_call 37; refine (rall_any true s _ hsz).mono ?_; rintro e W1 ⟨rfl, hB1⟩)
  go_ret
  refine ⟨retS ?_, hB1⟩
  apply ByteArray.ext; simp

/-- The widths of pieces. -/
def rwsum (l : List Pc) : Nat := (l.map fun p => rsW false p.r).sum
theorem rwsum_take (l : List Pc) (i : Nat) (p : Pc) (h : l[i]? = some p) : rwsum (l.take (i + 1)) = rwsum (l.take i) + rsW false p.r := by
  have e : l.take (i + 1) = l.take i ++ [p] := by
    rw [List.take_add_one, h]; rfl
  rw [e]; simp [rwsum]
theorem rwsum_le : ∀ l : List Pc, rwsum l ≤ 4 * l.length
  | [] => by simp [rwsum]
  | p :: l => by
    have := rwsum_le l
    have : rsW false p.r ≤ 4 := by unfold rsW; split <;> (try split) <;> omega
    simp only [rwsum, List.map_cons, List.sum_cons, List.length_cons] at *
    omega
set_option maxRecDepth 100000 in
set_option maxHeartbeats 4000000 in
theorem rwidth_any (s : ByteArray) (w : World) (hsz : s.size ≤ 1099511627776) :
    Calls Tryd.prog 17 #[.string s] w fun e W' => e = .returned (.int .i64 (rwsum (G s 0) : Int)) ∧ Below w.heap.size w W' := by
  have hGl := G_le s
  go_enter Tryd.func17, Tryd.ntmps17
  go_wp2_with (go_at_call 9; refine (pieces_any s _ hsz).mono ?_; rintro e W1 ⟨⟨vW, rfl, hrow⟩, hB1⟩)
  have hz := hB1.size
  go_loopw [3, 5] (fun v t wr => ∃ (i : Nat), t = .int .i64 i ∧ i ≤ (G s 0).length ∧ v = .int .i64 (rwsum ((G s 0).take i) : Int) ∧ Below W1.heap.size W1 wr) (fun _ t _ => (G s 0).length - (intOf t).toNat)
  case atStart => exact ⟨0, rfl, by omega, rfl, Below.refl _ _⟩
  case round =>
    obtain ⟨i, rfl, hil, rfl, hB⟩ := hrel
    rcases hrow.2 with ⟨rfl, h0⟩ | ⟨g, cap, cur, rfl, hg1, hg2, hcl, hcm, hcs, htk⟩
    · have HE := Lib.hid (show (G s 0).take i = G s 0 from take_all (by omega))
      go_wp2
      go_ret
      exact ⟨by rw [HE.out]; rfl, hB1.trans (hB.mono hz)⟩
    · by_cases hlt : i < (G s 0).length
      · obtain ⟨p, hp⟩ : ∃ p, (G s 0)[i]? = some p := ⟨_, List.getElem?_eq_getElem hlt⟩
        have hf := flatP_at s _ i p hp
        have hf1 := flatP_str s _ i p hp
        have hgz := (Array.getElem?_eq_some_iff.1 hg2).1
        have hc0 : wr.cell? ⟨g, i * 3, none⟩ = some (.int .i64 (p.at_ : Int)) := by
          rw [hB.cell (p := ⟨g, i * 3, none⟩) hgz]
          exact (hrow.cellAt (i * 3) (by omega)).trans hf.1
        have hc1 : wr.cell? ⟨g, i * 3 + 1, none⟩ = some (.string (pcS s p)) := by
          rw [hB.cell (p := ⟨g, i * 3 + 1, none⟩) hgz]
          exact (hrow.cellAt (i * 3 + 1) (by omega)).trans hf1
        have hc2 : wr.cell? ⟨g, i * 3 + 2, none⟩ = some (.int .i32 p.r) := by
          rw [hB.cell (p := ⟨g, i * 3 + 2, none⟩) hgz]
          exact (hrow.cellAt (i * 3 + 2) (by omega)).trans hf.2
        have hn := pcs_n s _ _ p (List.mem_of_getElem? hp)
        have hps := pcS_size s p hn.2.2
        have HT := Lib.hid (rwsum_take _ i p hp)
        have hlo : rwsum ((G s 0).take i) ≤ 4 * i := Nat.le_trans (rwsum_le _) (by simp; omega)
        have hadd : rsW false p.r ≤ 4 := by unfold rsW; split <;> (try split) <;> omega
        clear hf hf1 hp hg2 hrow htk
        go_wp2_with fail
        refine (rshown_any false _ _ _ wr (by omega) (by omega)).mono ?_
        rintro e W2 ⟨rfl, hB2⟩
        have hzq := hB2.size
        have hzz := hB.size
        go_wp2
        exact ⟨⟨i + 1, (by go_num), hlt, (by rw [HT.out]; go_num), hB.trans (hB2.mono hzz)⟩, by simp [intOf]; omega⟩
      · have HE := Lib.hid (show (G s 0).take i = G s 0 from take_all (by omega))
        go_wp2
        go_ret
        exact ⟨by rw [HE.out]; rfl, hB1.trans (hB.mono hz)⟩
end Go.Proofs.YtdfhpblceoaofaaDoor
