/-
  The document's pieces of a text.
-/
import Derived.Test.YtocdinaomkmcbaaDoorW
import Derived.Test.YtocdinaomkmcbaaDoorP
namespace Go.Proofs.YtocdinaomkmcbaaDoor
open Go.ChangeShapes Go.WideShapes Go.ChangeAt Go.RowKit Go.Shelf
set_option linter.unusedVariables false

/-- What follows has no separator between at and i. -/
def Free (L : List UInt8) (a i : Nat) : Prop := ∀ k, a ≤ k → k < i → Lib.occAt L sepL k = false
structure PI (s : ByteArray) (B : Nat) (W0 : World) (v : Value) (a i : Nat) (W : World) : Prop where
  ai : a ≤ i + 2
  al : a ≤ s.size
  il : i ≤ s.size
  free : Free s.data.toList a i
  row : ∃ pre : List (List UInt8), spl s.data.toList = pre ++ spl (s.data.toList.drop a) ∧ pre.length ≤ i ∧ W.ownsRow B 9 1 v pre.length (strs (pre.map bts))
  bel : Below B W0 W

theorem ext_list (s : ByteArray) (a b : Nat) : (s.extract a b).data.toList = (s.data.toList.drop a).take (b - a) := by simp
theorem ext_bts (s : ByteArray) (a b : Nat) : s.extract a b = bts ((s.data.toList.drop a).take (b - a)) := by apply ba_ext; rw [ext_list, bts_list]
theorem ext_end (s : ByteArray) (a : Nat) : s.extract a s.size = bts (s.data.toList.drop a) := by
  rw [ext_bts]
  congr 1
  exact List.take_of_length_le (by simp)
theorem occ_iff {s : ByteArray} {i : Nat} : (s.extract i (i + 3)).toList = [32, 60, 32] ↔ Lib.occAt s.data.toList sepL i = true := by
  rw [Lib.toList_data, ext_list, show i + 3 - i = 3 by omega]
  unfold Lib.occAt
  rw [List.isPrefixOf_iff_prefix, List.prefix_iff_eq_take]
  exact ⟨fun h => h.symm, fun h => h.symm⟩
theorem occ_drop (L : List UInt8) (a j : Nat) : Lib.occAt (L.drop a) sepL j = Lib.occAt L sepL (a + j) := by
  unfold Lib.occAt; rw [List.drop_drop]
theorem free_hit {L : List UInt8} {a i : Nat} (hf : Free L a i) (ho : Lib.occAt L sepL i = true) (hai : a ≤ i) (h3 : i + 3 ≤ L.length) : spl (L.drop a) = (L.drop a).take (i - a) :: spl (L.drop (i + 3)) := by
  have hi : Lib.index (L.drop a) sepL = ((i - a : Nat) : Int) := Lib.index_hit (fun j hj => by rw [occ_drop]; exact hf _ (by omega) (by omega)) (by rw [List.length_drop]; omega) (by rw [occ_drop, show a + (i - a) = i by omega]; exact ho)
  rw [spl_more (by rw [hi]; omega), hi, List.drop_drop]
  congr 2
  congr 1
  simp; omega
theorem free_end {L : List UInt8} {a i : Nat} (hf : Free L a i) (h3 : L.length < i + 3) : spl (L.drop a) = [L.drop a] := by
  refine spl_last ?_
  by_cases hneg : Lib.index (L.drop a) sepL < 0
  · exact hneg
  · exfalso
    have h : 0 ≤ Lib.index (L.drop a) sepL := by omega
    have h1 := index_fits h
    have h2 := (index_parts h).2
    generalize (Lib.index (L.drop a) sepL).toNat = k at *
    rw [List.length_drop] at h2
    have h4 := hf (a + k) (by omega) (by omega)
    rw [← occ_drop] at h4
    unfold Lib.occAt at h4
    rw [h4] at h1
    cases h1
theorem strs_snoc (pre : List (List UInt8)) (x : List UInt8) : strs ((pre ++ [x]).map bts) = strs (pre.map bts) ++ [.string (bts x)] := by simp [strs]

set_option maxRecDepth 100000 in
set_option maxHeartbeats 4000000 in
theorem pieces_any (s : ByteArray) (w : World) (hs : s.size ≤ 1048576) :
    Calls Tryd.prog 55 #[.string s] w fun e w' => ∃ v, e = .returned v ∧ w'.ownsRow w.heap.size 9 1 v (if s.data.toList = [] then [] else spl s.data.toList).length (strs ((if s.data.toList = [] then [] else spl s.data.toList).map bts)) ∧ Below w.heap.size w w' := by
  obtain ⟨i0, hi0, hz0, hz1, hz2⟩ := info_parts info9
  have HR := Lib.hid (rfl : (if s.data.toList = [] then [] else spl s.data.toList) = (if s.data.toList = [] then [] else spl s.data.toList))
  generalize hres : (if s.data.toList = [] then [] else spl s.data.toList) = res at *
  have HE := Lib.hid hres
  clear hres HR
  have hsz : s.data.toList.length = s.size := by simp
  have HZ := Lib.hid hsz
  clear hsz
  go_enter Tryd.func55, Tryd.ntmps55
  go_wp2
  go_loopw [3, 4, 5] (fun v u t wr => ∃ a i : Nat, u = .int .i64 a ∧ t = .int .i64 i ∧ PI s w.heap.size w v a i wr) (fun _ _ t _ => s.size - (intOf t).toNat)
  case atStart => exact ⟨0, 0, rfl, rfl, by omega, by omega, by omega, fun k h1 h2 => by omega, ⟨[], rfl, by simp, World.ownsRow_nil _ _ _ _⟩, Below.refl _ _⟩
  case round =>
    obtain ⟨a, i, rfl, rfl, HI⟩ := hrel
    have h1 := HI.ai
    have h2 := HI.al
    have h3 := HI.il
    obtain ⟨pre, hpre, hpl, ho⟩ := HI.row
    have HP := Lib.hid hpre
    have HB := HI.bel
    have HF := HI.free
    have hz := HB.size
    have hi0' : (0 : Int) ≤ (i : Int) := Int.natCast_nonneg _
    have ha0' : (0 : Int) ≤ (a : Int) := Int.natCast_nonneg _
    clear hpre HI
    by_cases hlt : i + 3 ≤ s.size
    · have hi3 : (i : Int) + 3 ≤ (s.size : Int) := by omega
      have hi4 : (i : Int) ≤ (i : Int) + 3 := by omega
      by_cases hoc : Lib.occAt s.data.toList sepL i = true
      · have hx := occ_iff.2 hoc
        by_cases hai : a ≤ i
        · have hai' : (a : Int) ≤ (i : Int) := by omega
          have HS := Lib.hid (free_hit HF hoc hai (by rw [HZ.out]; exact hlt))
          have HX := Lib.hid (strs_snoc pre ((s.data.toList.drop a).take (i - a)))
          have HY := Lib.hid (ext_bts s a i)
          clear hoc HF
          go_wp2_with (at_builtin; refine wpList_append_lies _ rfl _ _ 44 rfl w.heap.size 9 i0 _ 1 16 Tryd.underlying44 hi0 hz0 hz1 hz2 rfl (by omega) u3 pre.length (strs (pre.map bts)) rfl (ho.alloc _) ⟨wr.heap.size, 0, none⟩ 1 1 [.string (s.extract a i)] rfl rfl (World.news_of_block (cs := #[.string (s.extract a i)]) (t := 9) (fr := (0, 0)) (heap_alloc_new wr _)) (by simp [Value.oneCell']) (by omega) (by unfold maxLen; omega) (by omega) (by simp; omega) (wr.heap.size + 1) (by simp) ?_; intro gg cap' w1 hown1 hgrow hat hlt1)
          go_roundw
          case rel => exact ⟨i + 3, i + 1, by go_num, by go_num, by omega, by omega, by omega, fun k k1 k2 => by omega, ⟨pre ++ [(s.data.toList.drop a).take (i - a)], by rw [HP.out, HS.out]; simp, by simp; omega, by rw [HX.out, ← HY.out, List.length_append]; exact hown1⟩, Below.grown (HB.alloc hz _) hgrow (by simp; omega) (fun j hj => (ho.lt j hj).1)⟩
          case measure => simp [intOf]; omega
        · have hai' : ¬ (a : Int) ≤ (i : Int) := by omega
          clear hoc
          go_wp2_with fail
          go_roundw
          case rel => exact ⟨a, i + 1, by go_num, by go_num, by omega, by omega, by omega, fun k k1 k2 => by omega, ⟨pre, HP.out, by omega, ho⟩, HB⟩
          case measure => simp [intOf]; omega
      · have hx : ¬ (s.extract i (i + 3)).toList = [32, 60, 32] := fun h => hoc (occ_iff.1 h)
        have HF' : Hid (Free s.data.toList a (i + 1)) := Lib.hid (fun k k1 k2 => by
          by_cases hk : k = i
          · subst hk; simpa using hoc
          · exact HF k k1 (by omega))
        clear hoc HF
        go_wp2_with fail
        go_roundw
        case rel => exact ⟨a, i + 1, by go_num, by go_num, by omega, by omega, by omega, HF'.out, ⟨pre, HP.out, by omega, ho⟩, HB⟩
        case measure => simp [intOf]; omega
    · have hi3 : ¬ (i : Int) + 3 ≤ (s.size : Int) := by omega
      have HS := Lib.hid (free_end HF (by rw [HZ.out]; omega))
      have HX := Lib.hid (strs_snoc pre (s.data.toList.drop a))
      have HY := Lib.hid (ext_end s a)
      clear HF
      by_cases hne : s.data.toList = []
      · have he : s.toList.isEmpty = true := by rw [Lib.toList_data, hne]; rfl
        have HN : Hid (res = []) := Lib.hid (by rw [← HE.out, if_pos hne])
        clear hne
        go_wp2_with fail
        go_ret
        exact ⟨_, rfl, by rw [HN.out]; exact World.ownsRow_nil _ _ _ _, HB⟩
      · have he : s.toList.isEmpty = false := by
          rw [Lib.toList_data]; cases hl : s.data.toList with
          | nil => exact absurd hl hne
          | cons a b => rfl
        have HN : Hid (res = pre ++ [s.data.toList.drop a]) := Lib.hid (by rw [← HE.out, if_neg hne, HP.out, HS.out])
        clear hne
        have ha2 : (a : Int) ≤ (s.size : Int) := by omega
        go_wp2_with (at_builtin; refine wpList_append_lies _ rfl _ _ 44 rfl w.heap.size 9 i0 _ 1 16 Tryd.underlying44 hi0 hz0 hz1 hz2 rfl (by omega) u3 pre.length (strs (pre.map bts)) rfl (ho.alloc _) ⟨wr.heap.size, 0, none⟩ 1 1 [.string (s.extract a s.size)] rfl rfl (World.news_of_block (cs := #[.string (s.extract a s.size)]) (t := 9) (fr := (0, 0)) (heap_alloc_new wr _)) (by simp [Value.oneCell']) (by omega) (by unfold maxLen; omega) (by omega) (by simp; omega) (wr.heap.size + 1) (by simp) ?_; intro gg cap' w1 hown1 hgrow hat hlt1)
        go_ret
        exact ⟨_, rfl, by rw [HN.out, HX.out, ← HY.out, List.length_append]; exact hown1, Below.grown (HB.alloc hz _) hgrow (by simp; omega) (fun j hj => (ho.lt j hj).1)⟩
end Go.Proofs.YtocdinaomkmcbaaDoor
