/-
  The contracts of joined and plain.
-/
import Derived.Test.YtdfhpblceoaofaaDoorLO
import Derived.Test.YtdfhpblceoaofaaDoorRX
import Derived.BigQuiet
namespace Go.Proofs.YtdfhpblceoaofaaDoor
open Go.ChangeShapes Go.WideShapes Go.ChangeAt Go.RowKit Go.Shelf
set_option linter.unusedVariables false

theorem jl_take (l : List (List UInt8)) (i : Nat) : jl (l.take i) ≤ jl l := by
  have := jl_append (l.take i) (l.drop i)
  rw [List.take_append_drop] at this; omega
/-- What joined has in hand. -/
def jT (xs : List ByteArray) (i : Nat) : List UInt8 := jn ((xs.take i).map bt)
theorem jT_one {xs : List ByteArray} {y : ByteArray} (h : xs[0]? = some y) : jT xs 1 = bt y := by
  unfold jT; rw [take_snoc' h]; rfl
theorem jT_step {xs : List ByteArray} {y : ByteArray} {i : Nat} (h : xs[i]? = some y) (hi : 0 < i) : jT xs (i + 1) = jT xs i ++ [32] ++ bt y := by
  unfold jT
  have hl : i < xs.length := (List.getElem?_eq_some_iff.1 h).1
  rw [take_snoc' h, List.map_append, List.map_cons, List.map_nil, jn_snoc]
  · simp
  · intro e
    have := congrArg List.length e
    simp at this
    rcases this with h1 | h1
    · omega
    · subst h1; simp at hl
theorem jT_len (xs : List ByteArray) (i : Nat) : (jT xs i).length ≤ jl (xs.map bt) := by
  unfold jT
  have h1 := jn_le ((xs.take i).map bt)
  have h2 := jl_take (xs.map bt) i
  rw [List.map_take] at h1 ⊢; omega
theorem jT_all (xs : List ByteArray) : jT xs xs.length = jn (xs.map bt) := by unfold jT; rw [List.take_of_length_le (Nat.le_refl _)]
theorem jT_next {xs : List ByteArray} {y : ByteArray} {i : Nat} (h : xs[i]? = some y) : (jT xs i).length + 1 + y.size ≤ jl (xs.map bt) + 1 := by
  have h1 := jT_len xs (i + 1)
  rcases Nat.eq_zero_or_pos i with rfl | hi
  · rw [jT_one h, bt_len] at h1
    have : (jT xs 0).length = 0 := rfl
    omega
  · rw [jT_step h hi] at h1
    simp only [List.length_append, List.length_singleton, bt_len] at h1; omega

set_option maxRecDepth 100000 in
set_option maxHeartbeats 4000000 in
theorem joined_any (v : Value) (xs : List ByteArray) (w : World) (h : ReadsT w v xs) (hz : jl (xs.map bt) ≤ 1099511627776) (hlen : xs.length ≤ 1099511627776) :
    Calls Tryd.prog 30 #[v] w fun e W' => e = .returned (.string ⟨(jn (xs.map bt)).toArray⟩) ∧ Below w.heap.size w W' := by
  obtain ⟨j0, gj, gz0, gz1, gz2⟩ := info_parts info5
  obtain ⟨a, cap, rfl⟩ := h.len
  rw [← jT_all]
  go_enter Tryd.func30, Tryd.ntmps30
  go_wp2
  go_loopw [3, 4] (fun vb vi wr => ∃ (i : Nat), vi = .int .i64 i ∧ i ≤ xs.length ∧ wr.ownsRow w.heap.size 5 1 vb (jT xs i).length (Lib.byteCells (jT xs i)) ∧ Below w.heap.size w wr) (fun _ vi _ => xs.length - (intOf vi).toNat)
  case atStart => exact ⟨0, rfl, by omega, World.ownsRow_nil _ _ _ _, Below.refl _ _⟩
  case round =>
    obtain ⟨i, rfl, hi, hown, hB⟩ := hrel
    have hzz := hB.size
    by_cases hlt : i < xs.length
    · rcases h with ⟨h1, h2⟩ | ⟨g, cap', h1, hc⟩
      · subst h2; simp at hlt
      cases h1
      obtain ⟨y, hy⟩ : ∃ y, xs[i]? = some y := ⟨_, List.getElem?_eq_getElem hlt⟩
      have hcg := hc i hlt
      rw [hy] at hcg
      simp only [Option.getD_some] at hcg
      have hgz : g < w.heap.size := by
        have hx : w.cell? ⟨g, i, none⟩ ≠ none := by rw [hcg]; simp
        rcases Nat.lt_or_ge g w.heap.size with h' | h'
        · exact h'
        · exact absurd (by simp [World.cell?, Array.getElem?_eq_none h']) hx
      have hcell : wr.cell? ⟨g, i, none⟩ = some (.string y) := (hB.cell (p := ⟨g, i, none⟩) hgz).trans hcg
      have hnx := jT_next hy
      have hii : (i : Int) < (xs.length : Int) := by omega
      clear hc hcg
      rcases Nat.eq_zero_or_pos i with hi0 | hi0
      · subst hi0
        have HS := Lib.hid (jT_one hy)
        clear hy
        have e0 : jT xs 0 = [] := rfl
        rw [e0] at hown hnx
        go_wp2_with (at_builtin; refine Lib.wpList_append_own_string wr rfl _ _ 55 9 rfl w.heap.size 5 j0 Tryd.underlying55 Tryd.underlying9 gj gz0 gz1 gz2 _ _ _ rfl hown y rfl (by unfold maxLen; simp; omega) (by simp; omega) (by omega) ?_; intro v4 w4 hlin4 hgrow4 _)
        exact ⟨⟨1, rfl, by omega, by rw [HS.out]; exact own_str0 hlin4, Below.grown hB hgrow4 (by omega) (fun j hj => (row_block hown j hj).1)⟩, by simp [intOf]; omega⟩
      · have HS := Lib.hid (jT_step hy hi0)
        have hi0' : (0 : Int) < (i : Int) := by omega
        clear hy
        generalize jT xs i = line at *
        go_wp2_with (first
          | (at_builtin; refine wpList_append_own _ rfl (.tmp 13) (.tmp 14) 55 rfl w.heap.size 5 j0 (.int .u8 0) 1 1 Tryd.underlying55 gj gz0 gz1 gz2 rfl (by decide) _ _ _ rfl (hown.alloc _) ⟨wr.heap.size, 0, none⟩ 1 1 [.int .u8 32] rfl rfl (cell_one_new _ _ _) (by simp [Value.oneCell']) (by unfold maxLen; omega) (by omega) (by simp; omega) ?_; intro v3 w3 hlin3 hgrow3 _; have hcell3 : w3.cell? ⟨g, i, none⟩ = some (.string y) := cell_grown hgrow3 (fun r e h => by have := (row_block hown r e).1; omega) (by simp; omega) ((World.cell?_of_block (a := ⟨g, i, none⟩) (Below.heap_alloc wr _ g (by omega))).trans hcell); have hlin3' := own_one (c := 32) rfl hlin3)
          | (at_builtin; refine Lib.wpList_append_own_string w3 rfl (.tmp 16) (.tmp 20) 55 9 rfl w.heap.size 5 j0 Tryd.underlying55 Tryd.underlying9 gj gz0 gz1 gz2 v3 (line ++ [32]).length (Lib.byteCells (line ++ [32])) rfl hlin3' y rfl (by unfold maxLen; simp; omega) (by simp; omega) (by have := hgrow3.size; simp at this; omega) ?_; intro v4 w4 hlin4 hgrow4 _))
        have hB3 := Below.grown (hB.alloc (by omega) _) hgrow3 (by simp; omega) (fun j hj => (row_block hown j hj).1)
        have hs3 := hgrow3.size
        simp only [World.size_alloc] at hs3
        exact ⟨⟨i + 1, by go_num, by omega, by rw [HS.out]; exact own_str hlin4, Below.grown hB3 hgrow4 (by omega) (fun j hj => (row_block hlin3' j hj).1)⟩, by simp [intOf]; omega⟩
    · obtain rfl : i = xs.length := by omega
      have hcv := conv_own hown
      go_wp2
      go_ret
      exact ⟨rfl, hB⟩

theorem noSep_take {l : List UInt8} {i : Nat} {c : UInt8} (h : l[i]? = some c) : noSep (l.take (i + 1)) = noSep (l.take i) ++ if sepB c then [] else [c] := by
  rw [take_snoc' h, noSep_append]
  cases hc : sepB c <;> simp [noSep, hc]
theorem noSep_len (l : List UInt8) : (noSep l).length ≤ l.length := List.length_filter_le _ _
set_option maxRecDepth 100000 in
set_option maxHeartbeats 4000000 in
theorem plain_any (s : ByteArray) (w : World) (hz : s.size ≤ 1099511627776) :
    Calls Tryd.prog 31 #[.string s] w fun e W' => e = .returned (.string ⟨(noSep (bt s)).toArray⟩) ∧ Below w.heap.size w W' := by
  obtain ⟨j0, gj, gz0, gz1, gz2⟩ := info_parts info5
  go_enter Tryd.func31, Tryd.ntmps31
  go_wp2
  go_loopw [3, 4] (fun vb vi wr => ∃ (i : Nat), vi = .int .i64 i ∧ i ≤ s.size ∧ wr.ownsRow w.heap.size 5 1 vb (noSep ((bt s).take i)).length (Lib.byteCells (noSep ((bt s).take i))) ∧ Below w.heap.size w wr) (fun _ vi _ => s.size - (intOf vi).toNat)
  case atStart => exact ⟨0, rfl, by omega, World.ownsRow_nil _ _ _ _, Below.refl _ _⟩
  case round =>
    obtain ⟨i, rfl, hi, hown, hB⟩ := hrel
    have hzz := hB.size
    by_cases hlt : i < s.size
    · have hg : (bt s)[i]? = some (s[i]'hlt) := by simp [bt, hlt]; rfl
      have hT := noSep_take hg
      have hl := noSep_len ((bt s).take i)
      have hl2 : ((bt s).take i).length = i := by rw [List.length_take, bt_len]; omega
      have hii : (i : Int) < (s.size : Int) := by omega
      rw [hl2] at hl
      clear hl2 hg
      have hc := lt256 (s[i]'hlt)
      generalize noSep ((bt s).take i) = line at *
      by_cases e : s[i]'hlt = 32
      · have q : ((s[i]'hlt).toNat : Int) = 32 := by rw [e]; rfl
        have HS : Hid (noSep ((bt s).take (i + 1)) = line) := Lib.hid (by rw [hT, e]; simp [show sepB 32 = true by decide])
        clear hT e
        go_wp2
        exact ⟨⟨i + 1, by go_num, by omega, by rw [HS.out]; exact hown, hB⟩, by simp [intOf]; omega⟩
      by_cases e2 : s[i]'hlt = 10
      · have q : ((s[i]'hlt).toNat : Int) = 10 := by rw [e2]; rfl
        have HS : Hid (noSep ((bt s).take (i + 1)) = line) := Lib.hid (by rw [hT, e2]; simp [show sepB 10 = true by decide])
        clear hT e e2
        go_wp2
        exact ⟨⟨i + 1, by go_num, by omega, by rw [HS.out]; exact hown, hB⟩, by simp [intOf]; omega⟩
      · have q1 : (((s[i]'hlt).toNat : Int) != 32) = true := by
          have : (s[i]'hlt).toNat ≠ 32 := fun h => e (UInt8.toNat.inj h)
          simp; omega
        have q2 : (((s[i]'hlt).toNat : Int) != 10) = true := by
          have : (s[i]'hlt).toNat ≠ 10 := fun h => e2 (UInt8.toNat.inj h)
          simp; omega
        have hs : sepB (s[i]'hlt) = false := by simp [sepB, e, e2]
        have HS : Hid (noSep ((bt s).take (i + 1)) = line ++ [s[i]'hlt]) := Lib.hid (by rw [hT, hs]; simp)
        clear hT e e2 hs
        go_wp2_with (at_builtin; refine wpList_append_own _ rfl _ _ 55 rfl w.heap.size 5 j0 (.int .u8 0) 1 1 Tryd.underlying55 gj gz0 gz1 gz2 rfl (by decide) _ _ _ rfl (hown.alloc _) ⟨wr.heap.size, 0, none⟩ 1 1 [.int .u8 ((s[i]'hlt).toNat : Int)] rfl rfl (cell_one_new _ _ _) (by simp [Value.oneCell']) (by unfold maxLen; omega) (by omega) (by simp; omega) ?_; intro v3 w3 hlin3 hgrow3 _)
        exact ⟨⟨i + 1, by go_num, by omega, by rw [HS.out]; exact own_one rfl hlin3, Below.grown (hB.alloc (by omega) _) hgrow3 (by simp; omega) (fun j hj => (row_block hown j hj).1)⟩, by simp [intOf]; omega⟩
    · obtain rfl : i = s.size := by omega
      have e : (bt s).take s.size = bt s := List.take_of_length_le (by rw [bt_len]; exact Nat.le_refl _)
      rw [e] at hown
      have hcv := conv_own hown
      go_wp2
      go_ret
      exact ⟨rfl, hB⟩
end Go.Proofs.YtdfhpblceoaofaaDoor
