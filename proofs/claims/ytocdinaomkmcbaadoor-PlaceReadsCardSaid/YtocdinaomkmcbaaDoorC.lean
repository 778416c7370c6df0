/-
  Places in memory; own and ref.
-/
import Derived.Test.YtocdinaomkmcbaaDoorA
import Derived.Deep.RegionHeld3
import Derived.KernelRfl
import Derived.Laws.Pointers
import Derived.StillTactics
import Derived.OwnWalk
namespace Go.Proofs.YtocdinaomkmcbaaDoor
open Go.ChangeShapes Go.WideShapes Go.ChangeAt Go.RowKit
set_option linter.unusedVariables false

def cel (p : Pl) : List Value := [.string p.1, .int .i64 p.2]
def flat (l : List Pl) : List Value := l.flatMap cel
theorem flat_snoc (l : List Pl) (p : Pl) : flat (l ++ [p]) = flat l ++ cel p := by simp [flat]
theorem flat_length (l : List Pl) : (flat l).length = l.length * 2 := by
  induction l with
  | nil => rfl
  | cons p l ih => simp only [flat, List.flatMap_cons, List.length_append, List.length_cons] at ih ⊢; rw [ih]; simp [cel]; omega
theorem flat_get : ∀ (l : List Pl) (i : Nat) (p : Pl), l[i]? = some p → (flat l)[i * 2]? = some (.string p.1) ∧ (flat l)[i * 2 + 1]? = some (.int .i64 p.2) := by
  intro l
  induction l with
  | nil => intro i p h; simp at h
  | cons q l ih =>
    intro i p h
    cases i with
    | zero =>
      simp at h
      subst h
      exact ⟨rfl, rfl⟩
    | succ i =>
      have := ih i p (by simpa using h)
      simp only [flat, List.flatMap_cons, cel] at this ⊢
      rw [show (i + 1) * 2 = i * 2 + 1 + 1 by omega]
      simpa using this
theorem take_snoc' (l : List Pl) (k : Nat) (p : Pl) (h : l[k]? = some p) : l.take (k + 1) = l.take k ++ [p] := by
  rw [List.take_add_one, h]; rfl

/-- The cells of places behind an address. -/
def At (w : World) (A : Option Addr) (l : List Pl) : Prop :=
  ∀ i p, l[i]? = some p → ∃ g o, A = some ⟨g, o, none⟩ ∧ w.cell? ⟨g, o + i * 2, none⟩ = some (.string p.1) ∧ w.cell? ⟨g, o + i * 2 + 1, none⟩ = some (.int .i64 p.2)
theorem At.keep {w w' : World} {A : Option Addr} {l : List Pl} (h : At w A l) (hk : ∀ a, A = some a → ∀ o, w'.cell? ⟨a.block, o, none⟩ = w.cell? ⟨a.block, o, none⟩) : At w' A l := fun i p hp => by
  obtain ⟨g, o, rfl, c0, c1⟩ := h i p hp
  exact ⟨g, o, rfl, (hk _ rfl _).trans c0, (hk _ rfl _).trans c1⟩
theorem At.below {w w' : World} {A : Option Addr} {l : List Pl} {B : Nat} (h : At w A l) (hb : Below B w w') (hB : w.heap.size ≤ B) : At w' A l := fun i p hp => by
  obtain ⟨g, o, rfl, c0, c1⟩ := h i p hp
  have lg := World.block_lt_of_cell? w _ c0
  exact ⟨g, o, rfl, (hb.cell (p := ⟨g, _, none⟩) (by simp at lg ⊢; omega)).trans c0, (hb.cell (p := ⟨g, _, none⟩) (by simp at lg ⊢; omega)).trans c1⟩
theorem At.alloc {w : World} {A : Option Addr} {l : List Pl} (h : At w A l) (o : Obj) : At (w.alloc o) A l := h.below ((Below.refl _ w).alloc (Nat.le_refl _) o) (Nat.le_refl _)
theorem At.drew {w : World} {A : Option Addr} {l : List Pl} (h : At w A l) : At w.drew A l := h
theorem At.take {w : World} {A : Option Addr} {l : List Pl} (h : At w A l) (n : Nat) : At w A (l.take n) := fun i p hp => h i p (by
  rw [List.getElem?_take] at hp
  split at hp
  · exact hp
  · cases hp)
theorem at_own {w : World} {base g cap n : Nat} {e : TypeId} {l : List Pl} {xs : List Value} (h : w.ownsRow base e 2 (.slice (some ⟨g, 0, none⟩) n cap) n xs) (hx : ∀ (j : Nat) (u : Value), (flat l)[j]? = some u → xs[j]? = some u) (hn : l.length ≤ n) : At w (some ⟨g, 0, none⟩) l := fun i p hp => by
  have hi : i < l.length := (List.getElem?_eq_some_iff.1 hp).1
  obtain ⟨f0, f1⟩ := flat_get l i p hp
  exact ⟨g, 0, rfl, by rw [show 0 + i * 2 = i * 2 by omega, h.cellAt _ (by omega)]; exact hx _ _ f0, by rw [show 0 + i * 2 + 1 = i * 2 + 1 by omega, h.cellAt _ (by omega)]; exact hx _ _ f1⟩
theorem own_below {w w' : World} {B e size n : Nat} {v : Value} {xs : List Value} (h : w.ownsRow B e size v n xs) (hb : Below w.heap.size w w') : w'.ownsRow B e size v n xs := by
  refine h.kept (row := none) ⟨hb.os, hb.tape, hb.output, hb.size, fun j hj _ => hb.block j hj⟩ ?_
  cases v.ownBlock <;> simp
/-- The form of a row of the call's own. -/
theorem own_form {w : World} {base : Nat} {e : TypeId} {v : Value} {l : List Pl} (h : w.ownsRow base e 2 v l.length (flat l)) : ∃ A cap, v = .slice A l.length cap ∧ At w A l ∧ (∀ a, A = some a → base ≤ a.block ∧ a.block < w.heap.size) := by
  rcases Nat.eq_zero_or_pos l.length with h0 | h0
  · obtain rfl : l = [] := List.eq_nil_of_length_eq_zero h0
    rcases h.2 with ⟨rfl, _⟩ | ⟨g, cap, cur, rfl, hb, hg, _⟩
    · exact ⟨none, 0, rfl, fun i p hp => by simp at hp, fun a ha => by cases ha⟩
    · exact ⟨_, cap, rfl, fun i p hp => by simp at hp, fun a ha => by cases ha; exact ⟨hb, (Array.getElem?_eq_some_iff.1 hg).1⟩⟩
  · obtain ⟨g, cap, rfl, hb, hlt⟩ := h.form h0
    exact ⟨_, cap, rfl, at_own h (fun _ _ h => h) (Nat.le_refl _), fun a ha => by cases ha; exact ⟨hb, hlt⟩⟩

theorem info48 : (Tryd.prog.info? 48).map (fun i => (i.zero, i.size, i.bytes)) = some (some (.agg #[.string ByteArray.empty, .int .i64 0]), 2, 24) := by kernel_rfl
theorem info102 : (Tryd.prog.info? 102).map (fun i => (i.zero, i.size, i.bytes)) = some (some (.agg #[.string ByteArray.empty, .int .i64 0]), 2, 24) := by kernel_rfl

set_option maxRecDepth 100000 in
set_option maxHeartbeats 3200000 in
theorem own_any (A : Option Addr) (cap : Nat) (l : List Pl) (w : World) (hA : At w A l) (hn : l.length ≤ 5864062014634) :
    Calls Tryd.prog 44 #[.slice A l.length cap] w fun e w' => ∃ v, e = .returned v ∧ w'.ownsRow w.heap.size 48 2 v l.length (flat l) ∧ Below w.heap.size w w' := by
  obtain ⟨i0, hi0, hz0, hz1, hz2⟩ := info_parts info48
  have HL := Lib.hid (rfl : l.length = l.length)
  generalize hlen : l.length = n at *
  have HN := Lib.hid hlen
  clear hlen HL
  go_enter Tryd.func44, Tryd.ntmps44
  go_wp2
  go_loopw [3, 4] (fun v t wr => ∃ k : Nat, t = .int .i64 k ∧ k ≤ n ∧ wr.ownsRow w.heap.size 48 2 v k (flat (l.take k)) ∧ Below w.heap.size w wr) (fun _ t _ => n - (intOf t).toNat)
  case atStart => exact ⟨0, rfl, by omega, World.ownsRow_nil _ _ _ _, Below.refl _ _⟩
  case round =>
    obtain ⟨k, rfl, hk, hown, hB⟩ := hrel
    by_cases hlt : k < n
    · have hp : ∃ p, l[k]? = some p := ⟨_, List.getElem?_eq_getElem (by rw [HN.out]; exact hlt)⟩
      obtain ⟨p, hp⟩ := hp
      have hA' := hA
      obtain ⟨g, o, rfl, c0, c1⟩ := hA' k p hp
      have lg := World.block_lt_of_cell? w _ c0
      have d0 := (hB.cell (p := ⟨g, o + k * 2, none⟩) lg).trans c0
      have d1 := (hB.cell (p := ⟨g, o + k * 2 + 1, none⟩) lg).trans c1
      have hz := hB.size
      have ag : u3.ownBlock ≠ some g := fun h => by have := (hown.lt g h).1; simp at lg; omega
      have HS := Lib.hid (take_snoc' l k p hp)
      have hk0 : (0 : Int) ≤ (k : Int) := Int.natCast_nonneg _
      have hk1 : (k : Int) < (n : Int) := by omega
      clear hp c0 c1 hA hA'
      go_wp2_with fail
      go_region_held3 (fun w' => w'.cell? ⟨g, o + k * 2, none⟩ = some (.string p.1) ∧ w'.cell? ⟨g, o + k * 2 + 1, none⟩ = some (.int .i64 p.2))
        (first
          | go_keep
          | (go_split_ands
             refine ⟨?_, ?_⟩
             · (rw [hgrow.cell_far _ (by simp; omega) (Ne.symm ag)]; assumption)
             · (rw [hgrow.cell_far _ (by simp; omega) (Ne.symm ag)]; assumption)))
        ((refine step_append_lies _ (by rfl) _ _ _ (by rfl) w.heap.size 48 i0 _ 2 24 Tryd.underlying23 hi0 hz0 hz1 hz2 rfl (by omega) u3 k (flat (l.take k)) (by rfl) ((hown.alloc _).drew)
            ⟨wr.heap.size, 0, none⟩ 1 1 (cel p) (by rfl) (by rfl) (World.news_of_block (cs := #[.string p.1, .int .i64 p.2]) (t := 48) (fr := (0, 0)) (heap_alloc_new wr _)) (by simp [cel, Value.oneCell'])
            (by omega) (by unfold maxLen; omega) (by omega) (by simp; omega) (wr.heap.size + 1) (by simp) ?_; intro gg cap' w1 hown1 hgrow hat hlt1))
      go_wp2
      go_roundw
      case rel => exact ⟨k + 1, by go_num, by omega, by rw [HS.out, flat_snoc]; exact hown1, Below.grown (((hB.alloc hz _)).drew) hgrow (by simp; omega) (fun j hj => (hown.lt j hj).1)⟩
      case measure => simp [intOf]; omega
    · have hkn : k = n := by omega
      subst hkn
      have HE := Lib.hid (show l.take k = l by rw [← HN.out]; exact List.take_length)
      go_wp2
      go_ret
      exact ⟨u3, rfl, by rw [HE.out] at hown; exact hown, hB⟩
set_option maxRecDepth 100000 in
set_option maxHeartbeats 3200000 in
theorem ref_any (A : Option Addr) (cap : Nat) (l : List Pl) (w : World) (hA : At w A l) (hn : l.length ≤ 5864062014634) :
    Calls Tryd.prog 13 #[.slice A l.length cap] w fun e w' => ∃ v, e = .returned v ∧ w'.ownsRow w.heap.size 102 2 v l.length (flat l) ∧ Below w.heap.size w w' := by
  obtain ⟨i0, hi0, hz0, hz1, hz2⟩ := info_parts info102
  have HL := Lib.hid (rfl : l.length = l.length)
  generalize hlen : l.length = n at *
  have HN := Lib.hid hlen
  clear hlen HL
  go_enter Tryd.func13, Tryd.ntmps13
  go_wp2
  go_loopw [3, 4] (fun v t wr => ∃ k : Nat, t = .int .i64 k ∧ k ≤ n ∧ wr.ownsRow w.heap.size 102 2 v k (flat (l.take k)) ∧ Below w.heap.size w wr) (fun _ t _ => n - (intOf t).toNat)
  case atStart => exact ⟨0, rfl, by omega, World.ownsRow_nil _ _ _ _, Below.refl _ _⟩
  case round =>
    obtain ⟨k, rfl, hk, hown, hB⟩ := hrel
    by_cases hlt : k < n
    · have hp : ∃ p, l[k]? = some p := ⟨_, List.getElem?_eq_getElem (by rw [HN.out]; exact hlt)⟩
      obtain ⟨p, hp⟩ := hp
      have hA' := hA
      obtain ⟨g, o, rfl, c0, c1⟩ := hA' k p hp
      have lg := World.block_lt_of_cell? w _ c0
      have d0 := (hB.cell (p := ⟨g, o + k * 2, none⟩) lg).trans c0
      have d1 := (hB.cell (p := ⟨g, o + k * 2 + 1, none⟩) lg).trans c1
      have hz := hB.size
      have ag : u3.ownBlock ≠ some g := fun h => by have := (hown.lt g h).1; simp at lg; omega
      have HS := Lib.hid (take_snoc' l k p hp)
      have hk0 : (0 : Int) ≤ (k : Int) := Int.natCast_nonneg _
      have hk1 : (k : Int) < (n : Int) := by omega
      clear hp c0 c1 hA hA'
      go_wp2_with fail
      go_region_held3 (fun w' => w'.cell? ⟨g, o + k * 2, none⟩ = some (.string p.1) ∧ w'.cell? ⟨g, o + k * 2 + 1, none⟩ = some (.int .i64 p.2))
        (first
          | go_keep
          | (go_split_ands
             refine ⟨?_, ?_⟩
             · (rw [hgrow.cell_far _ (by simp; omega) (Ne.symm ag)]; assumption)
             · (rw [hgrow.cell_far _ (by simp; omega) (Ne.symm ag)]; assumption)))
        ((refine step_append_lies _ (by rfl) _ _ _ (by rfl) w.heap.size 102 i0 _ 2 24 Tryd.underlying29 hi0 hz0 hz1 hz2 rfl (by omega) u3 k (flat (l.take k)) (by rfl) ((hown.alloc _).drew)
            ⟨wr.heap.size, 0, none⟩ 1 1 (cel p) (by rfl) (by rfl) (World.news_of_block (cs := #[.string p.1, .int .i64 p.2]) (t := 102) (fr := (0, 0)) (heap_alloc_new wr _)) (by simp [cel, Value.oneCell'])
            (by omega) (by unfold maxLen; omega) (by omega) (by simp; omega) (wr.heap.size + 1) (by simp) ?_; intro gg cap' w1 hown1 hgrow hat hlt1))
      go_wp2
      go_roundw
      case rel => exact ⟨k + 1, by go_num, by omega, by rw [HS.out, flat_snoc]; exact hown1, Below.grown (((hB.alloc hz _)).drew) hgrow (by simp; omega) (fun j hj => (hown.lt j hj).1)⟩
      case measure => simp [intOf]; omega
    · have hkn : k = n := by omega
      subst hkn
      have HE := Lib.hid (show l.take k = l by rw [← HN.out]; exact List.take_length)
      go_wp2
      go_ret
      exact ⟨u3, rfl, by rw [HE.out] at hown; exact hown, hB⟩
end Go.Proofs.YtocdinaomkmcbaaDoor
