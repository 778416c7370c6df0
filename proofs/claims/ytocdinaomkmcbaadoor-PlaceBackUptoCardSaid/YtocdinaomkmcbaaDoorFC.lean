/-
  Are runs the document's?
-/
import Derived.Test.YtocdinaomkmcbaaDoorUC
import Derived.Test.YtocdinaomkmcbaaDoorFB
namespace Go.Proofs.YtocdinaomkmcbaaDoor
open Go.ChangeShapes Go.WideShapes Go.ChangeAt Go.RowKit Go.Shelf
set_option linter.unusedVariables false

set_option maxRecDepth 100000 in
set_option maxHeartbeats 4000000 in
theorem runs_any (A B : Option Addr) (ca cb : Nat) (rs : List Rn) (w : World) (hA : AtR w A rs) (hB : AtR w B rs) (hn : rs.length ≤ 4398046511104) (hm : ∀ r ∈ rs, r.1.length ≤ 5864062014634) :
    Calls Tryd.prog 28 #[.slice A rs.length ca, .slice B rs.length cb] w fun e w' => e = .returned (.bool true) ∧ Below w.heap.size w w' := by
  go_enter Tryd.func28, Tryd.ntmps28
  go_wp2_with fail
  go_loopw [5] (fun t wr => ∃ k : Nat, t = .int .i64 k ∧ k ≤ rs.length ∧ Below w.heap.size w wr) (fun t _ => rs.length - (intOf t).toNat)
  case atStart => exact ⟨0, rfl, by omega, Below.refl _ _⟩
  case round =>
    obtain ⟨k, rfl, hk, hb⟩ := hrel
    have hk0 : (0 : Int) ≤ (k : Int) := Int.natCast_nonneg _
    by_cases hlt : k < rs.length
    · obtain ⟨r, hr⟩ : ∃ r, rs[k]? = some r := ⟨_, List.getElem?_eq_getElem hlt⟩
      have hk1 : (k : Int) < (rs.length : Int) := by omega
      obtain ⟨g, o, Ai, ci, rfl, c0w, c1w, ha⟩ := hA k r hr
      obtain ⟨g', o', Bi, di, rfl, d0w, d1w, hb'⟩ := hB k r hr
      have hmr := hm r (List.mem_of_getElem? hr)
      have c0 := cell_below c0w hb (Nat.le_refl _)
      have c1 := cell_below c1w hb (Nat.le_refl _)
      have d0 := cell_below d0w hb (Nat.le_refl _)
      have d1 := cell_below d1w hb (Nat.le_refl _)
      have hd := hb.drew
      have H21 : Hid (∀ V : World, (V.cell? ⟨g, o + k * 2, none⟩ = some (.slice Ai r.1.length ci) ∧ V.cell? ⟨g, o + k * 2 + 1, none⟩ = some (.int .i64 r.2) ∧ V.cell? ⟨g', o' + k * 2, none⟩ = some (.slice Bi r.1.length di) ∧ V.cell? ⟨g', o' + k * 2 + 1, none⟩ = some (.int .i64 r.2) ∧ Below w.heap.size w V) →
          Calls Tryd.prog 21 #[.slice Ai r.1.length ci, .slice Bi r.1.length di] V fun e w' => e = .returned (.bool true) ∧ w'.cell? ⟨g, o + k * 2, none⟩ = some (.slice Ai r.1.length ci) ∧ w'.cell? ⟨g, o + k * 2 + 1, none⟩ = some (.int .i64 r.2) ∧ w'.cell? ⟨g', o' + k * 2, none⟩ = some (.slice Bi r.1.length di) ∧ w'.cell? ⟨g', o' + k * 2 + 1, none⟩ = some (.int .i64 r.2) ∧ Below w.heap.size w w') :=
        Lib.hid (fun V ⟨k0, k1, k2, k3, k4⟩ => (same_any Ai Bi ci di r.1 V (ha.below k4 (Nat.le_refl _)) (hb'.below k4 (Nat.le_refl _)) hmr).mono fun e w' ⟨he, m, hw⟩ => by
          subst hw
          exact ⟨he, k0, k1, k2, k3, k4.trans ((below_drewN V.heap.size V m (Nat.le_refl _)).mono k4.size)⟩)
      clear hr ha hb' c0w c1w d0w d1w
      go_wp2_with fail
      go_region_held3 (fun V => V.cell? ⟨g, o + k * 2, none⟩ = some (.slice Ai r.1.length ci) ∧ V.cell? ⟨g, o + k * 2 + 1, none⟩ = some (.int .i64 r.2) ∧ V.cell? ⟨g', o' + k * 2, none⟩ = some (.slice Bi r.1.length di) ∧ V.cell? ⟨g', o' + k * 2 + 1, none⟩ = some (.int .i64 r.2) ∧ Below w.heap.size w V)
        (first | ((refine ⟨?_, ?_, ?_, ?_, ?_⟩) <;> assumption) | (go_split_ands; (refine ⟨?_, ?_, ?_, ?_, ?_⟩) <;> assumption) | go_keep)
        ((go_at_call 21; (with_reducible refine (H21.out _ ?_).mono ?_); (· (first | assumption | (go_split_ands; (refine ⟨?_, ?_, ?_, ?_, ?_⟩) <;> assumption))); rintro e w6 ⟨rfl, k0, k1, k2, k3, k4⟩))
      go_wp2_with fail
      go_roundw
      case rel => exact ⟨k + 1, by go_num, by omega, k4⟩
      case measure => simp [intOf]; omega
    · have hk1 : ¬ (k : Int) < (rs.length : Int) := by omega
      go_wp2_with fail
      go_ret
      exact ⟨by simp, hb⟩
end Go.Proofs.YtocdinaomkmcbaaDoor
