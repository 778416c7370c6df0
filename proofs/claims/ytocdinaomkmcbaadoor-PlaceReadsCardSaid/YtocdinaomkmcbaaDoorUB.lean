/-
  The document's Unfold.
-/
import Derived.Test.YtocdinaomkmcbaaDoorUA
namespace Go.Proofs.YtocdinaomkmcbaaDoor
open Go.ChangeShapes Go.WideShapes Go.ChangeAt Go.RowKit Go.Shelf
set_option linter.unusedVariables false

def mayR (r : Rn) : Bool := r.1.all may
theorem rep_mem {l : List Pl} {p : Pl} : ∀ k, p ∈ rep l k → p ∈ l
  | 0, h => by simp [rep] at h
  | k + 1, h => by
    rw [rep] at h
    rcases List.mem_append.1 h with h | h
    · exact rep_mem k h
    · exact h
theorem exp_bad {rs : List Rn} (ho : rs.all okR = true) (hb : rs.all mayR = false) : chk (exp rs) ≠ 0 := by
  intro hc
  have hm := (chk_ok.1 hc).1
  rw [List.all_eq_false] at hb
  obtain ⟨r, hr, hrm⟩ := hb
  apply hrm
  unfold mayR
  rw [List.all_eq_true]
  intro p hp
  refine hm p ?_
  have hok := List.all_eq_true.1 ho r hr
  unfold okR at hok
  simp only [Bool.and_eq_true, decide_eq_true_eq] at hok
  obtain ⟨a, b, rfl⟩ := List.append_of_mem hr
  rw [exp_app]
  refine List.mem_append_right _ ?_
  rw [exp]
  refine List.mem_append_left _ ?_
  obtain ⟨c, hc'⟩ : ∃ c, r.2.toNat = c + 1 := ⟨r.2.toNat - 1, by omega⟩
  rw [hc', rep]
  exact List.mem_append_right _ hp
theorem exp_fine {rs : List Rn} (hb : rs.all mayR = true) (hl : (exp rs).length ≤ 64) : chk (exp rs) = 0 := by
  refine chk_ok.2 ⟨?_, hl⟩
  clear hl
  induction rs with
  | nil => intro p hp; simp [exp] at hp
  | cons r rs ih =>
    intro p hp
    simp only [List.all_cons, Bool.and_eq_true] at hb
    rw [exp] at hp
    rcases List.mem_append.1 hp with h | h
    · exact List.all_eq_true.1 hb.1 p (rep_mem _ h)
    · exact ih hb.2 p h
theorem rep_le {l : List Pl} {j c : Nat} (h : j ≤ c) : (rep l j).length ≤ (rep l c).length := by rw [rep_len, rep_len]; exact Nat.mul_le_mul_right _ h
/-- What is in hand against what it ought to be. -/
def InH (out X : List Pl) : Prop := out.length ≤ 5864062014698 ∧ (out.length ≤ 64 → out = X) ∧ (64 < out.length → 64 < X.length)

set_option maxRecDepth 100000 in
set_option maxHeartbeats 8000000 in
theorem runfold_any (A : Option Addr) (cap : Nat) (rs : List Rn) (w : World) (hA : AtR w A rs) (hn : rs.length ≤ 4398046511104) (hm : ∀ r ∈ rs, r.1.length ≤ 5864062014634) :
    Calls Tryd.prog 30 #[.slice A rs.length cap] w fun e w' => ∃ v, e = .returned (.tuple #[v, .int .i64 (unf rs).2]) ∧ w'.ownsRow w.heap.size 102 2 v (unf rs).1.length (flat (unf rs).1) ∧ Below w.heap.size w w' := by
  obtain ⟨i0, hi0, hz0, hz1, hz2⟩ := info_parts info102
  obtain ⟨U, hu⟩ : ∃ U, unf rs = U := ⟨_, rfl⟩
  rw [hu]
  have HU := Lib.hid hu
  clear hu
  go_enter Tryd.func30, Tryd.ntmps30
  go_wp2_with fail
  go_loop [6] (fun t => ∃ k : Nat, t = .int .i64 k ∧ k ≤ rs.length ∧ Hid ((rs.take k).all okR = true)) (fun t => rs.length - (intOf t).toNat)
  case atStart => exact ⟨0, rfl, by omega, Lib.hid rfl⟩
  case round =>
    obtain ⟨k, rfl, hk, HK⟩ := hrel
    by_cases hlt : k < rs.length
    · obtain ⟨r, hr⟩ : ∃ r, rs[k]? = some r := ⟨_, List.getElem?_eq_getElem hlt⟩
      have hk0 : (0 : Int) ≤ (k : Int) := Int.natCast_nonneg _
      have hk1 : (k : Int) < (rs.length : Int) := by omega
      obtain ⟨g, o, Ai, ci, rfl, c0, c1, ha⟩ := hA k r hr
      have HM : Hid (okR r = false → U = ([], 1)) := Lib.hid (fun h => by
        rw [← HU.out]; unfold unf
        rw [if_neg]
        rw [Bool.not_eq_true, List.all_eq_false]
        exact ⟨r, List.mem_of_getElem? hr, by simp [h]⟩)
      have HK' : Hid (okR r = true → (rs.take (k + 1)).all okR = true) := Lib.hid (fun h => by rw [takeR_snoc hr, List.all_append, HK.out]; simp [h])
      by_cases h1 : r.2 < 1
      · have HF := Lib.hid (HM.out (by unfold okR; rw [decide_eq_false (by omega)]; rfl))
        clear hr
        go_wp2_with fail
        go_ret2
        exact ⟨_, by rw [HF.out]; rfl, by rw [HF.out]; exact World.ownsRow_nil _ _ _ _, Below.refl _ _⟩
      · by_cases h2 : r.1.length < 1
        · have HF := Lib.hid (HM.out (by unfold okR; rw [decide_eq_false (show ¬ 1 ≤ r.1.length by omega)]; simp))
          have h2' : (r.1.length : Int) < 1 := by omega
          clear hr
          go_wp2_with fail
          go_ret2
          exact ⟨_, by rw [HF.out]; rfl, by rw [HF.out]; exact World.ownsRow_nil _ _ _ _, Below.refl _ _⟩
        · have HF := Lib.hid (HK'.out (by unfold okR; rw [decide_eq_true (show 1 ≤ r.2 by omega), decide_eq_true (show 1 ≤ r.1.length by omega)]; rfl))
          have h2' : ¬ (r.1.length : Int) < 1 := by omega
          clear hr
          go_wp2_with fail
          go_round
          case rel => exact ⟨k + 1, by go_num, by omega, HF⟩
          case measure => simp [intOf]; omega
    · have HR : Hid (rs.all okR = true) := Lib.hid (by have := HK.out; rwa [List.take_of_length_le (by omega)] at this)
      have hlt' : ¬ (k : Int) < (rs.length : Int) := by omega
      clear HK
      go_wp2_with fail
      go_loopw [4, 5, 7, 8] (fun mv bv v t wr => ∃ (k : Nat) (out : List Pl), t = .int .i64 k ∧ k ≤ rs.length ∧ bv = .bool (!((rs.take k).all mayR)) ∧ mv = .int .i64 out.length ∧ wr.ownsRow w.heap.size 102 2 v out.length (flat out) ∧ Below w.heap.size w wr ∧ InH out (exp (rs.take k))) (fun _ _ _ t _ => rs.length - (intOf t).toNat)
      case atStart => exact ⟨0, [], rfl, by omega, rfl, rfl, World.ownsRow_nil _ _ _ _, Below.refl _ _, by simp, fun _ => rfl, fun h => by simp at h⟩
      case round =>
        obtain ⟨k, out, rfl, hk, rfl, rfl, ho, hb, hin⟩ := hrel
        have hz := hb.size
        have hk0 : (0 : Int) ≤ (k : Int) := Int.natCast_nonneg _
        by_cases hlt : k < rs.length
        · obtain ⟨r, hr⟩ : ∃ r, rs[k]? = some r := ⟨_, List.getElem?_eq_getElem hlt⟩
          have hk1 : (k : Int) < (rs.length : Int) := by omega
          obtain ⟨g, o, Ai, ci, e', c0w, c1w, haw⟩ := hA k r hr
          subst e'
          have hok : 1 ≤ r.2 ∧ 1 ≤ r.1.length := by
            have := List.all_eq_true.1 HR.out r (List.mem_of_getElem? hr)
            unfold okR at this
            simpa using this
          have hmr := hm r (List.mem_of_getElem? hr)
          have HE := Lib.hid (show exp (rs.take (k + 1)) = exp (rs.take k) ++ rep r.1 r.2.toNat by rw [takeR_snoc hr, exp_snoc])
          have HB := Lib.hid (show (rs.take (k + 1)).all mayR = ((rs.take k).all mayR && mayR r) by rw [takeR_snoc hr, List.all_append]; simp)
          clear hr
          obtain ⟨rl, rt⟩ := r
          obtain ⟨c, hc⟩ : ∃ c : Nat, rt = (c : Int) := ⟨rt.toNat, by have := hok.1; simp only at this; omega⟩
          subst hc
          simp only [Int.toNat_natCast] at HE c0w c1w haw hok hmr
          generalize hacc : exp (rs.take k) = X at *
          generalize hbb : (rs.take k).all mayR = b0 at *
          clear hacc hbb
          go_wp2_with fail
          generalize hV : wr = V at *
          clear hV
          go_loopw [5, 9] (fun bv t wr => ∃ j : Nat, t = .int .i64 j ∧ j ≤ rl.length ∧ bv = .bool (!(b0 && (rl.take j).all may)) ∧ Below V.heap.size V wr) (fun _ t _ => rl.length - (intOf t).toNat)
          case atStart => exact ⟨0, rfl, by omega, by simp, Below.refl _ _⟩
          case round =>
            obtain ⟨j, rfl, hj, rfl, hbV⟩ := hrel
            have hbw : Below w.heap.size w wr := hb.trans (hbV.mono hz)
            have hj0 : (0 : Int) ≤ (j : Int) := Int.natCast_nonneg _
            have c0 := cell_below c0w hbw (Nat.le_refl _)
            have c1 := cell_below c1w hbw (Nat.le_refl _)
            by_cases hjl : j < rl.length
            · have hj1 : (j : Int) < (rl.length : Int) := by omega
              obtain ⟨p, hp⟩ : ∃ p, rl[j]? = some p := ⟨_, List.getElem?_eq_getElem hjl⟩
              obtain ⟨ga, oa, e', d0, d1⟩ := (haw.below hbw (Nat.le_refl _)) j p hp
              subst e'
              have HN := Lib.hid (show (b0 && (rl.take (j + 1)).all may) = ((b0 && (rl.take j).all may) && may p) by rw [take_snoc' rl j p hp, List.all_append]; simp [Bool.and_assoc])
              have H51 := Lib.hid (rmay_any p wr)
              generalize (b0 && (rl.take j).all may) = bj at *
              generalize hmp : may p = mp at *
              clear hp hmp
              cases bj
              · go_wp2_with fail
                go_roundw
                case rel => exact ⟨j + 1, by go_num, by omega, by rw [HN.out]; rfl, hbV⟩
                case measure => simp [intOf]; omega
              · go_wp2_with fail
                refine H51.out.mono ?_
                rintro e W2 ⟨rfl, b2⟩
                go_wp2_with fail
                go_roundw
                case rel => exact ⟨j + 1, by go_num, by omega, by rw [HN.out]; simp, hbV.trans (b2.mono hbV.size)⟩
                case measure => simp [intOf]; omega
            · have hjl' : ¬ (j : Int) < (rl.length : Int) := by omega
              have HB2 : Hid ((rs.take (k + 1)).all mayR = (b0 && (rl.take j).all may)) := Lib.hid (by rw [HB.out, List.take_of_length_le (by omega)]; rfl)
              have ho4 := own_below ho hbV
              generalize (b0 && (rl.take j).all may) = bj at *
              go_wp2_with fail
              go_loopw [4, 7, 10] (fun mv v t wr => ∃ (j : Nat) (out : List Pl), t = .int .i64 j ∧ j ≤ c ∧ mv = .int .i64 out.length ∧ wr.ownsRow w.heap.size 102 2 v out.length (flat out) ∧ Below w.heap.size w wr ∧ InH out (X ++ rep rl j)) (fun _ _ t _ => c - (intOf t).toNat)
              case atStart => exact ⟨0, out, rfl, by omega, rfl, ho4, hbw, by rw [rep, List.append_nil]; exact hin⟩
              case round =>
                obtain ⟨j, out, rfl, hj, rfl, ho, hbw, hin⟩ := hrel
                have hzw := hbw.size
                have hj0 : (0 : Int) ≤ (j : Int) := Int.natCast_nonneg _
                have c0 := cell_below c0w hbw (Nat.le_refl _)
                have c1 := cell_below c1w hbw (Nat.le_refl _)
                obtain ⟨hin1, hin2, hin3⟩ := hin
                by_cases hjc : j < c
                · have hjc' : (j : Int) < (c : Int) := by omega
                  by_cases h64 : out.length ≤ 64
                  · have h64' : (out.length : Int) ≤ 64 := by omega
                    obtain ⟨ga, oa, e'⟩ := haw.some' hok.2
                    subst e'
                    have hq2 := haw.below hbw (Nat.le_refl _)
                    have HS := Lib.hid (show X ++ rep rl (j + 1) = out ++ rl by rw [rep, ← List.append_assoc, ← hin2 h64])
                    have HF := Lib.hid (show flat (out ++ rl) = flat out ++ flat rl by simp [flat])
                    have hj64 : j ≤ 64 := by
                      have e1 := congrArg List.length (hin2 h64)
                      rw [List.length_append, rep_len] at e1
                      have := Nat.le_mul_of_pos_right j hok.2
                      omega
                    clear hin2 hin3
                    obtain ⟨A6, c6, e6, _, _⟩ := own_form ho
                    subst e6
                    go_wp2_with (at_builtin; refine wpList_append_lies _ rfl _ _ 29 rfl w.heap.size 102 i0 _ 2 24 Tryd.underlying29 hi0 hz0 hz1 hz2 rfl (by omega) (.slice A6 out.length c6) out.length (flat out) rfl ho ⟨ga, oa, none⟩ rl.length ci (flat rl) rfl (flat_length rl) (flat_at hq2) flat_mem (by omega) (by unfold maxLen; omega) (by omega) hzw (wr.heap.size) rfl ?_; intro gg cap' w1 hown1 hgrow hat hlt1)
                    go_roundw
                    case rel => exact ⟨j + 1, out ++ rl, by go_num, by omega, by rw [List.length_append]; go_num, by rw [HF.out, List.length_append]; exact hown1, Below.grown hbw hgrow hzw (fun j hj => (ho.lt j hj).1), by rw [List.length_append]; omega, fun _ => HS.out.symm, fun h => by rw [HS.out]; exact h⟩
                    case measure => simp [intOf]; omega
                  · have h64' : ¬ (out.length : Int) ≤ 64 := by omega
                    have HX := Lib.hid (hin3 (by omega))
                    clear hin2 hin3
                    go_wp2_with fail
                    go_roundw
                    case rel => exact ⟨k + 1, out, by go_num, by omega, by rw [HB2.out], rfl, ho, hbw, hin1, fun h => by omega, fun _ => by rw [HE.out]; have := HX.out; have h3 := rep_le (l := rl) (Nat.le_of_lt hjc); rw [List.length_append] at this ⊢; omega⟩
                    case measure => simp [intOf]; omega
                · have hjc' : ¬ (j : Int) < (c : Int) := by omega
                  obtain rfl : j = c := by omega
                  go_wp2_with fail
                  go_roundw
                  case rel => exact ⟨k + 1, out, by go_num, by omega, by rw [HB2.out], rfl, ho, hbw, hin1, fun h => by rw [HE.out]; exact hin2 h, fun h => by rw [HE.out]; exact hin3 h⟩
                  case measure => simp [intOf]; omega
        · have hlt' : ¬ (k : Int) < (rs.length : Int) := by omega
          rw [List.take_of_length_le (by omega)] at hin
          rw [List.take_of_length_le (by omega)]
          obtain ⟨hin1, hin2, hin3⟩ := hin
          by_cases h64 : 64 < out.length
          · have h64' : (64 : Int) < (out.length : Int) := by omega
            have HF : Hid (U = ([], 31)) := Lib.hid (by
              rw [← HU.out]; unfold unf
              rw [if_pos HR.out, if_neg (by have := hin3 h64; omega)])
            clear hin2 hin3
            go_wp2_with fail
            go_ret2
            exact ⟨_, by rw [HF.out]; rfl, by rw [HF.out]; exact World.ownsRow_nil _ _ _ _, hb⟩
          · have h64' : ¬ (64 : Int) < (out.length : Int) := by omega
            obtain rfl := hin2 (by omega)
            have HF : Hid ((rs.all mayR = true → U = (exp rs, 0)) ∧ (rs.all mayR = false → U = ([], 30))) := Lib.hid ⟨fun h => by rw [← HU.out]; unfold unf; rw [if_pos HR.out, if_pos (by omega), if_pos (exp_fine h (by omega))], fun h => by rw [← HU.out]; unfold unf; rw [if_pos HR.out, if_pos (by omega), if_neg (exp_bad HR.out h)]⟩
            clear hin2 hin3
            generalize exp rs = E at *
            generalize rs.all mayR = bb at *
            cases bb
            · have hu := HF.out.2 rfl
              clear HF
              subst hu
              go_wp2_with fail
              go_ret2
              exact ⟨_, rfl, World.ownsRow_nil _ _ _ _, hb⟩
            · have hu := HF.out.1 rfl
              clear HF
              subst hu
              go_wp2_with fail
              go_ret2
              exact ⟨_, rfl, ho, hb⟩
end Go.Proofs.YtocdinaomkmcbaaDoor
