/-
  Runs in memory; the program's Unfold.
-/
import Derived.Test.YtocdinaomkmcbaaDoorX
namespace Go.Proofs.YtocdinaomkmcbaaDoor
open Go.ChangeShapes Go.WideShapes Go.ChangeAt Go.RowKit Go.Shelf
set_option linter.unusedVariables false

abbrev Rn := List Pl × Int
def okR (r : Rn) : Bool := decide (1 ≤ r.2) && decide (1 ≤ r.1.length)
def rep (l : List Pl) : Nat → List Pl
  | 0 => []
  | k + 1 => rep l k ++ l
def exp : List Rn → List Pl
  | [] => []
  | r :: rs => rep r.1 r.2.toNat ++ exp rs
theorem rep_len (l : List Pl) : ∀ k, (rep l k).length = k * l.length
  | 0 => by simp [rep]
  | k + 1 => by rw [rep, List.length_append, rep_len l k, Nat.succ_mul]
theorem exp_app (a b : List Rn) : exp (a ++ b) = exp a ++ exp b := by
  induction a with
  | nil => rfl
  | cons r a ih => simp [exp, ih]
theorem exp_snoc (a : List Rn) (r : Rn) : exp (a ++ [r]) = exp a ++ rep r.1 r.2.toNat := by rw [exp_app]; simp [exp]
/-- What Unfold answers. -/
def unf (rs : List Rn) : List Pl × Int :=
  if rs.all okR then (if (exp rs).length ≤ 64 then (if chk (exp rs) = 0 then (exp rs, 0) else ([], 30)) else ([], 31)) else ([], 1)
theorem chk_30 {l : List Pl} (h : l.length ≤ 64) (hc : chk l ≠ 0) : chk l = 30 := by
  unfold chk at *
  split
  · rename_i h1
    rw [if_pos h1, if_pos h] at hc
    exact absurd rfl hc
  · rfl
/-- The cells of runs behind an address. -/
def AtR (w : World) (A : Option Addr) (rs : List Rn) : Prop :=
  ∀ i r, rs[i]? = some r → ∃ g o Ai ci, A = some ⟨g, o, none⟩ ∧ w.cell? ⟨g, o + i * 2, none⟩ = some (.slice Ai r.1.length ci) ∧ w.cell? ⟨g, o + i * 2 + 1, none⟩ = some (.int .i64 r.2) ∧ At w Ai r.1
theorem AtR.below {w w' : World} {A : Option Addr} {rs : List Rn} {B : Nat} (h : AtR w A rs) (hb : Below B w w') (hB : w.heap.size ≤ B) : AtR w' A rs := fun i r hr => by
  obtain ⟨g, o, Ai, ci, e, c0, c1, ha⟩ := h i r hr
  exact ⟨g, o, Ai, ci, e, cell_below c0 hb hB, cell_below c1 hb hB, ha.below hb hB⟩
theorem At.some' {w : World} {A : Option Addr} {l : List Pl} (h : At w A l) (hl : 1 ≤ l.length) : ∃ g o, A = some ⟨g, o, none⟩ := by
  obtain ⟨g, o, e, _⟩ := h 0 _ (List.getElem?_eq_getElem (by omega))
  exact ⟨g, o, e⟩
theorem takeR_snoc {l : List Rn} {k : Nat} {p : Rn} (h : l[k]? = some p) : l.take (k + 1) = l.take k ++ [p] := by
  rw [List.take_add_one, h]; rfl

set_option maxRecDepth 100000 in
set_option maxHeartbeats 4000000 in
theorem unfold_any (A : Option Addr) (cap : Nat) (rs : List Rn) (w : World) (hA : AtR w A rs) (hn : rs.length ≤ 4398046511104) (hm : ∀ r ∈ rs, r.1.length ≤ 5864062014634) :
    Calls Tryd.prog 29 #[.slice A rs.length cap] w fun e w' => ∃ v, e = .returned (.tuple #[v, .int .i64 (unf rs).2]) ∧ w'.ownsRow w.heap.size 48 2 v (unf rs).1.length (flat (unf rs).1) ∧ Below w.heap.size w w' := by
  obtain ⟨i0, hi0, hz0, hz1, hz2⟩ := info_parts info48
  obtain ⟨U, hu⟩ : ∃ U, unf rs = U := ⟨_, rfl⟩
  rw [hu]
  have HU := Lib.hid hu
  clear hu
  go_enter Tryd.func29, Tryd.ntmps29
  go_wp2_with fail
  go_loopw [12] (fun t wr => ∃ k : Nat, t = .int .i64 k ∧ k ≤ rs.length ∧ Hid ((rs.take k).all okR = true) ∧ Below w.heap.size w wr) (fun t _ => rs.length - (intOf t).toNat)
  case atStart => exact ⟨0, rfl, by omega, Lib.hid rfl, Below.refl _ _⟩
  case round =>
    obtain ⟨k, rfl, hk, HK, hb⟩ := hrel
    have hz := hb.size
    by_cases hlt : k < rs.length
    · obtain ⟨r, hr⟩ : ∃ r, rs[k]? = some r := ⟨_, List.getElem?_eq_getElem hlt⟩
      have hk0 : (0 : Int) ≤ (k : Int) := Int.natCast_nonneg _
      have hk1 : (k : Int) < (rs.length : Int) := by omega
      obtain ⟨g, o, Ai, ci, rfl, c0, c1, ha⟩ := (hA.below hb (Nat.le_refl _)) k r hr
      have HM : Hid (okR r = false → U = ([], 1)) := Lib.hid (fun h => by
        rw [← HU.out]; unfold unf
        rw [if_neg]
        rw [Bool.not_eq_true, List.all_eq_false]
        exact ⟨r, List.mem_of_getElem? hr, by simp [h]⟩)
      have HK' : Hid (okR r = true → (rs.take (k + 1)).all okR = true) := Lib.hid (fun h => by rw [takeR_snoc hr, List.all_append, HK.out]; simp [h])
      by_cases h1 : r.2 < 1
      · have HF := Lib.hid (HM.out (by unfold okR; rw [decide_eq_false (by omega)]; rfl))
        clear hr
        go_wp2_with fail
        go_ret2
        exact ⟨_, by rw [HF.out]; rfl, by rw [HF.out]; exact World.ownsRow_nil _ _ _ _, hb.alloc hz _⟩
      · by_cases h2 : r.1.length = 0
        · have HF := Lib.hid (HM.out (by unfold okR; rw [decide_eq_false (show ¬ 1 ≤ r.1.length by omega)]; simp))
          clear hr
          go_wp2_with fail
          go_ret2
          exact ⟨_, by rw [HF.out]; rfl, by rw [HF.out]; exact World.ownsRow_nil _ _ _ _, hb.alloc hz _⟩
        · have HF := Lib.hid (HK'.out (by unfold okR; rw [decide_eq_true (show 1 ≤ r.2 by omega), decide_eq_true (show 1 ≤ r.1.length by omega)]; rfl))
          have h2' : ¬ (r.1.length : Int) = 0 := by omega
          clear hr
          go_wp2_with fail
          go_roundw
          case rel => exact ⟨k + 1, by go_num, by omega, HF, hb.alloc hz _⟩
          case measure => simp [intOf]; omega
    · have HR : Hid (rs.all okR = true) := Lib.hid (by have := HK.out; rwa [List.take_of_length_le (by omega)] at this)
      have hlt' : ¬ (k : Int) < (rs.length : Int) := by omega
      clear HK
      go_wp2_with fail
      go_loopw [6, 28] (fun v t wr => ∃ k : Nat, t = .int .i64 k ∧ k ≤ rs.length ∧ (exp (rs.take k)).length ≤ 64 ∧ wr.ownsRow w.heap.size 48 2 v (exp (rs.take k)).length (flat (exp (rs.take k))) ∧ Below w.heap.size w wr) (fun _ t _ => rs.length - (intOf t).toNat)
      case atStart => exact ⟨0, rfl, by omega, by simp [exp], World.ownsRow_nil _ _ _ _, hb⟩
      case round =>
        obtain ⟨k, rfl, hk, h64, ho, hb⟩ := hrel
        have hz := hb.size
        have hk0 : (0 : Int) ≤ (k : Int) := Int.natCast_nonneg _
        by_cases hlt : k < rs.length
        · obtain ⟨r, hr⟩ : ∃ r, rs[k]? = some r := ⟨_, List.getElem?_eq_getElem hlt⟩
          have hk1 : (k : Int) < (rs.length : Int) := by omega
          obtain ⟨g, o, Ai, ci, e', c0w, c1w, haw⟩ := hA k r hr
          subst e'
          have c0 := cell_below c0w hb (Nat.le_refl _)
          have c1 := cell_below c1w hb (Nat.le_refl _)
          clear c0w c1w
          have hok : 1 ≤ r.2 ∧ 1 ≤ r.1.length := by
            have := List.all_eq_true.1 HR.out r (List.mem_of_getElem? hr)
            unfold okR at this
            simpa using this
          have hmr := hm r (List.mem_of_getElem? hr)
          have HE := Lib.hid (show exp (rs.take (k + 1)) = exp (rs.take k) ++ rep r.1 r.2.toNat by rw [takeR_snoc hr, exp_snoc])
          have HL : Hid (exp rs = exp (rs.take (k + 1)) ++ exp (rs.drop (k + 1))) := Lib.hid (by rw [← exp_app, List.take_append_drop])
          clear hr
          obtain ⟨rl, rt⟩ := r
          obtain ⟨c, hc⟩ : ∃ c : Nat, rt = (c : Int) := ⟨rt.toNat, by have := hok.1; simp only at this; omega⟩
          subst hc
          simp only [Int.toNat_natCast] at HE c0 c1 haw hok hmr
          generalize hacc : exp (rs.take k) = acc at *
          clear hacc
          obtain ⟨A6, c6, e6, _, hA6⟩ := own_form ho
          subst e6
          have hb0 : ¬ (rl.length : Int) = 0 := by omega
          have ha64 : (acc.length : Int) ≤ 64 := by omega
          have ha0 : (0 : Int) ≤ (acc.length : Int) := Int.natCast_nonneg _
          have hdv : ((c : Int) ≤ (64 - (acc.length : Int)) / (rl.length : Int)) ↔ acc.length + c * rl.length ≤ 64 := by
            rw [Int.le_ediv_iff_mul_le (by omega)]
            have : ((c * rl.length : Nat) : Int) = (c : Int) * (rl.length : Int) := by simp
            omega
          by_cases hq : (c : Int) ≤ (64 - (acc.length : Int)) / (rl.length : Int)
          · have hsum := hdv.1 hq
            have hc64 : c ≤ 64 := Nat.le_trans (Nat.le_mul_of_pos_right c hok.2) (show c * rl.length ≤ 64 by omega)
            clear hdv
            go_wp2_with fail
            go_quiet (fail)
            go_wp2_with fail
            have hb8 : Below w.heap.size w ((wr.alloc (.cells #[.slice Ai rl.length ci, .int .i64 c] 58)).drewN nq) := (hb.alloc hz _).trans (below_drewN _ _ _ (by simp; omega))
            obtain ⟨N8, hN⟩ : ∃ N8, wr.heap.size = N8 := ⟨_, rfl⟩
            rw [hN]
            go_loopw [6, 44] (fun v t wq => ∃ j : Nat, t = .int .i64 j ∧ j ≤ c ∧ wq.ownsRow w.heap.size 48 2 v (acc ++ rep rl j).length (flat (acc ++ rep rl j)) ∧ Below w.heap.size w wq ∧ wq.cell? ⟨N8, 0, none⟩ = some (.slice Ai rl.length ci) ∧ wq.cell? ⟨N8, 1, none⟩ = some (.int .i64 c) ∧ v.ownBlock ≠ some N8) (fun _ t _ => c - (intOf t).toNat)
            case atStart =>
              refine ⟨0, rfl, by omega, ?_, hb8, by rw [← hN]; show (wr.alloc (.cells #[.slice Ai rl.length ci, .int .i64 c] 58)).cell? _ = _; simp, by rw [← hN]; show (wr.alloc (.cells #[.slice Ai rl.length ci, .int .i64 c] 58)).cell? _ = _; simp, fun e => ?_⟩
              · rw [rep, List.append_nil]
                exact own_below (own_below ho ((Below.refl _ wr).alloc (Nat.le_refl _) _)) (below_drewN _ _ _ (Nat.le_refl _))
              · have := (ho.lt _ e).2
                omega
            case round =>
              obtain ⟨j, rfl, hj, hr6, hbq, q0, q1, hne⟩ := hrel
              have hj0 : (0 : Int) ≤ (j : Int) := Int.natCast_nonneg _
              by_cases hjc : j < c
              · have hjc' : (j : Int) < (c : Int) := by omega
                obtain ⟨ga, oa, e'⟩ := haw.some' hok.2
                subst e'
                have hq2 := haw.below hbq (Nat.le_refl _)
                have hjm : (j + 1) * rl.length ≤ c * rl.length := Nat.mul_le_mul_right _ hjc
                have hlen : (acc ++ rep rl j).length = acc.length + j * rl.length := by rw [List.length_append, rep_len]
                have hsm : (acc ++ rep rl j).length + rl.length ≤ 64 := by rw [hlen]; rw [Nat.succ_mul] at hjm; omega
                have HS := Lib.hid (show acc ++ rep rl (j + 1) = (acc ++ rep rl j) ++ rl by rw [rep, List.append_assoc])
                have HF := Lib.hid (show flat ((acc ++ rep rl j) ++ rl) = flat (acc ++ rep rl j) ++ flat rl by simp [flat])
                clear hlen hjm
                generalize acc ++ rep rl j = L at *
                have hzq := hbq.size
                have lq := World.block_lt_of_cell? wr _ q0
                go_wp2_with (at_builtin; refine wpList_append_lies _ rfl _ _ 23 rfl w.heap.size 48 i0 _ 2 24 Tryd.underlying23 hi0 hz0 hz1 hz2 rfl (by omega) u6 L.length (flat L) rfl hr6 ⟨ga, oa, none⟩ rl.length ci (flat rl) rfl (flat_length rl) (flat_at hq2) flat_mem (by omega) (by unfold maxLen; omega) (by omega) hzq (wr.heap.size) rfl ?_; intro gg cap' w1 hown1 hgrow hat hlt1)
                go_roundw
                case rel => exact ⟨j + 1, by go_num, by omega, by rw [HS.out, HF.out, List.length_append]; exact hown1, Below.grown hbq hgrow hzq (fun j hj => (hr6.lt j hj).1), (hgrow.cell_far ⟨N8, 0, none⟩ lq (Ne.symm hne)).trans q0, (hgrow.cell_far ⟨N8, 1, none⟩ lq (Ne.symm hne)).trans q1, fun e => by
                  simp [Value.ownBlock] at e
                  rcases hat with h | h
                  · rw [e] at h; exact hne h
                  · simp at lq; omega⟩
                case measure => simp [intOf]; omega
              · have hjc' : ¬ (j : Int) < (c : Int) := by omega
                obtain rfl : j = c := by omega
                have hl64 : (acc ++ rep rl j).length ≤ 64 := by rw [List.length_append, rep_len]; omega
                go_wp2_with fail
                go_roundw
                case rel => exact ⟨k + 1, by go_num, by omega, by rw [HE.out]; exact hl64, by rw [HE.out]; exact hr6, hbq⟩
                case measure => simp [intOf]; omega
          · have hsum : 64 < acc.length + c * rl.length := by
              rcases Nat.lt_or_ge 64 (acc.length + c * rl.length) with h | h
              · exact h
              · exact absurd (hdv.2 h) hq
            have HF : Hid (U = ([], 31)) := Lib.hid (by
              rw [← HU.out]; unfold unf
              rw [if_pos HR.out, if_neg]
              rw [HL.out, HE.out, List.length_append, List.length_append, rep_len]
              omega)
            clear hdv
            go_wp2_with fail
            go_quiet (fail)
            go_wp2_with fail
            go_ret2
            exact ⟨_, by rw [HF.out]; rfl, by rw [HF.out]; exact World.ownsRow_nil _ _ _ _, (hb.alloc hz _).trans (below_drewN _ _ _ (by simp; omega))⟩
        · have hlt' : ¬ (k : Int) < (rs.length : Int) := by omega
          rw [List.take_of_length_le (by omega)] at h64 ho
          obtain ⟨A6, c6, e6, ha6, _⟩ := own_form ho
          subst e6
          have H14 := Lib.hid (check_any A6 c6 (exp rs) wr ha6 (by omega))
          have HF : Hid ((chk (exp rs) = 0 → U = (exp rs, 0)) ∧ (chk (exp rs) ≠ 0 → U = ([], 30) ∧ chk (exp rs) = 30)) := Lib.hid ⟨fun h => by rw [← HU.out]; unfold unf; rw [if_pos HR.out, if_pos h64, if_pos h], fun h => ⟨by rw [← HU.out]; unfold unf; rw [if_pos HR.out, if_pos h64, if_neg h], chk_30 h64 h⟩⟩
          generalize exp rs = E at *
          go_wp2_with fail
          refine H14.out.mono ?_
          rintro e W2 ⟨rfl, b2⟩
          have ho2 := own_below ho b2
          have hb2 := hb.trans (b2.mono hz)
          by_cases hc : chk E = 0
          · have hu := HF.out.1 hc
            rw [hc]
            clear hc HF
            subst hu
            go_wp2_with fail
            go_ret2
            exact ⟨_, rfl, ho2, hb2⟩
          · obtain ⟨hu, h30⟩ := HF.out.2 hc
            rw [h30]
            clear hc HF
            subst hu
            go_wp2_with fail
            go_ret2
            exact ⟨_, rfl, World.ownsRow_nil _ _ _ _, hb2⟩
end Go.Proofs.YtocdinaomkmcbaaDoor
