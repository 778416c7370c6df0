/-
  fit: places that may be, made of any.
-/
import Derived.Test.YtocdinaomkmcbaaDoorO
import Derived.Test.YtocdinaomkmcbaaDoorUC
import Derived.Deep.RegionLaw
import Derived.Deep.DrawnRows
import Derived.IntWalk
namespace Go.Proofs.YtocdinaomkmcbaaDoor
open Go.ChangeShapes Go.WideShapes Go.ChangeAt Go.RowKit Go.Shelf
set_option linter.unusedVariables false

def ftN (s : List UInt8) : List UInt8 := if (s.filter okB).take 120 = [] then [102] else (s.filter okB).take 120
def ftK (k : Int) : Int := (k.tmod 1048577 + 1048577).tmod 1048577
def ftP (p : Pl) : Pl := (bts (ftN p.1.data.toList), ftK p.2)
def fitL (l : List Pl) : List Pl := (l.take 64).map ftP
theorem ftN_len (s : List UInt8) : 1 ≤ (ftN s).length ∧ (ftN s).length ≤ 120 := by
  unfold ftN
  split
  · simp
  · rename_i h
    refine ⟨?_, by rw [List.length_take]; omega⟩
    cases h' : (s.filter okB).take 120 with
    | nil => exact absurd h' h
    | cons a b => simp
theorem ftN_ok (s : List UInt8) : ∀ c ∈ ftN s, okB c = true := by
  unfold ftN
  split
  · intro c hc
    simp at hc
    subst hc
    decide
  · intro c hc
    have := List.mem_of_mem_take hc
    exact (List.mem_filter.1 this).2
theorem ftK_in (k : Int) : -1048576 ≤ k.tmod 1048577 ∧ k.tmod 1048577 ≤ 1048576 ∧ 0 ≤ ftK k ∧ ftK k ≤ 1048576 := by
  have a1 := Int.tmod_lt_of_pos k (show (0 : Int) < 1048577 by decide)
  have a2 := Int.lt_tmod_of_pos k (show (0 : Int) < 1048577 by decide)
  have b1 := Int.tmod_lt_of_pos (k.tmod 1048577 + 1048577) (show (0 : Int) < 1048577 by decide)
  have b2 := Int.tmod_nonneg (a := k.tmod 1048577 + 1048577) 1048577 (by omega)
  exact ⟨by omega, by omega, b2, by unfold ftK; omega⟩
theorem fit_may (p : Pl) : may (ftP p) = true := by
  obtain ⟨_, _, k1, k2⟩ := ftK_in p.2
  obtain ⟨n1, n2⟩ := ftN_len p.1.data.toList
  rw [may_in (p := ftP p) ⟨by show 1 ≤ (bts _).size; rw [bts_size]; exact n1, by show (bts _).size ≤ 120; rw [bts_size]; exact n2, k1, k2⟩]
  show (bts (ftN p.1.data.toList)).data.toList.all okB = true
  rw [bts_list, List.all_eq_true]
  exact ftN_ok _
theorem fitL_len (l : List Pl) : (fitL l).length ≤ 64 := by unfold fitL; simp; omega
theorem fitL_chk (l : List Pl) : chk (fitL l) = 0 := chk_ok.2 ⟨fun p hp => by
  obtain ⟨q, _, rfl⟩ := List.mem_map.1 hp
  exact fit_may q, fitL_len l⟩
def cB (c : UInt8) : Value := .int .u8 (c.toNat : Int)
theorem info5 : (Tryd.prog.info? 5).map (fun i => (i.zero, i.size, i.bytes)) = some (some (.int .u8 0), 1, 1) := by kernel_rfl
theorem filter_snoc {s : ByteArray} {k : Nat} (hk : k < s.size) : (s.data.toList.take (k + 1)).filter okB = (s.data.toList.take k).filter okB ++ (if okB s[k] then [s[k]] else []) := by
  rw [List.take_succ_eq_append_getElem (by simpa using hk), List.filter_append]
  congr 1
  have e : s.data.toList[k]'(by simpa using hk) = s[k] := rfl
  rw [e]
  by_cases h : okB s[k] <;> simp [h]
theorem filter_all {s : ByteArray} {k : Nat} {bs : List UInt8} (h : bs = (s.data.toList.take k).filter okB) (h2 : k = s.size ∧ bs.length ≤ 120 ∨ bs.length = 120) : (s.data.toList.filter okB).take 120 = bs := by
  have e : s.data.toList.filter okB = bs ++ (s.data.toList.drop k).filter okB := by
    rw [h, ← List.filter_append, List.take_append_drop]
  rcases h2 with ⟨rfl, h2⟩ | h2
  · have : s.data.toList.drop s.size = [] := by rw [List.drop_of_length_le]; simp
    rw [e, this, List.filter_nil, List.append_nil]
    exact List.take_of_length_le h2
  · rw [e, List.take_append_of_le_length (by omega), List.take_of_length_le (by omega)]
theorem conv_row {w : World} {B g c : Nat} {bs : List UInt8} (h : w.ownsRow B 5 1 (.slice (some ⟨g, 0, none⟩) bs.length c) bs.length (bs.map cB)) : (convert 91 9 (.slice (some ⟨g, 0, none⟩) bs.length c)).run Tryd.prog w = .ok (.string (bts bs)) w :=
  run_convert_bytes_back w 91 9 5 ⟨g, 0, none⟩ c bs Tryd.underlying91 Tryd.underlying5 Tryd.underlying9 (fun j hj => by
    have := h.cells (g := g) rfl j (cB bs[j]) (by rw [List.getElem?_map, List.getElem?_eq_getElem hj]; rfl)
    exact this)
theorem ft_snoc {l : List Pl} {i : Nat} {p : Pl} (h : l[i]? = some p) : (l.take (i + 1)).map ftP = (l.take i).map ftP ++ [ftP p] := by rw [take_snoc' l i p h]; simp

set_option maxRecDepth 100000 in
set_option maxHeartbeats 8000000 in
theorem fit_any (A : Option Addr) (cap : Nat) (l : List Pl) (w : World) (hA : At w A l) (hn : l.length ≤ 5864062014634) (hs : ∀ p ∈ l, p.1.size ≤ maxLen) :
    Calls Tryd.prog 37 #[.slice A l.length cap] w fun e w' => ∃ v, e = .returned v ∧ w'.ownsRow w.heap.size 48 2 v (fitL l).length (flat (fitL l)) ∧ Below w.heap.size w w' := by
  obtain ⟨i0, hi0, hz0, hz1, hz2⟩ := info_parts info48
  obtain ⟨i5, hi5, hy0, hy1, hy2⟩ := info_parts info5
  have HA := Lib.hid hA
  have HSZ := Lib.hid hs
  clear hs
  go_enter Tryd.func37, Tryd.ntmps37
  go_wp2_with fail
  go_loopw [3, 4] (fun vo t wr => ∃ i : Nat, t = .int .i64 i ∧ i ≤ l.length ∧ i ≤ 64 ∧ wr.ownsRow w.heap.size 48 2 vo i (flat ((l.take i).map ftP)) ∧ Below w.heap.size w wr) (fun _ t _ => l.length - (intOf t).toNat)
  case atStart => exact ⟨0, rfl, by omega, by omega, World.ownsRow_nil _ _ _ _, Below.refl _ _⟩
  case round =>
    obtain ⟨i, rfl, hi, hi64, ho, hb⟩ := hrel
    have hii0 : (0 : Int) ≤ (i : Int) := Int.natCast_nonneg _
    generalize hV : wr = V at *
    clear hV
    by_cases hlt : i < l.length ∧ i < 64
    · obtain ⟨hlt, hlt64⟩ := hlt
      have hi1 : (i : Int) < (l.length : Int) := by omega
      have hi2 : (i : Int) < 64 := by omega
      obtain ⟨p, hp⟩ : ∃ p, l[i]? = some p := ⟨_, List.getElem?_eq_getElem hlt⟩
      obtain ⟨g, o, rfl, c0w, c1w⟩ := HA.out i p hp
      have hsz := HSZ.out p (List.mem_of_getElem? hp)
      unfold maxLen at hsz
      have HSN := Lib.hid (ft_snoc hp)
      have HFP : Hid (ftP p = (bts (ftN p.1.data.toList), ftK p.2)) := Lib.hid rfl
      have hk4 := ftK_in p.2
      have HKT : Hid ((p.2.tmod 1048577 + 1048577).tmod 1048577 = ftK p.2) := Lib.hid rfl
      obtain ⟨s, ln⟩ := p
      simp only at c0w c1w hsz hk4
      clear hp hA
      generalize (l.take i).map ftP = L at *
      go_wp2_with fail
      have HLT : Hid (g < w.heap.size) := Lib.hid (by have := World.block_lt_of_cell? w _ c0w; simpa using this)
      go_loopw [5, 6] (fun vb t wr => ∃ (k : Nat) (bs : List UInt8), t = .int .i64 k ∧ k ≤ s.size ∧ bs.length ≤ 120 ∧ Hid (bs = (s.data.toList.take k).filter okB) ∧ wr.ownsRow w.heap.size 5 1 vb bs.length (bs.map cB) ∧ wr.ownsRow w.heap.size 48 2 u3 i (flat L) ∧ Below w.heap.size w wr) (fun _ t _ => s.size - (intOf t).toNat)
      case atStart => exact ⟨0, [], rfl, by omega, by simp, Lib.hid (by simp), World.ownsRow_nil _ _ _ _, ho, hb⟩
      case round =>
        obtain ⟨k, bs, rfl, hk, hbs, HB, ob, ov, hbr⟩ := hrel
        have hk0 : (0 : Int) ≤ (k : Int) := Int.natCast_nonneg _
        have hz := hbr.size
        have c0 := cell_below c0w hbr (Nat.le_refl _)
        have c1 := cell_below c1w hbr (Nat.le_refl _)
        obtain ⟨Ab, cb, rfl, hAb⟩ : ∃ Ab cb, u5 = .slice Ab bs.length cb ∧ (0 < bs.length → ∃ gb, Ab = some ⟨gb, 0, none⟩) := by
          rcases ob.2 with ⟨h1, h2⟩ | ⟨gx, cx, _, h1, _⟩
          · exact ⟨none, 0, by rw [h1, h2], fun h => by omega⟩
          · exact ⟨_, cx, h1, fun _ => ⟨gx, rfl⟩⟩
        have HAB := Lib.hid hAb
        clear hAb
        by_cases hgo : k < s.size ∧ bs.length < 120
        · obtain ⟨hks, hb120⟩ := hgo
          have hk1 : (k : Int) < (s.size : Int) := by omega
          have hb1 : (bs.length : Int) < 120 := by omega
          have HFS := Lib.hid (filter_snoc (s := s) hks)
          obtain ⟨x, hx⟩ : ∃ x, s[k]'hks = x := ⟨_, rfl⟩
          by_cases hok : ((33 : Int) ≤ (x.toNat : Int) ∧ (x.toNat : Int) ≤ 126 ∧ (x.toNat : Int) ≠ 58)
          · obtain ⟨b1, b2, b3⟩ := hok
            have hoB : okB x = true := okB_yes b1 b2 b3
            have b3e : ((x.toNat : Int) == 58) = false := beq_eq_false_iff_ne.2 b3
            have b3n : ((x.toNat : Int) != 58) = true := bne_iff_ne.2 b3
            have HN : Hid (bs ++ [x] = (s.data.toList.take (k + 1)).filter okB) := Lib.hid (by rw [HFS.out, ← HB.out, hx, hoB]; rfl)
            have HM : Hid ((bs ++ [x]).map cB = bs.map cB ++ [.int .u8 (x.toNat : Int)]) := Lib.hid (by simp [cB])
            have HL : Hid ((bs ++ [x]).length = bs.length + 1) := Lib.hid (by simp)
            clear hoB HFS
            generalize bs.map cB = cs at *
            generalize hbl : bs.length = n at *
            clear hbl
            go_wp2_with (at_builtin; refine wpList_append_lies _ rfl _ _ _ rfl w.heap.size 5 i5 _ 1 1 Tryd.underlying91 hi5 hy0 hy1 hy2 rfl (by omega) (.slice Ab n cb) n cs rfl (ob.alloc _) ⟨wr.heap.size, 0, none⟩ 1 1 [.int .u8 (x.toNat : Int)] rfl rfl (World.news_of_block (cs := #[.int .u8 (x.toNat : Int)]) (t := 5) (fr := (0, 0)) (heap_alloc_new wr _)) (by simp [Value.oneCell']) (by omega) (by unfold maxLen; omega) (by omega) (by simp; omega) (wr.heap.size + 1) (by simp) ?_; intro gg cap' w1 hown1 hgrow hat hlt1)
            have ov1 := keep_other (ov.alloc (.cells #[.int .u8 (x.toNat : Int)] 5)) (ob.alloc (.cells #[.int .u8 (x.toNat : Int)] 5)) (by decide) hgrow
            have hb1' := Below.grown (hbr.alloc hz (.cells #[.int .u8 (x.toNat : Int)] 5)) hgrow (by simp; omega) (fun j hj => (ob.lt j hj).1)
            clear ob ov hgrow hat
            go_wp2_with fail
            go_roundw
            case rel => exact ⟨k + 1, bs ++ [x], by go_num, by omega, by rw [HL.out]; omega, HN, by rw [HL.out, HM.out]; exact hown1, ov1, hb1'⟩
            case measure => simp [intOf]; omega
          · have hoB : okB x = false := okB_no (by omega)
            have HN : Hid (bs = (s.data.toList.take (k + 1)).filter okB) := Lib.hid (by rw [HFS.out, ← HB.out, hx, hoB]; simp)
            have h3 : ((x.toNat : Int) < 33) ∨ ((33 : Int) ≤ (x.toNat : Int) ∧ 126 < (x.toNat : Int)) ∨ ((33 : Int) ≤ (x.toNat : Int) ∧ (x.toNat : Int) ≤ 126 ∧ (x.toNat : Int) = 58) := by omega
            clear hoB HFS hok
            generalize hbl : bs.length = n at *
            have HBL := Lib.hid hbl
            clear hbl
            rcases h3 with b1 | ⟨b1, b2⟩ | ⟨b1, b2, b3⟩
            · have b1' : ¬ ((33 : Int) ≤ (x.toNat : Int)) := by omega
              go_wp2_with fail
              go_roundw
              case rel => exact ⟨k + 1, bs, by go_num, by omega, by rw [HBL.out]; omega, HN, by rw [HBL.out]; exact ob, ov, hbr⟩
              case measure => simp [intOf]; omega
            · have b2' : ¬ ((x.toNat : Int) ≤ 126) := by omega
              go_wp2_with fail
              go_roundw
              case rel => exact ⟨k + 1, bs, by go_num, by omega, by rw [HBL.out]; omega, HN, by rw [HBL.out]; exact ob, ov, hbr⟩
              case measure => simp [intOf]; omega
            · have b3e : ((x.toNat : Int) == 58) = true := beq_iff_eq.2 b3
              have b3n : ((x.toNat : Int) != 58) = false := by simp [b3]
              clear b3
              go_wp2_with fail
              go_roundw
              case rel => exact ⟨k + 1, bs, by go_num, by omega, by rw [HBL.out]; omega, HN, by rw [HBL.out]; exact ob, ov, hbr⟩
              case measure => simp [intOf]; omega
        · have hfin := filter_all HB.out (by omega : k = s.size ∧ bs.length ≤ 120 ∨ bs.length = 120)
          obtain ⟨r, hr1⟩ : ∃ r, ln.tmod 1048577 = r := ⟨_, rfl⟩
          obtain ⟨q, hr2⟩ : ∃ q, (r + 1048577).tmod 1048577 = q := ⟨_, rfl⟩
          have hqk : ftK ln = q := by unfold ftK; rw [hr1, hr2]
          rw [hr1, hqk] at hk4
          obtain ⟨q1, q2, q3, q4⟩ := hk4
          by_cases hemp : bs = []
          · subst hemp
            have hks : ¬ (k : Int) < (s.size : Int) := by simp at hgo; omega
            have hfn : ftN s.data.toList = [102] := by unfold ftN; rw [if_pos hfin]
            have HNW : Hid (flat (L ++ [ftP (s, ln)]) = flat L ++ cel (bts [102], q)) := Lib.hid (by rw [flat_snoc, HFP.out, hfn, hqk])
            clear hfin hfn hqk hgo HAB
            go_wp2_with (at_builtin; refine wpList_append_lies _ rfl _ _ _ rfl w.heap.size 5 i5 _ 1 1 Tryd.underlying91 hi5 hy0 hy1 hy2 rfl (by omega) (.slice Ab 0 cb) 0 [] rfl (ob.alloc _) ⟨wr.heap.size, 0, none⟩ 1 1 [.int .u8 102] rfl rfl (World.news_of_block (cs := #[.int .u8 102]) (t := 5) (fr := (0, 0)) (heap_alloc_new wr _)) (by simp [Value.oneCell']) (by omega) (by unfold maxLen; omega) (by omega) (by simp; omega) (wr.heap.size + 1) (by simp) ?_; intro gb cb2 W hown1 hgrow hat hlt1)
            have ov1 := keep_other (ov.alloc (.cells #[.int .u8 102] 5)) (ob.alloc (.cells #[.int .u8 102] 5)) (by decide) hgrow
            have hbW := Below.grown (hbr.alloc hz (.cells #[.int .u8 102] 5)) hgrow (by simp; omega) (fun j hj => (ob.lt j hj).1)
            have hcv : (convert 91 9 (.slice (some ⟨gb, 0, none⟩) 1 cb2)).run Tryd.prog W.drew = .ok (.string (bts [102])) W.drew := conv_row (bs := [102]) (w := W.drew) (B := w.heap.size) hown1
            have hzW := hbW.size
            have d1 := cell_below c1w hbW (Nat.le_refl _)
            have hw1 : IntKind.i64.wrap (r + 1048577) = r + 1048577 := IntWalk.i64_in _ (by omega)
            have hw2 : IntKind.i64.wrap r = r := IntWalk.i64_in _ (by omega)
            have hw3 : IntKind.i64.wrap q = q := IntWalk.i64_in _ (by omega)
            go_region_law (refine step_append_lies _ (by rfl) _ _ _ (by rfl) w.heap.size 48 i0 _ 2 24 Tryd.underlying23 hi0 hz0 hz1 hz2 rfl (by omega) u3 i (flat L) (by rfl) ((ov1.alloc _).drew) ⟨W.heap.size, 0, none⟩ 1 1 (cel (bts [102], q)) (by rfl) (by rfl) (World.news_of_block (cs := #[.string (bts [102]), .int .i64 q]) (t := 48) (fr := (0, 0)) (heap_alloc_new W _)) (by simp [cel, Value.oneCell']) (by omega) (by unfold maxLen; omega) (by omega) (by simp; omega) (W.heap.size + 1) (by simp) ?_; intro gg cap' w1 hown9 hgrow9 hat9 hlt9)
            all_goals
              have hb9 : Below w.heap.size w w1 := Below.grown ((hbW.alloc hzW _).drew) hgrow9 (by simp; omega) (fun j hj => (ov1.lt j hj).1)
              clear hw1 hw2 hw3 hgrow9 hat9
              go_wp2_with fail
              go_roundw
              case rel => exact ⟨i + 1, by go_num, by omega, by omega, by rw [HSN.out, HNW.out]; exact hown9, hb9⟩
              case measure => simp [intOf]; omega
          · have hn0 : 0 < bs.length := by
              cases hb' : bs with
              | nil => exact absurd hb' hemp
              | cons a b => simp
            obtain ⟨gb, rfl⟩ := HAB.out hn0
            have hfn : ftN s.data.toList = bs := by unfold ftN; rw [hfin, if_neg hemp]
            have HNW : Hid (flat (L ++ [ftP (s, ln)]) = flat L ++ cel (bts bs, q)) := Lib.hid (by rw [flat_snoc, HFP.out, hfn, hqk])
            have hcv : (convert 91 9 (.slice (some ⟨gb, 0, none⟩) bs.length cb)).run Tryd.prog wr.drew = .ok (.string (bts bs)) wr.drew := conv_row (w := wr.drew) (B := w.heap.size) ob
            have ov1 := ov
            have hbW := hbr
            have hn1 : ¬ (bs.length : Int) = 0 := by omega
            have hn2 : ((bs.length : Int) == 0) = false := beq_eq_false_iff_ne.2 hn1
            have hn3 : decide (bs.length = 0) = false := decide_eq_false (by omega)
            clear hfin hfn hqk HAB hemp
            have hex : ¬ (k : Int) < (s.size : Int) ∨ ((k : Int) < (s.size : Int) ∧ ¬ (bs.length : Int) < 120) := by omega
            clear hgo
            generalize hW : wr = W at *
            clear hW
            generalize bs.length = n at *
            rcases hex with h1 | ⟨h1, h2⟩
            · go_wp2_with fail
              have hzW := hbW.size
              have d1 := cell_below c1w hbW (Nat.le_refl _)
              have hw1 : IntKind.i64.wrap (r + 1048577) = r + 1048577 := IntWalk.i64_in _ (by omega)
              have hw2 : IntKind.i64.wrap r = r := IntWalk.i64_in _ (by omega)
              have hw3 : IntKind.i64.wrap q = q := IntWalk.i64_in _ (by omega)
              go_region_law (refine step_append_lies _ (by rfl) _ _ _ (by rfl) w.heap.size 48 i0 _ 2 24 Tryd.underlying23 hi0 hz0 hz1 hz2 rfl (by omega) u3 i (flat L) (by rfl) ((ov1.alloc _).drew) ⟨W.heap.size, 0, none⟩ 1 1 (cel (bts bs, q)) (by rfl) (by rfl) (World.news_of_block (cs := #[.string (bts bs), .int .i64 q]) (t := 48) (fr := (0, 0)) (heap_alloc_new W _)) (by simp [cel, Value.oneCell']) (by omega) (by unfold maxLen; omega) (by omega) (by simp; omega) (W.heap.size + 1) (by simp) ?_; intro gg cap' w1 hown9 hgrow9 hat9 hlt9)
              all_goals
                have hb9 : Below w.heap.size w w1 := Below.grown ((hbW.alloc hzW _).drew) hgrow9 (by simp; omega) (fun j hj => (ov1.lt j hj).1)
                clear hw1 hw2 hw3 hgrow9 hat9
                go_wp2_with fail
                go_roundw
                case rel => exact ⟨i + 1, by go_num, by omega, by omega, by rw [HSN.out, HNW.out]; exact hown9, hb9⟩
                case measure => simp [intOf]; omega
            · go_wp2_with fail
              have hzW := hbW.size
              have d1 := cell_below c1w hbW (Nat.le_refl _)
              have hw1 : IntKind.i64.wrap (r + 1048577) = r + 1048577 := IntWalk.i64_in _ (by omega)
              have hw2 : IntKind.i64.wrap r = r := IntWalk.i64_in _ (by omega)
              have hw3 : IntKind.i64.wrap q = q := IntWalk.i64_in _ (by omega)
              go_region_law (refine step_append_lies _ (by rfl) _ _ _ (by rfl) w.heap.size 48 i0 _ 2 24 Tryd.underlying23 hi0 hz0 hz1 hz2 rfl (by omega) u3 i (flat L) (by rfl) ((ov1.alloc _).drew) ⟨W.heap.size, 0, none⟩ 1 1 (cel (bts bs, q)) (by rfl) (by rfl) (World.news_of_block (cs := #[.string (bts bs), .int .i64 q]) (t := 48) (fr := (0, 0)) (heap_alloc_new W _)) (by simp [cel, Value.oneCell']) (by omega) (by unfold maxLen; omega) (by omega) (by simp; omega) (W.heap.size + 1) (by simp) ?_; intro gg cap' w1 hown9 hgrow9 hat9 hlt9)
              all_goals
                have hb9 : Below w.heap.size w w1 := Below.grown ((hbW.alloc hzW _).drew) hgrow9 (by simp; omega) (fun j hj => (ov1.lt j hj).1)
                clear hw1 hw2 hw3 hgrow9 hat9
                go_wp2_with fail
                go_roundw
                case rel => exact ⟨i + 1, by go_num, by omega, by omega, by rw [HSN.out, HNW.out]; exact hown9, hb9⟩
                case measure => simp [intOf]; omega
    · have hex : ¬ ((i : Int) < (l.length : Int)) ∨ ((i : Int) < (l.length : Int) ∧ ¬ ((i : Int) < 64)) := by omega
      have HE : Hid ((l.take i).map ftP = fitL l ∧ (fitL l).length = i) := Lib.hid (by
        unfold fitL
        by_cases h : i < l.length
        · obtain rfl : i = 64 := by omega
          exact ⟨rfl, by simp; omega⟩
        · obtain rfl : i = l.length := by omega
          rw [List.take_length, List.take_of_length_le (by omega)]
          exact ⟨rfl, by simp⟩)
      rcases hex with h1 | ⟨h1, h2⟩
      all_goals
        go_wp2_with fail
        go_ret
        exact ⟨_, rfl, by rw [HE.out.2, ← HE.out.1]; exact ho, hb⟩
end Go.Proofs.YtocdinaomkmcbaaDoor
