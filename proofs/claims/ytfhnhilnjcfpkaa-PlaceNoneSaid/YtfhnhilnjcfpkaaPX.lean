/-
  PlaceNone: the walk of the law.
-/
import Derived.Test.YtfhnhilnjcfpkaaPW
namespace Go.Proofs.Ytfhnhilnjcfpkaa
open Go.ChangeShapes Go.WideShapes Go.ChangeAt Go.RowKit Go.Shelf
open Go.Maps (Keyed)
set_option linter.unusedVariables false
set_option maxRecDepth 100000 in
theorem info24 : (Try.prog.info? 24).map (fun i => (i.zero, i.size, i.bytes)) = some (some (.agg #[.string ByteArray.empty, .int .i64 0]), 2, 24) := by kernel_rfl
theorem flat_snoc (l : List Pl) (p : Pl) : flat (l ++ [p]) = flat l ++ cel p := by simp [flat]
theorem flat_length (l : List Pl) : (flat l).length = l.length * 2 := by
  induction l with
  | nil => rfl
  | cons p l ih => simp only [flat, List.flatMap_cons, List.length_append, List.length_cons] at ih ⊢; rw [ih]; simp [cel]; omega
theorem add_str (W : World) (a b : ByteArray) (ha : (a.size : Int) ≤ 8388608) (hb : (b.size : Int) ≤ 8388608) : (binOp .add 9 (.string a) (.string b)).run Try.prog W = .ok (.string (a ++ b)) W := by simp [binOp, run_string_add, *]
structure Sx (w W : World) : Prop where
  p0 : W.cell? ⟨w.heap.size, 0, none⟩ = some (.string { data := #[102] })
  p1 : W.cell? ⟨w.heap.size, 1, none⟩ = some (.int .i64 1)
  below : Below w.heap.size w W
theorem Sx.more {w W W' : World} (h : Sx w W) (hb : Below W.heap.size W W') : Sx w W' :=
  ⟨cell_below h.p0 hb (Nat.le_refl _), cell_below h.p1 hb (Nat.le_refl _), h.below.trans (hb.mono h.below.size)⟩
theorem Sx.alloc {w W : World} (h : Sx w W) (o : Obj) : Sx w (W.alloc o) := h.more ((Below.refl _ W).alloc (Nat.le_refl _) o)
theorem sx_new (w : World) : Sx w (w.alloc (.cells #[.string { data := #[102] }, .int .i64 1] 24)) := ⟨by simp, by simp, (Below.refl _ w).alloc (Nat.le_refl _) _⟩
/-- The box of p, the row of 65 places. -/
structure Rx (w : World) (b g cap : Nat) (W : World) : Prop where
  sx : Sx w W
  row : W.ownsRow b 24 2 (.slice (some ⟨g, 0, none⟩) 65 cap) 65 (flat (fl 65))
theorem Rx.more {w W W' : World} {b g cap : Nat} (h : Rx w b g cap W) (hb : Below W.heap.size W W') : Rx w b g cap W' := ⟨h.sx.more hb, own_below h.row hb⟩
theorem Rx.alloc {w W : World} {b g cap : Nat} (h : Rx w b g cap W) (o : Obj) : Rx w b g cap (W.alloc o) := h.more ((Below.refl _ W).alloc (Nat.le_refl _) o)
theorem Rx.at65 {w W : World} {b g cap : Nat} (h : Rx w b g cap W) : At W (some ⟨g, 0, none⟩) (fl 65) := at_own h.row (fun _ _ h => h) (by rw [fl_len]; omega)
theorem Rx.at64 {w W : World} {b g cap : Nat} (h : Rx w b g cap W) : At W (some ⟨g, 0, none⟩) (fl 64) := fun i p hp => by
  have hi := (List.getElem?_eq_some_iff.1 hp).1
  refine h.at65 i p ?_
  rw [fl_succ, List.getElem?_append_left hi]
  exact hp
theorem Rx.check65 {w W : World} {b g cap : Nat} (h : Rx w b g cap W) : Calls Try.prog 12 #[.slice (some ⟨g, 0, none⟩) 65 cap] W fun e w' => e = .returned (.int .i64 31) ∧ Rx w b g cap w' := by
  have := check_any (some ⟨g, 0, none⟩) cap (fl 65) W h.at65 (by rw [fl_len]; omega)
  rw [fl_len, fl_long] at this
  exact this.mono fun e w' h' => ⟨h'.1, h.more h'.2⟩
theorem Rx.check64 {w W : World} {b g cap : Nat} (h : Rx w b g cap W) : Calls Try.prog 12 #[.slice (some ⟨g, 0, none⟩) 64 cap] W fun e w' => e = .returned (.int .i64 0) ∧ Rx w b g cap w' := by
  have := check_any (some ⟨g, 0, none⟩) cap (fl 64) W h.at64 (by rw [fl_len]; omega)
  rw [fl_len, fl_chk 64 (by omega)] at this
  exact this.mono fun e w' h' => ⟨h'.1, h.more h'.2⟩
theorem Rx.check1 {w W : World} {b g cap : Nat} (s : ByteArray) (n e0 : Int) (he : chk [(s, n)] = e0) (h : Rx w b g cap W) : Calls Try.prog 12 #[.slice (some ⟨W.heap.size, 0, none⟩) 1 1] (W.alloc (.cells #[.string s, .int .i64 n] 24)) fun e w' => e = .returned (.int .i64 e0) ∧ Rx w b g cap w' :=
  (check_one s n e0 W he).mono fun e w' h' => ⟨h'.1, h.more h'.2⟩
theorem row_less {W : World} {b g cap : Nat} (h : W.ownsRow b 24 2 (.slice (some ⟨g, 0, none⟩) 65 cap) 65 (flat (fl 65))) : W.ownsRow b 24 2 (.slice (some ⟨g, 0, none⟩) 64 cap) (fl 64).length (flat (fl 64)) := by
  rcases h.2 with ⟨_, h0⟩ | ⟨g', c', cur, e, h1, h2, h3, h4, h5, h6⟩
  · cases h0
  · rw [fl_len]
    simp only [Value.slice.injEq, Option.some.injEq, Addr.mk.injEq, and_true, true_and] at e
    obtain ⟨rfl, rfl⟩ := e
    refine ⟨by rw [flat_length, fl_len], .inr ⟨g, cap, cur, rfl, h1, h2, by omega, h4, h5, ?_⟩⟩
    have e2 : (flat (fl 65)).take (64 * 2) = flat (fl 64) := by
      rw [fl_succ, flat_snoc, List.take_append_of_le_length (by rw [flat_length, fl_len]; omega), List.take_of_length_le (by rw [flat_length, fl_len]; omega)]
    rw [← e2, ← h6, List.take_take]
    rfl
/-- The box of p, a tree. -/
structure Tx (w : World) (lo a : Nat) (nd : List Nd) (W : World) : Prop where
  sx : Sx w W
  tr : Tr W lo a nd
  lt : w.heap.size < lo
  le : lo ≤ W.heap.size
theorem Tx.more {w W W' : World} {lo a : Nat} {nd : List Nd} (h : Tx w lo a nd W) (hb : Below W.heap.size W W') : Tx w lo a nd W' := ⟨h.sx.more hb, h.tr.below hb, h.lt, Nat.le_trans h.le hb.size⟩
theorem Tx.step {w W W' : World} {lo a : Nat} {nd nd' : List Nd} (h : Tx w lo a nd W) (hT : Tr W' lo a nd') (hb : Below lo W W') : Tx w lo a nd' W' :=
  ⟨⟨(hb.cell (p := ⟨w.heap.size, 0, none⟩) h.lt).trans h.sx.p0, (hb.cell (p := ⟨w.heap.size, 1, none⟩) h.lt).trans h.sx.p1, h.sx.below.trans (hb.mono (Nat.le_of_lt h.lt))⟩, hT, h.lt, Nat.le_trans h.le hb.size⟩
theorem Rx.new {w W : World} {b g cap : Nat} (h : Rx w b g cap W) (hw : w.heap.size < W.heap.size) : Calls Try.prog 13 #[] W fun e w' => ∃ a, e = .returned (.pointer (some ⟨a, 0, none⟩)) ∧ Tx w W.heap.size a rootN w' ∧ Rx w b g cap w' :=
  (new_any W).mono fun e w' ⟨a, h1, h2, h3⟩ => ⟨a, h1, ⟨h.sx.more h3, h2, hw, h3.size⟩, h.more h3⟩
theorem Tx.add {w W : World} {lo a b g cap : Nat} (h : Tx w lo a rootN W) (hr : Rx w b g cap W) : Calls Try.prog 5 #[.pointer (some ⟨a, 0, none⟩), .slice (some ⟨g, 0, none⟩) 64 cap] W fun e w' => e = .returned (.tuple #[.int .i64 64, .int .i64 0]) ∧ Tx w lo a (ch 64) w' := by
  have := add_any a lo b rootN (.slice (some ⟨g, 0, none⟩) 64 cap) (fl 64) W h.tr (row_less hr.row) (fl_chk 64 (by omega)) (by decide) h.le
  rw [add_ch] at this
  exact this.mono fun e w' h' => ⟨h'.1, h.step h'.2.1 h'.2.2.2⟩
theorem Tx.deep {w W : World} {lo a : Nat} (h : Tx w lo a (ch 64) W) : Calls Try.prog 4 #[.pointer (some ⟨a, 0, none⟩), .int .i64 64, .agg #[.string { data := #[102] }, .int .i64 1]] W fun e w' => e = .returned (.tuple #[.int .i64 0, .int .i64 31]) ∧ Tx w lo a (ch 64) w' :=
  (push_deep a lo 64 (ch 64) (⟨#[102]⟩, 1) W h.tr (by rw [ch_len]; omega) (pf_may 1048575 (by omega)) (by rw [ch_top, fl_len])).mono fun e w' h' => ⟨h'.1, h.more h'.2⟩
theorem Tx.no {w W : World} {lo a : Nat} (h : Tx w lo a (ch 64) W) : Calls Try.prog 4 #[.pointer (some ⟨a, 0, none⟩), .int .i64 65, .agg #[.string { data := #[102] }, .int .i64 1]] W fun e w' => e = .returned (.tuple #[.int .i64 0, .int .i64 1]) ∧ Tx w lo a (ch 64) w' :=
  (push_no a lo 65 (ch 64) (⟨#[102]⟩, 1) W h.tr (.inl (by rw [ch_len]; omega))).mono fun e w' h' => ⟨h'.1, h.more h'.2⟩
theorem Tx.len {w W : World} {lo a : Nat} {nd : List Nd} {n : Int} (h : Tx w lo a nd W) (hn : (nd.length : Int) = n) : Calls Try.prog 9 #[.pointer (some ⟨a, 0, none⟩)] W fun e w' => e = .returned (.int .i64 n) ∧ W = w' := by
  have := len_any a lo nd W h.tr
  rw [hn] at this
  exact this
theorem Tx.len65 {w W : World} {lo a : Nat} (h : Tx w lo a (ch 64) W) : Calls Try.prog 9 #[.pointer (some ⟨a, 0, none⟩)] W fun e w' => e = .returned (.int .i64 65) ∧ W = w' := h.len (by rw [ch_len]; rfl)
theorem Tx.len4096 {w W : World} {lo a : Nat} (h : Tx w lo a (trN 4031) W) : Calls Try.prog 9 #[.pointer (some ⟨a, 0, none⟩)] W fun e w' => e = .returned (.int .i64 4096) ∧ W = w' := h.len (by rw [tr_len]; rfl)
theorem tr_root (i : Nat) : stk (trN i) 0 = [] := stk_zero _
theorem Tx.push {w W : World} {lo a i : Nat} (h : Tx w lo a (trN i) W) (hi : i < 4031) : Calls Try.prog 4 #[.pointer (some ⟨a, 0, none⟩), .int .i64 0, .agg #[.string { data := #[103] }, .int .i64 (i : Int)]] W fun e w' => e = .returned (.tuple #[.int .i64 ((i + 65 : Nat) : Int), .int .i64 0]) ∧ Tx w lo a (trN (i + 1)) w' := by
  have := push_any a lo 0 (trN i) (pg i) W h.tr (by rw [tr_len]; omega) (pg_may i (by omega)) (by rw [tr_root]; decide) (by rw [tr_len]; omega) h.le
  rw [ins_tr] at this
  exact this.mono fun e w' h' => ⟨h'.1, h.step h'.2.1 h'.2.2.2⟩
theorem Tx.full {w W : World} {lo a : Nat} (h : Tx w lo a (trN 4031) W) : Calls Try.prog 4 #[.pointer (some ⟨a, 0, none⟩), .int .i64 0, .agg #[.string { data := #[102] }, .int .i64 1]] W fun e w' => e = .returned (.tuple #[.int .i64 0, .int .i64 3]) ∧ Tx w lo a (trN 4031) w' :=
  (push_full a lo 0 (trN 4031) (⟨#[102]⟩, 1) W h.tr (by rw [tr_len]; omega) (pf_may 1048575 (by omega)) (by rw [tr_root]; decide) (seek_p 4031) (by rw [tr_len])).mono fun e w' h' => ⟨h'.1, h.more h'.2⟩
theorem Tx.old {w W : World} {lo a : Nat} (h : Tx w lo a (trN 4031) W) : Calls Try.prog 4 #[.pointer (some ⟨a, 0, none⟩), .int .i64 0, .agg #[.string { data := #[103] }, .int .i64 9]] W fun e w' => e = .returned (.tuple #[.int .i64 74, .int .i64 0]) ∧ Tx w lo a (trN 4031) w' :=
  (push_old a lo 0 74 (trN 4031) (pg 9) W h.tr (by rw [tr_len]; omega) (pg_may 9 (by omega)) (by rw [tr_root]; decide) (seek_g 4031 9 (by omega) (tr_wf 4031 (by omega))) h.le).mono fun e w' h' => ⟨h'.1, h.more h'.2⟩
theorem Tx.toldT {w W : World} {lo a : Nat} {nd : List Nd} (h : Tx w lo a nd W) : Calls Try.prog 11 #[.pointer (some ⟨a, 0, none⟩)] W fun e w' => e = .returned (.string (bts (told nd))) ∧ Tx w lo a nd w' :=
  (told_any a lo nd W h.tr).mono fun e w' h' => ⟨h'.1, h.more h'.2⟩
theorem tr_dp (i : Nat) (h : i ≤ 4031) : Dp (trN i) := by
  induction i with
  | zero =>
    have := add_dp (fl 64) rootN 0 root_wf dp_root (by decide) (fl_may 64 (by omega)) (by rw [stk_zero, fl_len]; decide)
    rw [add_ch] at this
    rw [tr_zero]
    exact this
  | succ i ih =>
    have := ins_dp (n := 0) (p := pg i) (tr_wf i (by omega)) (ih (by omega)) (by rw [tr_len]; omega) (pg_may i (by omega)) (by rw [tr_root]; decide)
    rw [ins_tr] at this
    exact this
set_option maxRecDepth 100000 in
theorem Tx.fromT {w W : World} {lo a : Nat} (h : Tx w lo a (trN 4031) W) : Calls Try.prog 14 #[.string (bts (told (trN 4031)))] W fun e w' => ∃ lo2 u, e = .returned (.tuple #[.pointer (some ⟨u, 0, none⟩), .int .i64 0]) ∧ Tx w lo a (trN 4031) w' ∧ Tx w lo2 u (trN 4031) w' :=
  (from_any (trN 4031) _ W (tr_wf 4031 (by omega)) (by rw [tr_len]; omega) (tr_dp 4031 (by omega)) rfl).mono fun e w' ⟨lo2, u, h1, h2, h3, h4, h5⟩ => ⟨lo2, u, h1, h.more h5, (h.more h5).sx, h4, Nat.lt_of_lt_of_le h.lt (Nat.le_trans h.le h2), h3⟩
attribute [local go_sem] mk_121 conv_121
set_option maxRecDepth 100000 in
set_option maxHeartbeats 4000000 in
theorem none_walk (w : World) : Calls Try.prog 3 #[] w fun e w' => e = .returned (.bool true) ∧ Below w.heap.size w w' := by
  obtain ⟨i0, hi0, hz0, hz1, hz2⟩ := info_parts info24
  have H4 := Lib.hid (show ∀ W, Sx w W → Calls Try.prog 4 #[.pointer none, .int .i64 0, .agg #[.string { data := #[102] }, .int .i64 1]] W fun e w' => e = .returned (.tuple #[.int .i64 0, .int .i64 2]) ∧ Sx w w' from fun W h => (push_nil (⟨#[102]⟩, 1) W).mono fun e w' h' => ⟨h'.1, h.more h'.2⟩)
  have H6 := Lib.hid (fun W (h : Sx w W) => (stack_nil W).mono fun e w' h' => (⟨h'.1, h.more h'.2⟩ : e = .returned (.tuple #[.slice none 0 0, .int .i64 2]) ∧ Sx w w'))
  have hS := sx_new w
  go_enter Try.func3, Try.ntmps3
  go_wp2_with (first
    | (go_at_call 4; (with_reducible refine (H4.out _ hS).mono ?_); rintro e w4 ⟨rfl, s4⟩)
    | (go_at_call 5; (with_reducible refine (add_nil _).mono ?_); rintro e w5 ⟨rfl, rfl⟩)
    | (go_at_call 6; (with_reducible refine (H6.out _ s4).mono ?_); rintro e w6 ⟨rfl, s6⟩)
    | (go_at_call 7; (with_reducible refine (meet_nil _).mono ?_); rintro e w7 ⟨rfl, rfl⟩)
    | (go_at_call 8; (with_reducible refine (parent_nil _).mono ?_); rintro e w8 ⟨rfl, rfl⟩)
    | (go_at_call 9; (with_reducible refine (len_nil _).mono ?_); rintro e w9 ⟨rfl, rfl⟩)
    | (go_at_call 10; (with_reducible refine (depth_nil _).mono ?_); rintro e w10 ⟨rfl, rfl⟩)
    | (go_at_call 11; (with_reducible refine (told_nil _).mono ?_); rintro e w11 ⟨rfl, rfl⟩))
  clear H4 H6
  have HS6 := Lib.hid s6
  go_loopw [13, 14] (fun v t wr => ∃ k : Nat, t = .int .i64 k ∧ k ≤ 65 ∧ wr.ownsRow w6.heap.size 24 2 v k (flat (fl k)) ∧ Below w6.heap.size w6 wr) (fun _ t _ => 65 - (intOf t).toNat)
  case atStart => exact ⟨0, rfl, by omega, World.ownsRow_nil _ _ _ _, Below.refl _ _⟩
  case round =>
    obtain ⟨k, rfl, hk, hown, hB⟩ := hrel
    by_cases hlt : k < 65
    · have hz := hB.size
      have hk0 : (0 : Int) ≤ (k : Int) := Int.natCast_nonneg _
      have hk1 : (k : Int) < 65 := by omega
      have hw1 : IntKind.i64.wrap (1048576 - (k : Int)) = 1048576 - (k : Int) := IntWalk.i64_in _ (by omega)
      have HS := Lib.hid (fl_succ k)
      go_wp2_with (at_builtin; refine wpList_append_lies _ rfl _ _ _ rfl w6.heap.size 24 i0 _ 2 24 Try.underlying29 hi0 hz0 hz1 hz2 rfl (by omega) u13 k (flat (fl k)) rfl (hown.alloc _) ⟨wr.heap.size, 0, none⟩ 1 1 (cel (pf k)) rfl rfl (World.news_of_block (cs := #[.string { data := #[102] }, .int .i64 (1048576 - (k : Int))]) (t := 24) (fr := (0, 0)) (heap_alloc_new wr _)) (by simp [cel, Value.oneCell']) (by omega) (by unfold maxLen; omega) (by omega) (by simp; omega) (wr.heap.size + 1) (by simp) ?_; intro gg cap' w1 hown1 hgrow hat hlt1)
      go_roundw
      case rel => exact ⟨k + 1, by go_num, by omega, by rw [HS.out, flat_snoc]; exact hown1, Below.grown ((hB.alloc hz _)) hgrow (by simp; omega) (fun j hj => (hown.lt j hj).1)⟩
      case measure => simp [intOf]; omega
    · have hk6 : k = 65 := by omega
      subst hk6
      obtain ⟨g, cap, cur, rfl, hbg, hgc, hncap, hcapm, hcur, htk⟩ : ∃ g cap cur, u13 = .slice (some ⟨g, 0, none⟩) 65 cap ∧ w6.heap.size ≤ g ∧ wr.heap[g]? = some (.cells cur 24 (0, 0)) ∧ 65 ≤ cap ∧ cap ≤ maxLen ∧ cur.size = cap * 2 ∧ cur.toList.take (65 * 2) = flat (fl 65) := by
        rcases hown.2 with ⟨_, h⟩ | h
        · cases h
        · exact h
      have hS9 := HS6.out.more hB
      clear hB hS s4 s6 hlt hk
      have hadd : ∀ (k : Nat) (W : World), k < 120 → (binOp .add 9 (.string (nm k)) (.string { data := #[126] })).run Try.prog W = .ok (.string (nm (k + 1))) W := fun k W hk => by
        rw [← nm_succ k]
        have : (nm k).size = k := nm_size k
        exact add_str W _ _ (by omega) (by decide)
      go_wp2_with fail
      generalize hV1 : wr.alloc (.cells zrow 5) = V1 at *
      have hbV : Below wr.heap.size wr V1 := by rw [← hV1]; exact (Below.refl _ wr).alloc (Nat.le_refl _) _
      clear hV1
      go_loopw [16] (fun t Wr => ∃ k : Nat, t = .string (nm k) ∧ k ≤ 120 ∧ Wr = V1) (fun t _ => 120 - (match t with | .string s => s.size | _ => 0))
      case atStart => exact ⟨0, rfl, by omega, rfl⟩
      case round =>
        obtain ⟨k, rfl, hk, rfl⟩ := hrel
        have hsz := nm_size k
        by_cases hlt : k < 120
        · have h1 : ((nm k).size : Int) < 120 := by omega
          have ha := fun W => hadd k W hlt
          clear hadd
          go_wp2_with fail
          go_roundw
          case rel => exact ⟨k + 1, by rw [nm_succ], by omega, trivial⟩
          case measure => rw [nm_succ]; simp only [nm_size]; omega
        · obtain rfl : k = 120 := by omega
          have h1 : ¬ ((nm 120).size : Int) < 120 := by omega
          have hR := Rx.mk (g := g) (cap := cap) (hS9.more hbV) (own_below hown hbV)
          have HR := Lib.hid hR
          have K2 := Lib.hid (fun W (h : Rx w w6.heap.size g cap W) => Rx.check64 h)
          have K3 := Lib.hid (fun W (h : Rx w w6.heap.size g cap W) => Rx.check1 (bts zs) 0 30 (chk_one (bad_long _ _ (by rw [bts_size, zs_len]; omega))) h)
          have K4 := Lib.hid (fun W (h : Rx w w6.heap.size g cap W) => Rx.check1 (nm 120) 0 0 (chk_one_ok (nm_may 120 (by omega) (by omega))) h)
          have K5 := Lib.hid (fun W (h : Rx w w6.heap.size g cap W) => Rx.check1 (nm 120 ++ ⟨#[126]⟩) 0 30 (chk_one (bad_long _ _ (by rw [nm_succ, nm_size]; omega))) h)
          have K6 := Lib.hid (fun W (h : Rx w w6.heap.size g cap W) => Rx.check1 ⟨#[102]⟩ 1048577 30 (chk_one (bad_line _ _ (by omega))) h)
          have K7 := Lib.hid (fun W (h : Rx w w6.heap.size g cap W) => Rx.check1 ⟨#[102]⟩ (-1) 30 (chk_one (bad_line _ _ (by omega))) h)
          clear hR hown hS9 hbV hgc hcur htk
          have hc1 : (64 : Nat) ≤ cap := by omega
          have hc2 : (64 : Int) ≤ (cap : Int) := by omega
          go_wp2_with (first
            | (go_at_call 12; (with_reducible refine (Rx.check65 HR.out).mono ?_); rintro e V1 ⟨rfl, r1⟩)
            | (go_at_call 12; (with_reducible refine (K2.out _ r1).mono ?_); rintro e V2 ⟨rfl, r2⟩)
            | (go_at_call 12; (with_reducible refine (K3.out _ r2).mono ?_); rintro e V3 ⟨rfl, r3⟩)
            | (go_at_call 12; (with_reducible refine (K4.out _ r3).mono ?_); rintro e V4 ⟨rfl, r4⟩)
            | (go_at_call 12; (with_reducible refine (K5.out _ r4).mono ?_); rintro e V5 ⟨rfl, r5⟩)
            | (go_at_call 12; (with_reducible refine (K6.out _ r5).mono ?_); rintro e V6 ⟨rfl, r6⟩)
            | (go_at_call 12; (with_reducible refine (K7.out _ r6).mono ?_); rintro e V7 ⟨rfl, r7⟩)
            | (go_at_call 13; (with_reducible refine (Rx.new r7 (by have := r7.sx.below.size; exact World.block_lt_of_cell? _ _ r7.sx.p0)).mono ?_); rintro e V8 ⟨a, rfl, t8, r8⟩)
            | (go_at_call 5; (with_reducible refine (Tx.add t8 r8).mono ?_); rintro e V9 ⟨rfl, t9⟩; have p0 := t9.sx.p0; have p1 := t9.sx.p1))
          clear K2 K3 K4 K5 K6 K7 HR
          go_wp2_with (first
            | (go_at_call 4; (with_reducible refine (Tx.deep t9).mono ?_); rintro e X1 ⟨rfl, t10⟩; have q0 := t10.sx.p0; have q1 := t10.sx.p1)
            | (go_at_call 4; (with_reducible refine (Tx.no t10).mono ?_); rintro e X2 ⟨rfl, t11⟩)
            | (go_at_call 9; (with_reducible refine (Tx.len65 t11).mono ?_); rintro e X3 ⟨rfl, rfl⟩))
          have T0 : Tx w V7.heap.size a (trN 0) X2 := by rw [tr_zero]; exact t11
          clear t8 t9 t10 t11 r1 r2 r3 r4 r5 r6 r7 r8
          go_loopw [24] (fun t Wr => ∃ k : Nat, t = .int .i64 (k : Int) ∧ k ≤ 4031 ∧ Tx w V7.heap.size a (trN k) Wr) (fun t _ => 4031 - (intOf t).toNat)
          case atStart => exact ⟨0, rfl, by omega, T0⟩
          case round =>
            obtain ⟨k, rfl, hk, hT⟩ := hrel
            by_cases hlt : k < 4031
            · have hk0 : (0 : Int) ≤ (k : Int) := by omega
              have hk1 : (k : Int) < 4031 := by omega
              have hw1 : IntKind.i64.wrap (65 + (k : Int)) = 65 + (k : Int) := IntWalk.i64_in _ (by omega)
              have hcs : ((k + 65 : Nat) : Int) = 65 + (k : Int) := by omega
              go_wp2_with (go_at_call 4; (with_reducible refine (Tx.push hT hlt).mono ?_); rintro e Y1 ⟨rfl, u1⟩; rw [hcs])
              go_roundw
              case rel => exact ⟨k + 1, by go_num, by omega, u1⟩
              case measure => simp [intOf]; omega
            · obtain rfl : k = 4031 := by omega
              have p0 := hT.sx.p0
              have p1 := hT.sx.p1
              go_wp2_with (first
                | (go_at_call 4; (with_reducible refine (Tx.full hT).mono ?_); rintro e Y1 ⟨rfl, u1⟩)
                | (go_at_call 4; (with_reducible refine (Tx.old u1).mono ?_); rintro e Y2 ⟨rfl, u2⟩)
                | (go_at_call 11; (with_reducible refine (Tx.toldT u2).mono ?_); rintro e Y3 ⟨rfl, u3⟩)
                | (go_at_call 14; (with_reducible refine (Tx.fromT u3).mono ?_); rintro e Y4 ⟨lo2, u, rfl, u4, u5⟩)
                | (go_at_call 9; (with_reducible refine (Tx.len4096 u4).mono ?_); rintro e Y5 ⟨rfl, rfl⟩)
                | (go_at_call 9; (with_reducible refine (Tx.len4096 u5).mono ?_); rintro e Y6 ⟨rfl, rfl⟩))
              go_ret
              exact ⟨rfl, u4.sx.below⟩
end Go.Proofs.Ytfhnhilnjcfpkaa
