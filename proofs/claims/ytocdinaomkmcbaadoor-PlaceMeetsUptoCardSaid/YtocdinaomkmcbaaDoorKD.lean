/-
  PlaceMeets returns true for any lists of lists of places, where what it reads is of bulk at most 1048576: of the first 20 the places that may be that are made of them go into one tree, each twice at one node; told and read again the tree tells them all; where two meet is what they have alike; the lists read afterwards as they did.
  Conditions: the bound on the bulk; the variables of the library hold what their initialisers lay (the card ties them to the program's text).
-/
import Derived.Test.YtocdinaomkmcbaaDoorZ
import Derived.Test.YtocdinaomkmcbaaDoorKC
namespace Go.Proofs.YtocdinaomkmcbaaDoor.placeMeets
open Go.ChangeShapes Go.WideShapes Go.ChangeAt Go.RowKit Go.Shelf
open Go.ChangeMaps (open_string)
set_option linter.unusedVariables false

open Go.Deep (open_slice_pairs choose_lt)
open Go.Deep (open_slice1)
set_option maxRecDepth 100000 in
theorem spots_trod2 {H : Type} {enc : TypeId × Value → H} {W : World} {sp : Nat → Bool} {fuel : Nat} {v : Value} {d : DataW H} {p : List MemPlace} (hf : DataW.trod enc Tryd.prog W 0 sp true fuel 22 [v] = some (d, p)) :
    ∃ (A : Option Addr) (cap : Nat) (l : List Pl), v = .slice A l.length cap ∧ At W A l ∧ ((d = .nil ∧ l = []) ∨ ∃ elems spare, d = .slice elems spare ∧ elems.length = l.length) ∧ ∀ q ∈ l, q.1.size ≤ maxLen := by
  rcases open_slice_pairs Tryd.underlying22 Tryd.underlying104 cells104 rfl rfl cells9 cells3 hf with ⟨hc, hx⟩ | ⟨a', len, cap, m, n, V0, V1, D0, D1, P0, P1, hc, _, hl, hm, hmm, hx, hall⟩
  · obtain rfl : v = .slice none 0 0 := by simpa using hc
    simp only [Prod.mk.injEq] at hx
    exact ⟨none, 0, [], rfl, fun i p hp => by simp at hp, .inl ⟨hx.1, rfl⟩, fun q hq => by simp at hq⟩
  · obtain rfl : v = .slice (some a') len cap := by simpa using hc
    simp only [Prod.mk.injEq] at hx
    obtain ⟨rfl, rfl⟩ := hx
    have hlm : len ≤ m := by rw [hmm]; split <;> omega
    have each : ∀ i, i < len → ∃ q : Pl, V0 i = .string q.1 ∧ V1 i = .int .i64 q.2 ∧ q.1.size ≤ maxLen := fun i hi => by
      obtain ⟨_, _, t0, t1⟩ := hall i (by omega)
      obtain ⟨s, e1, e2, e9⟩ := DataW.trod_string Tryd.underlying9 t0
      obtain ⟨k, e3, e4, _⟩ := DataW.trod_int Tryd.underlying3 t1
      exact ⟨(s, k), by simpa using e1, by simpa using e3, e9⟩
    haveI : Inhabited Pl := ⟨(⟨#[]⟩, 0)⟩
    obtain ⟨q, hq⟩ := choose_lt each
    have hlen : ((List.range len).map q).length = len := by simp
    refine ⟨some a', cap, (List.range len).map q, by rw [hlen], fun i p hp => ?_, .inr ⟨_, _, rfl, by simp⟩, fun q' hq' => ?_⟩
    · have hi : i < len := by have := (List.getElem?_eq_some_iff.1 hp).1; rwa [hlen] at this
      rw [List.getElem?_map, List.getElem?_range hi] at hp
      obtain rfl : q i = p := by simpa using hp
      obtain ⟨c0, c1, _⟩ := hall i (by omega)
      obtain ⟨q0, q1, _⟩ := hq i hi
      rw [q0] at c0
      rw [q1] at c1
      obtain ⟨g, o, rfl⟩ := add_cell (hall 0 (by omega)).1
      rw [Addr.add_lit] at c0 c1
      exact ⟨g, o, rfl, c0, by rw [Nat.add_assoc]; exact c1⟩
    · obtain ⟨i, hi, rfl⟩ := List.mem_map.1 hq'
      exact (hq i (List.mem_range.1 hi)).2.2
theorem cells22x : Tryd.prog.cellsOf 22 = 1 := by kernel_rfl
/-- A list of lists of places, opened. -/
def AtL0 (w : World) (A : Option Addr) (ls : List (List Pl)) : Prop := ∀ (i : Nat) (l : List Pl), ls[i]? = some l → ∃ g o Ai ci, A = some ⟨g, o, none⟩ ∧ w.cell? ⟨g, o + i, none⟩ = some (.slice Ai l.length ci) ∧ At w Ai l ∧ ∀ p ∈ l, p.1.size ≤ maxLen
set_option maxRecDepth 100000 in
theorem open_lists {H : Type} {enc : TypeId × Value → H} {W : World} {base : Nat} {sp : Nat → Bool} {v : Value} {d : DataW H} {p : List MemPlace} (hok : Value.okWide Tryd.prog W .any base 80 v) (h : DataW.Trod enc Tryd.prog W 0 sp true 80 v d p) :
    ∃ (A : Option Addr) (cap : Nat) (ls : List (List Pl)), v = .slice A ls.length cap ∧ AtL0 W A ls ∧ ((d = .nil ∧ ls = []) ∨ ∃ elems spare, d = .slice elems spare ∧ ∀ l ∈ ls, l = [] ∨ ∃ e' sp', DataW.slice e' sp' ∈ elems ∧ e'.length = l.length) := by
  obtain ⟨a, len, cap, rfl⟩ := okWide_slice Tryd.underlying80 hok
  obtain ⟨fuel, hf⟩ := h
  have hcs : (Value.slice a len cap).cells.toList = [.slice a len cap] := rfl
  rw [hcs] at hf
  clear hcs
  rcases open_slice1 Tryd.underlying80 cells22x hf with ⟨hc, hx⟩ | ⟨a', len', cap', m, n, V, D, P0, hc, _, hl, hm, hmm, hx, hall⟩
  · simp only [List.cons.injEq, Value.slice.injEq, and_true] at hc
    obtain ⟨rfl, rfl, rfl⟩ := hc
    simp only [Prod.mk.injEq] at hx
    exact ⟨none, 0, [], rfl, fun i p hp => by simp at hp, .inl ⟨hx.1, rfl⟩⟩
  · simp only [List.cons.injEq, Value.slice.injEq, and_true] at hc
    obtain ⟨rfl, rfl, rfl⟩ := hc
    simp only [Prod.mk.injEq] at hx
    obtain ⟨rfl, rfl⟩ := hx
    have hlm : len ≤ m := by rw [hmm]; split <;> omega
    have each : ∀ i, i < len → ∃ l : List Pl, ∃ Ai ci, V i = .slice Ai l.length ci ∧ At W Ai l ∧ ((D i = .nil ∧ l = []) ∨ ∃ e' sp', D i = .slice e' sp' ∧ e'.length = l.length) ∧ ∀ q ∈ l, q.1.size ≤ maxLen := fun i hi => by
      obtain ⟨_, t0⟩ := hall i (by omega)
      obtain ⟨Ai, ci, l, e1, ha, hd, hs⟩ := spots_trod2 t0
      exact ⟨l, Ai, ci, e1, ha, hd, hs⟩
    haveI : Inhabited (List Pl) := ⟨[]⟩
    obtain ⟨q, hq⟩ := choose_lt each
    have hlen : ((List.range len).map q).length = len := by simp
    refine ⟨some a', cap, (List.range len).map q, by rw [hlen], fun i p hp => ?_, .inr ⟨_, _, rfl, fun r hr => ?_⟩⟩
    · have hi : i < len := by have := (List.getElem?_eq_some_iff.1 hp).1; rwa [hlen] at this
      rw [List.getElem?_map, List.getElem?_range hi] at hp
      obtain rfl : q i = p := by simpa using hp
      obtain ⟨c0, _⟩ := hall i (by omega)
      obtain ⟨Ai, ci, q0, ha, _, hs⟩ := hq i hi
      rw [q0] at c0
      obtain ⟨g, o, rfl⟩ := add_cell (hall 0 (by omega)).1
      rw [Addr.add_lit] at c0
      exact ⟨g, o, Ai, ci, rfl, c0, ha, hs⟩
    · obtain ⟨i, hi, rfl⟩ := List.mem_map.1 hr
      obtain ⟨Ai, ci, q0, ha, hd, _⟩ := hq i (List.mem_range.1 hi)
      rcases hd with ⟨_, h0⟩ | ⟨e', sp', h1, h2⟩
      · exact .inl h0
      · exact .inr ⟨e', sp', List.mem_map.2 ⟨i, List.mem_range.2 (List.mem_range.1 hi), h1⟩, h2⟩
theorem weightsAll_mem {H : Type} {P : Program} {e : TypeId} : ∀ {l : List (DataW H)} {d : DataW H}, d ∈ l → ∀ n ∈ d.weights P e, n ∈ DataW.weightsAll P e l
  | d' :: r, d, hd, n, hn => by
    simp only [DataW.weightsAll, List.mem_append]
    rcases List.mem_cons.1 hd with rfl | h
    · exact Or.inl hn
    · exact Or.inr (weightsAll_mem h n hn)
theorem reach_runs {k n : Nat} (h : (k + n) * 32 ≤ reachBytes) : k ≤ 4398046510976 := by rw [reach_is] at h; omega
/-- The reach, of a list inside a list of runs. -/
theorem sized_list {H : Type} {ts : List TypeId} {ds : List (DataW H)} (h : (DataW.weightsEach Tryd.prog ts ds).all (· ≤ reachBytes) = true) {j : Nat} {elems spare e' sp' : List (DataW H)}
    (ht : ts[j]? = some 80) (hd : ds[j]? = some (.slice elems spare)) (hx : DataW.slice e' sp' ∈ elems) : (e'.length + sp'.length) * 24 ≤ reachBytes := by
  refine of_decide_eq_true (List.all_eq_true.1 h _ (DataW.weights_mem_each ht hd _ ?_))
  simp only [DataW.weights, Tryd.underlying80, List.mem_cons, List.mem_append]
  refine Or.inr (Or.inl (weightsAll_mem hx _ ?_))
  simp [DataW.weights, Tryd.underlying22, bytes104]

theorem witness_row (os : Os) {H : Type} (enc : TypeId × Value → H) :
    (Rows.OpenSpec.upto Rows.placeMeetsSpec).preRow enc Tryd.prog Tryd.f9 Rows.placeMeetsUptoRow.domain false Rows.placeMeetsUptoRow.laid ((laidWorld os).forCall (fun _ _ => 0) ⟨#[], #[.slice none 0 0], []⟩).memory #[.slice none 0 0] := by
  have hw : (DataW.whole enc Tryd.prog ((laidWorld os).forCall (fun _ _ => 0) ⟨#[], #[.slice none 0 0], []⟩).memory Tryd.f9.params.toList Rows.placeMeetsSpec.vars false #[Value.slice none 0 0].toList 8).map (fun x => (x.1, x.2.1)) =
      some ([.nil], []) := by kernel_rfl
  obtain ⟨⟨x1, x2, x3⟩, hx, hx1⟩ := Option.map_eq_some_iff.1 hw
  simp only [Prod.mk.injEq] at hx1
  obtain ⟨rfl, rfl⟩ := hx1
  exact OpenSpec.preRow_of_cond 8 hx (by kernel_rfl) (fun k hk => by cases hk; kernel_rfl) (by kernel_rfl) (laid_met os _)

set_option maxRecDepth 100000 in
theorem contract (H : Type) (enc : TypeId × Value → H) (W : World) (base : Nat) (args : Array Value) (ds gs : List (DataW H)) (before : List MemPlace)
    (hval : ∀ (j : Nat) t v, Tryd.f9.params[j]? = some t → args[j]? = some v → Value.okWide Tryd.prog W .any base t v)
    (hW : DataW.Whole enc Tryd.prog Tryd.f9.params.toList Rows.placeMeetsSpec.vars false W args.toList ds gs before) (hL : laidMetH Tryd.prog Rows.placeTrimsRow.laid W)
    (hb : Rows.uptoSmall H (ds ++ gs) = true)
    (hsz : (DataW.weightsEach Tryd.prog (Tryd.f9.params.toList ++ []) (ds ++ gs)).all (· ≤ reachBytes) = true) (hsh : W.ShapedOpen Tryd.prog) :
    Calls Tryd.prog 9 args W fun e W' => ∃ v, e = .returned v ∧ Rows.placeMeetsSpec.post enc Tryd.prog Tryd.f9 false true false false W args v W' := by
  have hW' := hW
  obtain ⟨p, q, hA0, hV, rfl, hfz, hnd⟩ := hW
  have hA : DataW.TrodAll enc Tryd.prog W 0 (fun _ => true) true Tryd.f9.params.toList args.toList ds p := hA0
  have hA1 := hA
  rw [Tryd.params9] at hA hval
  obtain ⟨v0, vs0, d0, ds0, p0, q0, hargs, rfl, rfl, h0, r0⟩ := trodAll_cons hA
  obtain ⟨rfl, rfl, rfl⟩ := trodAll_nil r0
  obtain rfl : args = #[v0] := by cases args; simp_all
  obtain ⟨rfl, rfl⟩ := trodVars_none hV
  obtain ⟨hE, h3⟩ := env hL hsh
  obtain ⟨A, ca, ls, rfl, a0, o0⟩ := open_lists (hval 0 80 v0 rfl rfl) h0
  have hat : AtL W A ls := fun i l hl => by
    obtain ⟨g, o, Ai, ci, x1, x2, x3, x4⟩ := a0 i l hl
    refine ⟨g, o, Ai, ci, x1, x2, x3, ?_, x4⟩
    rcases o0 with ⟨_, h⟩ | ⟨elems, spare, rfl, hall⟩
    · subst h; simp at hl
    · rcases hall l (List.mem_of_getElem? hl) with h | ⟨e', sp', h1, h2⟩
      · subst h; simp
      · have := sized_list hsz (j := 0) rfl rfl h1
        rw [h2] at this
        exact reach_spots this
  have hlt : ∀ x ∈ p0 ++ [], x.block < W.heap.size := fun x hx => by simpa using hW'.lt x (by simpa using hx)
  refine (meets_any A ca ls W hat hE h3).mono fun e W' ⟨he, hb⟩ => ?_
  subst he
  refine ⟨_, rfl, _, _, _, [], p0 ++ [], [], hW', ?_, ?_, ?_, hb.frame _, fun h => by cases h⟩
  · exact trodAll_cons_mk (shut_bool Tryd.underlying4 _) trodAll_mk0
  · exact args_same hb _ _ _ _ hA1 (by kernel_rfl) hlt
  · rfl

set_option maxRecDepth 100000 in
theorem lifted (os : Os) (started : os.Started) (H : Type) (enc : TypeId × Value → H) (F : Stop.Interp) :
    ReturnsInHanded {} Tryd.checked os 9 .any ((Rows.OpenSpec.upto Rows.placeMeetsSpec).preRow enc Tryd.prog Tryd.f9 Rows.placeMeetsUptoRow.domain false Rows.placeMeetsUptoRow.laid) (((Rows.OpenSpec.upto Rows.placeMeetsSpec).at F).post enc Tryd.prog Tryd.f9 false true false false) := by
  refine returnsInHanded_of_row (C := Tryd.checked) (s := Rows.OpenSpec.upto Rows.placeMeetsSpec) own started (by kernel_rfl) Tryd.func9
    (witness_row_atRef (enc := enc) (C := Tryd.checked) false (laidWorld os) #[.slice none 0 0] rfl (by kernel_rfl) (by kernel_rfl) (by kernel_rfl) (witness_row os enc)) ?_
  intro W base args ds gs before hval hW _ hcond hsz hL hsh _
  exact contract H enc W base args ds gs before hval hW hL (hcond _ rfl) hsz hsh

theorem said : Rows.PlaceMeetsUptoSaid :=
  OpenClaim.holds_of_cond 9 Tryd.f9 rfl rfl rfl rfl rfl rfl rfl ⟨rfl, rfl, rfl, rfl, rfl⟩ rfl rfl rfl rfl rfl (by kernel_rfl) Tryd.func9 (by kernel_rfl)
    (of_decide_eq_true (by kernel_rfl)) (by unfold Func.isWrapper; first | (rw [if_pos (by decide +kernel)]; kernel_rfl) | (rw [if_neg (by decide +kernel)]; exact ⟨rfl, rfl⟩))
    (fun os started H enc _ F => by rw [OpenClaim.pre_eq_preRow]; exact lifted os started H enc F)

/-- The statement. -/
theorem proved : Rows.PlaceMeetsUptoCardSaid :=
  Claim7.holds_tied_plain_at .later [] _ _ _ _ said (fun _ h => by cases h) (by kernel_rfl) (fun _ h => by cases h) placeMeetsUpto_row_tie rfl ⟨rfl, rfl⟩ (by kernel_rfl) rfl (plain_of (g := 9) (fg := Tryd.f9) (by kernel_rfl) Tryd.func9 (by kernel_rfl)) (by kernel_rfl)
#print axioms proved
end Go.Proofs.YtocdinaomkmcbaaDoor.placeMeets
