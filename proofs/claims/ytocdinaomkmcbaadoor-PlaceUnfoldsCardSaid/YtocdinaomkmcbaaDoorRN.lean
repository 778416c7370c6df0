/-
  PlaceUnfolds returns true for every list of runs, and the list reads afterwards as it did.
  Conditions: none but the form's own reach; the variables of the library hold what their initialisers lay (the card ties them to the program's text).
-/
import Derived.Test.YtocdinaomkmcbaaDoorZ
import Derived.Test.YtocdinaomkmcbaaDoorUC
namespace Go.Proofs.YtocdinaomkmcbaaDoor.placeUnfolds
open Go.ChangeShapes Go.WideShapes Go.ChangeAt Go.RowKit Go.Shelf
open Go.Deep (open_slice_pairs choose_lt)
set_option linter.unusedVariables false

theorem cells22 : Tryd.prog.cellsOf 22 = 1 := by kernel_rfl
theorem cells62 : Tryd.prog.cellsOf 62 = 2 := by kernel_rfl
theorem bytes62 : Tryd.prog.bytesOf 62 = 32 := by kernel_rfl
theorem weightsAll_mem {H : Type} {P : Program} {e : TypeId} : ∀ {l : List (DataW H)} {d : DataW H}, d ∈ l → ∀ n ∈ d.weights P e, n ∈ DataW.weightsAll P e l
  | d' :: r, d, hd, n, hn => by
    simp only [DataW.weightsAll, List.mem_append]
    rcases List.mem_cons.1 hd with rfl | h
    · exact Or.inl hn
    · exact Or.inr (weightsAll_mem h n hn)
theorem reach_runs {k n : Nat} (h : (k + n) * 32 ≤ reachBytes) : k ≤ 4398046510976 := by rw [reach_is] at h; omega
/-- The reach, of a list inside a list of runs. -/
theorem sized_run {H : Type} {ts : List TypeId} {ds : List (DataW H)} (h : (DataW.weightsEach Tryd.prog ts ds).all (· ≤ reachBytes) = true) {j : Nat} {elems spare e' sp' : List (DataW H)} {q : DataW H}
    (ht : ts[j]? = some 60) (hd : ds[j]? = some (.slice elems spare)) (hx : DataW.agg [.slice e' sp', q] ∈ elems) : (e'.length + sp'.length) * 24 ≤ reachBytes := by
  refine of_decide_eq_true (List.all_eq_true.1 h _ (DataW.weights_mem_each ht hd _ ?_))
  simp only [DataW.weights, Tryd.underlying60, List.mem_cons, List.mem_append]
  refine Or.inr (Or.inl (weightsAll_mem hx _ ?_))
  simp only [DataW.weights, Tryd.underlying62, List.map_cons, DataW.weightsEach, Tryd.underlying22, bytes104]
  simp

set_option maxRecDepth 100000 in
theorem spots_trod {H : Type} {enc : TypeId × Value → H} {W : World} {sp : Nat → Bool} {fuel : Nat} {v : Value} {d : DataW H} {p : List MemPlace} (hf : DataW.trod enc Tryd.prog W 0 sp true fuel 22 [v] = some (d, p)) :
    ∃ (A : Option Addr) (cap : Nat) (l : List Pl), v = .slice A l.length cap ∧ At W A l ∧ ((d = .nil ∧ l = []) ∨ ∃ elems spare, d = .slice elems spare ∧ elems.length = l.length) := by
  rcases open_slice_pairs Tryd.underlying22 Tryd.underlying104 cells104 rfl rfl cells9 cells3 hf with ⟨hc, hx⟩ | ⟨a', len, cap, m, n, V0, V1, D0, D1, P0, P1, hc, _, hl, hm, hmm, hx, hall⟩
  · obtain rfl : v = .slice none 0 0 := by simpa using hc
    simp only [Prod.mk.injEq] at hx
    exact ⟨none, 0, [], rfl, fun i p hp => by simp at hp, .inl ⟨hx.1, rfl⟩⟩
  · obtain rfl : v = .slice (some a') len cap := by simpa using hc
    simp only [Prod.mk.injEq] at hx
    obtain ⟨rfl, rfl⟩ := hx
    have hlm : len ≤ m := by rw [hmm]; split <;> omega
    have each : ∀ i, i < len → ∃ q : Pl, V0 i = .string q.1 ∧ V1 i = .int .i64 q.2 := fun i hi => by
      obtain ⟨_, _, t0, t1⟩ := hall i (by omega)
      obtain ⟨s, e1, e2, _⟩ := DataW.trod_string Tryd.underlying9 t0
      obtain ⟨k, e3, e4, _⟩ := DataW.trod_int Tryd.underlying3 t1
      exact ⟨(s, k), by simpa using e1, by simpa using e3⟩
    haveI : Inhabited Pl := ⟨(⟨#[]⟩, 0)⟩
    obtain ⟨q, hq⟩ := choose_lt each
    have hlen : ((List.range len).map q).length = len := by simp
    refine ⟨some a', cap, (List.range len).map q, by rw [hlen], fun i p hp => ?_, .inr ⟨_, _, rfl, by simp⟩⟩
    have hi : i < len := by have := (List.getElem?_eq_some_iff.1 hp).1; rwa [hlen] at this
    rw [List.getElem?_map, List.getElem?_range hi] at hp
    obtain rfl : q i = p := by simpa using hp
    obtain ⟨c0, c1, _⟩ := hall i (by omega)
    obtain ⟨q0, q1⟩ := hq i hi
    rw [q0] at c0
    rw [q1] at c1
    obtain ⟨g, o, rfl⟩ := add_cell (hall 0 (by omega)).1
    rw [Addr.add_lit] at c0 c1
    exact ⟨g, o, rfl, c0, by rw [Nat.add_assoc]; exact c1⟩
set_option maxRecDepth 100000 in
theorem open_runs {H : Type} {enc : TypeId × Value → H} {W : World} {base : Nat} {sp : Nat → Bool} {v : Value} {d : DataW H} {p : List MemPlace} (hok : Value.okWide Tryd.prog W .any base 60 v) (h : DataW.Trod enc Tryd.prog W 0 sp true 60 v d p) :
    ∃ (A : Option Addr) (cap : Nat) (l : List Rn), v = .slice A l.length cap ∧ AtR W A l ∧ ((d = .nil ∧ l = []) ∨ ∃ elems spare, d = .slice elems spare ∧ elems.length = l.length ∧ ∀ r ∈ l, r.1 = [] ∨ ∃ e' sp' q, DataW.agg [.slice e' sp', q] ∈ elems ∧ e'.length = r.1.length) := by
  obtain ⟨a, len, cap, rfl⟩ := okWide_slice Tryd.underlying60 hok
  obtain ⟨fuel, hf⟩ := h
  have hcs : (Value.slice a len cap).cells.toList = [.slice a len cap] := rfl
  rw [hcs] at hf
  clear hcs
  rcases open_slice_pairs Tryd.underlying60 Tryd.underlying62 cells62 rfl rfl cells22 cells3 hf with ⟨hc, hx⟩ | ⟨a', len', cap', m, n, V0, V1, D0, D1, P0, P1, hc, _, hl, hm, hmm, hx, hall⟩
  · simp only [List.cons.injEq, Value.slice.injEq, and_true] at hc
    obtain ⟨rfl, rfl, rfl⟩ := hc
    simp only [Prod.mk.injEq] at hx
    exact ⟨none, 0, [], rfl, fun i p hp => by simp at hp, .inl ⟨hx.1, rfl⟩⟩
  · simp only [List.cons.injEq, Value.slice.injEq, and_true] at hc
    obtain ⟨rfl, rfl, rfl⟩ := hc
    simp only [Prod.mk.injEq] at hx
    obtain ⟨rfl, rfl⟩ := hx
    have hlm : len ≤ m := by rw [hmm]; split <;> omega
    have each : ∀ i, i < len → ∃ q : Rn, ∃ Ai ci, V0 i = .slice Ai q.1.length ci ∧ V1 i = .int .i64 q.2 ∧ At W Ai q.1 ∧ ((D0 i = .nil ∧ q.1 = []) ∨ ∃ e' sp', D0 i = .slice e' sp' ∧ e'.length = q.1.length) := fun i hi => by
      obtain ⟨_, _, t0, t1⟩ := hall i (by omega)
      obtain ⟨Ai, ci, l, e1, ha, hd⟩ := spots_trod t0
      obtain ⟨k, e3, e4, _⟩ := DataW.trod_int Tryd.underlying3 t1
      exact ⟨(l, k), Ai, ci, e1, by simpa using e3, ha, hd⟩
    haveI : Inhabited Rn := ⟨([], 0)⟩
    obtain ⟨q, hq⟩ := choose_lt each
    have hlen : ((List.range len).map q).length = len := by simp
    refine ⟨some a', cap, (List.range len).map q, by rw [hlen], fun i p hp => ?_, .inr ⟨_, _, rfl, by simp, fun r hr => ?_⟩⟩
    · have hi : i < len := by have := (List.getElem?_eq_some_iff.1 hp).1; rwa [hlen] at this
      rw [List.getElem?_map, List.getElem?_range hi] at hp
      obtain rfl : q i = p := by simpa using hp
      obtain ⟨c0, c1, _⟩ := hall i (by omega)
      obtain ⟨Ai, ci, q0, q1, ha, _⟩ := hq i hi
      rw [q0] at c0
      rw [q1] at c1
      obtain ⟨g, o, rfl⟩ := add_cell (hall 0 (by omega)).1
      rw [Addr.add_lit] at c0 c1
      exact ⟨g, o, Ai, ci, rfl, c0, by rw [Nat.add_assoc]; exact c1, ha⟩
    · obtain ⟨i, hi, rfl⟩ := List.mem_map.1 hr
      obtain ⟨Ai, ci, q0, q1, ha, hd⟩ := hq i (List.mem_range.1 hi)
      rcases hd with ⟨_, h0⟩ | ⟨e', sp', h1, h2⟩
      · exact .inl h0
      · exact .inr ⟨e', sp', D1 i, List.mem_map.2 ⟨i, hi, by rw [h1]⟩, h2⟩

theorem witness_row (os : Os) {H : Type} (enc : TypeId × Value → H) :
    (OpenSpec.ofChange Rows.placeUnfoldsSpec).preRow enc Tryd.prog Tryd.f6 Rows.placeUnfoldsRow.domain false Rows.placeUnfoldsRow.laid ((laidWorld os).forCall (fun _ _ => 0) ⟨#[], #[.slice none 0 0], []⟩).memory #[.slice none 0 0] := by
  have hw : (DataW.whole enc Tryd.prog ((laidWorld os).forCall (fun _ _ => 0) ⟨#[], #[.slice none 0 0], []⟩).memory Tryd.f6.params.toList Rows.placeUnfoldsSpec.vars false #[Value.slice none 0 0].toList 8).map (fun x => (x.1, x.2.1)) =
      some ([.nil], []) := by kernel_rfl
  obtain ⟨⟨x1, x2, x3⟩, hx, hx1⟩ := Option.map_eq_some_iff.1 hw
  simp only [Prod.mk.injEq] at hx1
  obtain ⟨rfl, rfl⟩ := hx1
  exact OpenSpec.preRow_of_cond 8 hx (by kernel_rfl) (fun k hk => by cases hk) (by kernel_rfl) (laid_met os _)

set_option maxRecDepth 100000 in
theorem contract (H : Type) (enc : TypeId × Value → H) (W : World) (base : Nat) (args : Array Value) (ds gs : List (DataW H)) (before : List MemPlace)
    (hval : ∀ (j : Nat) t v, Tryd.f6.params[j]? = some t → args[j]? = some v → Value.okWide Tryd.prog W .any base t v)
    (hW : DataW.Whole enc Tryd.prog Tryd.f6.params.toList Rows.placeUnfoldsSpec.vars false W args.toList ds gs before) (hL : laidMetH Tryd.prog Rows.placeTrimsRow.laid W)
    (hsz : (DataW.weightsEach Tryd.prog (Tryd.f6.params.toList ++ []) (ds ++ gs)).all (· ≤ reachBytes) = true) (hsh : W.ShapedOpen Tryd.prog) :
    Calls Tryd.prog 6 args W fun e W' => ∃ v, e = .returned v ∧ Rows.placeUnfoldsSpec.post enc Tryd.prog Tryd.f6 false true false false W args v W' := by
  have hW' := hW
  obtain ⟨p, q, hA0, hV, rfl, hfz, hnd⟩ := hW
  have hA : DataW.TrodAll enc Tryd.prog W 0 (fun _ => true) true Tryd.f6.params.toList args.toList ds p := hA0
  have hA1 := hA
  rw [Tryd.params6] at hA hval
  obtain ⟨v0, vs0, d0, ds0, p0, q0, hargs, rfl, rfl, h0, r0⟩ := trodAll_cons hA
  obtain ⟨rfl, rfl, rfl⟩ := trodAll_nil r0
  obtain rfl : args = #[v0] := by cases args; simp_all
  obtain ⟨rfl, rfl⟩ := trodVars_none hV
  obtain ⟨hE, h3⟩ := env hL hsh
  obtain ⟨A, ca, l, rfl, a0, o0⟩ := open_runs (hval 0 60 v0 rfl rfl) h0
  have hn : l.length ≤ 4398046510976 := by
    rcases o0 with ⟨_, rfl⟩ | ⟨e, s, rfl, he, _⟩
    · simp
    · have := sized_slice hsz (j := 0) (t := 60) rfl rfl Tryd.underlying60
      rw [bytes62, he] at this
      exact reach_runs this
  have hm : ∀ r ∈ l, r.1.length ≤ 5864062014634 := by
    intro r hr
    rcases o0 with ⟨_, rfl⟩ | ⟨e, s, rfl, he, hall⟩
    · simp at hr
    · rcases hall r hr with h | ⟨e', sp', q, h1, h2⟩
      · rw [h]; simp
      · have := sized_run hsz (j := 0) rfl rfl h1
        rw [h2] at this
        exact reach_spots this
  have hlt : ∀ x ∈ p0 ++ [], x.block < W.heap.size := fun x hx => by simpa using hW'.lt x (by simpa using hx)
  refine (unfolds_any A ca l W a0 hn hm hE h3).mono fun e W' ⟨he, hb⟩ => ?_
  subst he
  refine ⟨_, rfl, _, _, _, [], p0 ++ [], [], hW', ?_, ?_, ?_, hb.frame _, fun h => by cases h⟩
  · exact trodAll_cons_mk (shut_bool Tryd.underlying4 _) trodAll_mk0
  · exact args_same hb _ _ _ _ hA1 (by kernel_rfl) hlt
  · rfl

set_option maxRecDepth 100000 in
theorem lifted (os : Os) (started : os.Started) (H : Type) (enc : TypeId × Value → H) (F : Stop.Interp) :
    ReturnsInHanded {} Tryd.checked os 6 .any ((OpenSpec.ofChange Rows.placeUnfoldsSpec).preRow enc Tryd.prog Tryd.f6 Rows.placeUnfoldsRow.domain false Rows.placeUnfoldsRow.laid) (((OpenSpec.ofChange Rows.placeUnfoldsSpec).at F).post enc Tryd.prog Tryd.f6 false true false false) := by
  refine returnsInHanded_of_row (C := Tryd.checked) (s := OpenSpec.ofChange Rows.placeUnfoldsSpec) own started (by kernel_rfl) Tryd.func6
    (witness_row_atRef (enc := enc) (C := Tryd.checked) false (laidWorld os) #[.slice none 0 0] rfl (by kernel_rfl) (by kernel_rfl) (by kernel_rfl) (witness_row os enc)) ?_
  intro W base args ds gs before hval hW _ _ hsz hL hsh _
  exact contract H enc W base args ds gs before hval hW hL hsz hsh

theorem said : Rows.PlaceUnfoldsSaid :=
  OpenClaim.holds_of_cond 6 Tryd.f6 rfl rfl rfl rfl rfl rfl rfl ⟨rfl, rfl, rfl, rfl, rfl⟩ rfl rfl rfl rfl rfl (by kernel_rfl) Tryd.func6 (by kernel_rfl)
    (of_decide_eq_true (by kernel_rfl)) (by unfold Func.isWrapper; first | (rw [if_pos (by decide +kernel)]; kernel_rfl) | (rw [if_neg (by decide +kernel)]; exact ⟨rfl, rfl⟩))
    (fun os started H enc _ F => by rw [OpenClaim.pre_eq_preRow]; exact lifted os started H enc F)

/-- The statement. -/
theorem proved : Rows.PlaceUnfoldsCardSaid :=
  Claim7.holds_tied_plain_at .later [] _ _ _ _ said (fun _ h => by cases h) (by kernel_rfl) (fun _ h => by cases h) placeUnfolds_row_tie rfl ⟨rfl, rfl⟩ (by kernel_rfl) rfl (plain_of (g := 6) (fg := Tryd.f6) (by kernel_rfl) Tryd.func6 (by kernel_rfl)) (by kernel_rfl)
#print axioms proved
end Go.Proofs.YtocdinaomkmcbaaDoor.placeUnfolds
