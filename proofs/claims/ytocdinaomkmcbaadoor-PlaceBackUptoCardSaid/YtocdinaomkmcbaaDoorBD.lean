/-
  PlaceBack returns true for any two lists of places, where what it reads is of bulk at most 1048576: of the places that may be that are made of them, the text is read as the stack, what is folded unfolds to it and has no more places, and unlike stacks have unlike texts; the lists read afterwards as they did.
  Conditions: the bound on the bulk; the variables of the library hold what their initialisers lay (the card ties them to the program's text).
-/
import Derived.Test.YtocdinaomkmcbaaDoorZ
import Derived.Test.YtocdinaomkmcbaaDoorBC
namespace Go.Proofs.YtocdinaomkmcbaaDoor.placeBack
open Go.ChangeShapes Go.WideShapes Go.ChangeAt Go.RowKit Go.Shelf
open Go.ChangeMaps (open_string)
set_option linter.unusedVariables false

open Go.Deep (open_slice_pairs choose_lt)
set_option maxRecDepth 100000 in
theorem open_spots2 {H : Type} {enc : TypeId × Value → H} {W : World} {base : Nat} {sp : Nat → Bool} {t : TypeId} {v : Value} {d : DataW H} {p : List MemPlace} (ht : Tryd.prog.underlying t = some (.slice 104)) (hok : Value.okWide Tryd.prog W .any base t v) (h : DataW.Trod enc Tryd.prog W 0 sp true t v d p) :
    ∃ (A : Option Addr) (cap : Nat) (l : List Pl), v = .slice A l.length cap ∧ At W A l ∧ ((d = .nil ∧ l = [] ∧ A = none ∧ cap = 0) ∨ ∃ elems spare, d = .slice elems spare ∧ elems.length = l.length ∧ l.length ≤ cap ∧ (∀ x ∈ elems, ∃ (s : List UInt8) (n : Int), x = .agg [.lit (.string s), .lit (.int .i64 n)])) ∧ ∀ q ∈ l, q.1.size ≤ maxLen := by
  obtain ⟨a, len, cap, rfl⟩ := okWide_slice ht hok
  obtain ⟨fuel, hf⟩ := h
  have hcs : (Value.slice a len cap).cells.toList = [.slice a len cap] := rfl
  rw [hcs] at hf
  clear hcs
  rcases open_slice_pairs ht Tryd.underlying104 cells104 rfl rfl cells9 cells3 hf with ⟨hc, hx⟩ | ⟨a', len', cap', m, n, V0, V1, D0, D1, P0, P1, hc, _, hl, hm, hmm, hx, hall⟩
  · simp only [List.cons.injEq, Value.slice.injEq, and_true] at hc
    obtain ⟨rfl, rfl, rfl⟩ := hc
    simp only [Prod.mk.injEq] at hx
    exact ⟨none, 0, [], rfl, fun i p hp => by simp at hp, .inl ⟨hx.1, rfl, rfl, rfl⟩, fun q hq => by simp at hq⟩
  · simp only [List.cons.injEq, Value.slice.injEq, and_true] at hc
    obtain ⟨rfl, rfl, rfl⟩ := hc
    simp only [Prod.mk.injEq] at hx
    obtain ⟨rfl, rfl⟩ := hx
    have hlm : len ≤ m := by rw [hmm]; split <;> omega
    have each : ∀ i, i < len → ∃ q : Pl, V0 i = .string q.1 ∧ V1 i = .int .i64 q.2 ∧ D0 i = .lit (.string q.1.data.toList) ∧ D1 i = .lit (.int .i64 q.2) ∧ q.1.size ≤ maxLen := fun i hi => by
      obtain ⟨_, _, t0, t1⟩ := hall i (by omega)
      obtain ⟨s, e1, e2, e9⟩ := DataW.trod_string Tryd.underlying9 t0
      obtain ⟨k, e3, e4, _⟩ := DataW.trod_int Tryd.underlying3 t1
      simp only [Prod.mk.injEq] at e2 e4
      exact ⟨(s, k), by simpa using e1, by simpa using e3, e2.1, e4.1, e9⟩
    haveI : Inhabited Pl := ⟨(⟨#[]⟩, 0)⟩
    obtain ⟨q, hq⟩ := choose_lt each
    have hlen : ((List.range len).map q).length = len := by simp
    refine ⟨some a', cap, (List.range len).map q, by rw [hlen], fun i p hp => ?_, .inr ⟨_, _, rfl, by simp, by rw [hlen]; exact hl, fun x hx => ?_⟩, fun q' hq' => ?_⟩
    · have hi : i < len := by have := (List.getElem?_eq_some_iff.1 hp).1; rwa [hlen] at this
      rw [List.getElem?_map, List.getElem?_range hi] at hp
      obtain rfl : q i = p := by simpa using hp
      obtain ⟨c0, c1, _⟩ := hall i (by omega)
      obtain ⟨q0, q1, _⟩ := hq i hi
      rw [q0] at c0
      rw [q1] at c1
      obtain ⟨g, o, rfl⟩ := add_cell (hall 0 (by omega)).1
      rw [Addr.add_lit] at c0 c1
      exact ⟨g, o, rfl, c0, by rw [Nat.add_assoc]; exact c1⟩
    · obtain ⟨i, hi, rfl⟩ := List.mem_map.1 hx
      obtain ⟨_, _, q0, q1, _⟩ := hq i (List.mem_range.1 hi)
      exact ⟨_, _, by rw [q0, q1]⟩
    · obtain ⟨i, hi, rfl⟩ := List.mem_map.1 hq'
      exact (hq i (List.mem_range.1 hi)).2.2.2.2

theorem witness_row (os : Os) {H : Type} (enc : TypeId × Value → H) :
    (Rows.OpenSpec.upto Rows.placeBackSpec).preRow enc Tryd.prog Tryd.f8 Rows.placeBackUptoRow.domain false Rows.placeBackUptoRow.laid ((laidWorld os).forCall (fun _ _ => 0) ⟨#[], #[.slice none 0 0, .slice none 0 0], []⟩).memory #[.slice none 0 0, .slice none 0 0] := by
  have hw : (DataW.whole enc Tryd.prog ((laidWorld os).forCall (fun _ _ => 0) ⟨#[], #[.slice none 0 0, .slice none 0 0], []⟩).memory Tryd.f8.params.toList Rows.placeBackSpec.vars false #[Value.slice none 0 0, Value.slice none 0 0].toList 8).map (fun x => (x.1, x.2.1)) =
      some ([.nil, .nil], []) := by kernel_rfl
  obtain ⟨⟨x1, x2, x3⟩, hx, hx1⟩ := Option.map_eq_some_iff.1 hw
  simp only [Prod.mk.injEq] at hx1
  obtain ⟨rfl, rfl⟩ := hx1
  exact OpenSpec.preRow_of_cond 8 hx (by kernel_rfl) (fun k hk => by cases hk; kernel_rfl) (by kernel_rfl) (laid_met os _)

set_option maxRecDepth 100000 in
theorem contract (H : Type) (enc : TypeId × Value → H) (W : World) (base : Nat) (args : Array Value) (ds gs : List (DataW H)) (before : List MemPlace)
    (hval : ∀ (j : Nat) t v, Tryd.f8.params[j]? = some t → args[j]? = some v → Value.okWide Tryd.prog W .any base t v)
    (hW : DataW.Whole enc Tryd.prog Tryd.f8.params.toList Rows.placeBackSpec.vars false W args.toList ds gs before) (hL : laidMetH Tryd.prog Rows.placeTrimsRow.laid W)
    (hb : Rows.uptoSmall H (ds ++ gs) = true)
    (hsz : (DataW.weightsEach Tryd.prog (Tryd.f8.params.toList ++ []) (ds ++ gs)).all (· ≤ reachBytes) = true) (hsh : W.ShapedOpen Tryd.prog) :
    Calls Tryd.prog 8 args W fun e W' => ∃ v, e = .returned v ∧ Rows.placeBackSpec.post enc Tryd.prog Tryd.f8 false true false false W args v W' := by
  have hW' := hW
  obtain ⟨p, q, hA0, hV, rfl, hfz, hnd⟩ := hW
  have hA : DataW.TrodAll enc Tryd.prog W 0 (fun _ => true) true Tryd.f8.params.toList args.toList ds p := hA0
  have hA1 := hA
  rw [Tryd.params8] at hA hval
  obtain ⟨v0, vs0, d0, ds0, p0, q0, hargs, rfl, rfl, h0, r0⟩ := trodAll_cons hA
  obtain ⟨v1, vs1, d1, ds1, p1, q1, rfl, rfl, rfl, h1, r1⟩ := trodAll_cons r0
  obtain ⟨rfl, rfl, rfl⟩ := trodAll_nil r1
  obtain rfl : args = #[v0, v1] := by cases args; simp_all
  obtain ⟨rfl, rfl⟩ := trodVars_none hV
  obtain ⟨hE, h3⟩ := env hL hsh
  obtain ⟨A, ca, l, rfl, a0, o0, s0⟩ := open_spots2 Tryd.underlying22 (hval 0 22 v0 rfl rfl) h0
  obtain ⟨B, cb, m, rfl, a1, o1, s1⟩ := open_spots2 Tryd.underlying22 (hval 1 22 v1 rfl rfl) h1
  have hn : l.length ≤ 5864062014634 := by
    rcases o0 with ⟨_, rfl, _⟩ | ⟨e, s, rfl, he, _⟩
    · simp
    · have := sized_slice hsz (j := 0) (t := 22) rfl rfl Tryd.underlying22
      rw [bytes104, he] at this
      exact reach_spots this
  have hm : m.length ≤ 5864062014634 := by
    rcases o1 with ⟨_, rfl, _⟩ | ⟨e, s, rfl, he, _⟩
    · simp
    · have := sized_slice hsz (j := 1) (t := 22) rfl rfl Tryd.underlying22
      rw [bytes104, he] at this
      exact reach_spots this
  have hlt : ∀ x ∈ p0 ++ (p1 ++ []), x.block < W.heap.size := fun x hx => by simpa using hW'.lt x (by simpa using hx)
  refine (back_any A B ca cb l m W a0 a1 hn hm s0 s1 hE h3).mono fun e W' ⟨he, hb⟩ => ?_
  subst he
  refine ⟨_, rfl, _, _, _, [], p0 ++ (p1 ++ []), [], hW', ?_, ?_, ?_, hb.frame _, fun h => by cases h⟩
  · exact trodAll_cons_mk (shut_bool Tryd.underlying4 _) trodAll_mk0
  · exact args_same hb _ _ _ _ hA1 (by kernel_rfl) hlt
  · rfl

set_option maxRecDepth 100000 in
theorem lifted (os : Os) (started : os.Started) (H : Type) (enc : TypeId × Value → H) (F : Stop.Interp) :
    ReturnsInHanded {} Tryd.checked os 8 .any ((Rows.OpenSpec.upto Rows.placeBackSpec).preRow enc Tryd.prog Tryd.f8 Rows.placeBackUptoRow.domain false Rows.placeBackUptoRow.laid) (((Rows.OpenSpec.upto Rows.placeBackSpec).at F).post enc Tryd.prog Tryd.f8 false true false false) := by
  refine returnsInHanded_of_row (C := Tryd.checked) (s := Rows.OpenSpec.upto Rows.placeBackSpec) own started (by kernel_rfl) Tryd.func8
    (witness_row_atRef (enc := enc) (C := Tryd.checked) false (laidWorld os) #[.slice none 0 0, .slice none 0 0] rfl (by kernel_rfl) (by kernel_rfl) (by kernel_rfl) (witness_row os enc)) ?_
  intro W base args ds gs before hval hW _ hcond hsz hL hsh _
  exact contract H enc W base args ds gs before hval hW hL (hcond _ rfl) hsz hsh

theorem said : Rows.PlaceBackUptoSaid :=
  OpenClaim.holds_of_cond 8 Tryd.f8 rfl rfl rfl rfl rfl rfl rfl ⟨rfl, rfl, rfl, rfl, rfl⟩ rfl rfl rfl rfl rfl (by kernel_rfl) Tryd.func8 (by kernel_rfl)
    (of_decide_eq_true (by kernel_rfl)) (by unfold Func.isWrapper; first | (rw [if_pos (by decide +kernel)]; kernel_rfl) | (rw [if_neg (by decide +kernel)]; exact ⟨rfl, rfl⟩))
    (fun os started H enc _ F => by rw [OpenClaim.pre_eq_preRow]; exact lifted os started H enc F)

/-- The statement. -/
theorem proved : Rows.PlaceBackUptoCardSaid :=
  Claim7.holds_tied_plain_at .later [] _ _ _ _ said (fun _ h => by cases h) (by kernel_rfl) (fun _ h => by cases h) placeBackUpto_row_tie rfl ⟨rfl, rfl⟩ (by kernel_rfl) rfl (plain_of (g := 8) (fg := Tryd.f8) (by kernel_rfl) Tryd.func8 (by kernel_rfl)) (by kernel_rfl)
#print axioms proved
end Go.Proofs.YtocdinaomkmcbaaDoor.placeBack
