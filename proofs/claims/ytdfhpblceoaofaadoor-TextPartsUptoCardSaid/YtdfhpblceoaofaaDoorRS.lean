/-
  The contract of the document's own shown.
-/
import Derived.Test.YtdfhpblceoaofaaDoorV
namespace Go.Proofs.YtdfhpblceoaofaaDoor
open Go.ChangeShapes Go.WideShapes Go.ChangeAt Go.RowKit Go.Shelf
set_option linter.unusedVariables false

/-- How the document shows a piece. -/
def rsL (q : Bool) (r : Int) (p : ByteArray) : List UInt8 :=
  if inDig r then [92, 120, hexd ((p.get! 0).toNat / 16), hexd ((p.get! 0).toNat % 16)] else if r = 92 ∨ (q = true ∧ r = 34) then 92 :: p.data.toList else p.data.toList
def rsW (q : Bool) (r : Int) : Nat := if inDig r then 4 else if r = 92 ∨ (q = true ∧ r = 34) then 2 else 1

theorem retT {a b : ByteArray} {n : Int} (h : a = b) : Ending.returned (.tuple #[.string a, .int .i64 n]) = .returned (.tuple #[.string b, .int .i64 n]) := by rw [h]
theorem bs_id (p : ByteArray) : p = ⟨p.data.toList.toArray⟩ := by cases p; simp
theorem bs_cons (p : ByteArray) : (⟨#[92]⟩ ++ p : ByteArray) = ⟨(92 :: p.data.toList).toArray⟩ := by
  apply ByteArray.ext; rw [ByteArray.data_append]; cases p; simp
theorem get_zero (p : ByteArray) (h : 0 < p.size) : p.get! 0 = p[0]'h := by
  rw [get_at, ← List.getElem_eq_getD (h := by simpa using h)]; rfl

theorem conv_drew (xs : List Int) (w : World) (A : Obj) :
    (convert 55 9 (.slice (some ⟨w.heap.size + 1, 0, none⟩) xs.length xs.length)).run Tryd.prog ((w.alloc A).alloc (.cells (xs.map (Value.int .u8)).toArray 5)).drew = .ok (.string (strOfNums xs)) ((w.alloc A).alloc (.cells (xs.map (Value.int .u8)).toArray 5)).drew :=
  run_convert_bytes_arg _ 55 5 Tryd.underlying55 Tryd.underlying5 (w.heap.size + 1) 0 xs.length xs.length xs rfl (fun i hi => by
    rw [World.cell?_drew]
    unfold World.cell?
    rw [show w.heap.size + 1 = (w.alloc A).heap.size by simp, World.alloc_heap_new]; simp [List.getElem?_eq_getElem hi]) 9 Tryd.underlying9

set_option maxRecDepth 100000 in
set_option maxHeartbeats 4000000 in
theorem rshown_dig (q : Bool) (i : Int) (p : ByteArray) (r : Int) (w : World) (hp : 0 < p.size) (hr : inDig r = true) :
    Calls Tryd.prog 39 #[.agg #[.int .i64 i, .string p, .int .i32 r], .bool q] w fun e W' => e = .returned (.tuple #[.string ⟨(rsL q r p).toArray⟩, .int .i64 (rsW q r : Int)]) ∧ Below w.heap.size w W' := by
  have k4 := fun x1 x2 x3 x4 A => conv_drew [x1, x2, x3, x4] w A
  simp only [List.map_cons, List.map_nil, List.length_cons, List.length_nil, Nat.zero_add, Nat.reduceAdd] at k4
  have hc : ((p[0]'hp).toNat : Int) ≤ 255 := lt256 _
  have eL : rsL q r p = [92, 120, hexd ((p[0]'hp).toNat / 16), hexd ((p[0]'hp).toNat % 16)] := by unfold rsL; rw [hr, get_zero p hp]; rfl
  have eW : rsW q r = 4 := by unfold rsW; rw [hr]; rfl
  rw [eL, eW]
  have h' := of_decide_eq_true hr
  clear hr eL eW
  obtain ⟨a, ha⟩ : ∃ a : Nat, (p[0]'hp).toNat / 16 = a := ⟨_, rfl⟩
  obtain ⟨b, hb⟩ : ∃ b : Nat, (p[0]'hp).toNat % 16 = b := ⟨_, rfl⟩
  rw [ha, hb]
  have ha' : ((p[0]'hp).toNat : Int) / 16 = (a : Int) := by omega
  have hb' : ((p[0]'hp).toNat : Int) % 16 = (b : Int) := by omega
  have hax : a < 16 := by omega
  have hbx : b < 16 := by omega
  have iw : IntKind.u8.wrap (a : Int) = (a : Int) := IntWalk.u8_in _ (by omega)
  have i1 : (a : Int) < 16 := by omega
  have i2 : (b : Int) < 16 := by omega
  clear ha hb
  by_cases h1 : r < 32
  · clear h'
    go_enter Tryd.func39, Tryd.ntmps39
    go_wp2
    go_region
    all_goals (try go_wp2)
    all_goals go_ret2
    all_goals exact ⟨retT (by rw [hex_at a hax, hex_at b hbx]; simp [strOfNums]), (((Below.refl _ _).alloc (Nat.le_refl _) _).alloc (by simp) _).drew⟩
  · have h2 : r = 127 := by omega
    subst h2
    go_enter Tryd.func39, Tryd.ntmps39
    go_wp2
    go_region
    all_goals (try go_wp2)
    all_goals go_ret2
    all_goals exact ⟨retT (by rw [hex_at a hax, hex_at b hbx]; simp [strOfNums]), (((Below.refl _ _).alloc (Nat.le_refl _) _).alloc (by simp) _).drew⟩

set_option maxRecDepth 100000 in
set_option maxHeartbeats 4000000 in
theorem rshown_no (q : Bool) (i : Int) (p : ByteArray) (r : Int) (w : World) (hp : 0 < p.size) (hps : p.size ≤ 4) (hr : inDig r = false) :
    Calls Tryd.prog 39 #[.agg #[.int .i64 i, .string p, .int .i32 r], .bool q] w fun e W' => e = .returned (.tuple #[.string ⟨(rsL q r p).toArray⟩, .int .i64 (rsW q r : Int)]) ∧ Below w.heap.size w W' := by
  have H := Lib.hid hr
  have h' := of_decide_eq_false hr
  clear hr
  have e1 : (r == 127) = false := by simp; omega
  have e2 : 32 ≤ r := by omega
  by_cases h9 : r = 92
  · subst h9
    have eL : rsL q 92 p = 92 :: p.data.toList := by unfold rsL; rw [H.out, if_neg (by simp), if_pos (by simp)]
    have eW : rsW q 92 = 2 := by unfold rsW; rw [H.out, if_neg (by simp), if_pos (by simp)]
    rw [eL, eW]
    clear H h' eL eW
    go_enter Tryd.func39, Tryd.ntmps39
    go_wp2
    go_ret2
    exact ⟨retT (bs_cons p), (Below.refl _ _).alloc (Nat.le_refl _) _⟩
  · have e9 : (r == 92) = false := by simpa using h9
    cases q
    · have eL : rsL false r p = p.data.toList := by unfold rsL; rw [H.out, if_neg (by simp), if_neg (by simp [h9])]
      have eW : rsW false r = 1 := by unfold rsW; rw [H.out, if_neg (by simp), if_neg (by simp [h9])]
      rw [eL, eW]
      clear H h' eL eW h9
      go_enter Tryd.func39, Tryd.ntmps39
      go_wp2
      go_ret2
      exact ⟨retT (bs_id p), (Below.refl _ _).alloc (Nat.le_refl _) _⟩
    · by_cases h3 : r = 34
      · subst h3
        have eL : rsL true 34 p = 92 :: p.data.toList := by unfold rsL; rw [H.out, if_neg (by simp), if_pos (by simp)]
        have eW : rsW true 34 = 2 := by unfold rsW; rw [H.out, if_neg (by simp), if_pos (by simp)]
        rw [eL, eW]
        clear H h' eL eW h9
        go_enter Tryd.func39, Tryd.ntmps39
        go_wp2
        go_ret2
        exact ⟨retT (bs_cons p), (Below.refl _ _).alloc (Nat.le_refl _) _⟩
      · have e3 : (r == 34) = false := by simpa using h3
        have eL : rsL true r p = p.data.toList := by unfold rsL; rw [H.out, if_neg (by simp), if_neg (by simp [h9, h3])]
        have eW : rsW true r = 1 := by unfold rsW; rw [H.out, if_neg (by simp), if_neg (by simp [h9, h3])]
        rw [eL, eW]
        clear H h' eL eW h9 h3
        go_enter Tryd.func39, Tryd.ntmps39
        go_wp2
        go_ret2
        exact ⟨retT (bs_id p), (Below.refl _ _).alloc (Nat.le_refl _) _⟩
theorem rshown_any (q : Bool) (i : Int) (p : ByteArray) (r : Int) (w : World) (hp : 0 < p.size) (hps : p.size ≤ 4) :
    Calls Tryd.prog 39 #[.agg #[.int .i64 i, .string p, .int .i32 r], .bool q] w fun e W' => e = .returned (.tuple #[.string ⟨(rsL q r p).toArray⟩, .int .i64 (rsW q r : Int)]) ∧ Below w.heap.size w W' := by
  cases hr : inDig r
  · exact rshown_no q i p r w hp hps hr
  · exact rshown_dig q i p r w hp hr
end Go.Proofs.YtdfhpblceoaofaaDoor
