/-
  works() says yes.
-/
import Derived.Test.YtdfhpblceoaofaaDoorWE
namespace Go.Proofs.YtdfhpblceoaofaaDoor
open Go.ChangeShapes Go.WideShapes Go.ChangeAt Go.RowKit Go.Shelf
set_option linter.unusedVariables false

theorem ba_ext {a b : ByteArray} (h : a.data.toList = b.data.toList) : a = b := by
  apply ByteArray.ext; exact Array.toList_inj.1 h
theorem lines_val : WrL ⟨#[116, 111, 32, 98, 101, 32, 32, 111, 114, 32, 110, 111, 116]⟩ 5 = [⟨#[116, 111, 32, 98, 101]⟩, ⟨#[111, 114]⟩, ⟨#[110, 111, 116]⟩] := by
  have h := val_lines
  have inj : ∀ (l k : List ByteArray), l.map (fun x => x.data.toList) = k.map (fun x => x.data.toList) → l = k := by
    intro l
    induction l with
    | nil => intro k h; cases k; rfl; simp at h
    | cons a l ih =>
      intro k h
      cases k with
      | nil => simp at h
      | cons b k => simp at h; rw [ba_ext (congrArg Array.toList h.1), ih k (by simpa using h.2)]
  exact inj _ [⟨#[116, 111, 32, 98, 101]⟩, ⟨#[111, 114]⟩, ⟨#[110, 111, 116]⟩] h
theorem cut_val : (⟨#[97, 98, 255]⟩ : ByteArray).extract 0 2 = ⟨#[97, 98]⟩ := ba_ext (by decide +kernel)

set_option maxRecDepth 100000 in
set_option maxHeartbeats 4000000 in
theorem works_any (w : World) (h2 : 2 ≤ w.heap.size) (hT : Lib.Utf8Tabs 0 1 w) :
    Calls Tryd.prog 29 #[] w fun e W' => e = .returned (.bool true) ∧ Below w.heap.size w W' := by
  have hfn : ∀ (x : Option Addr) (wx : World), (binOp .eql 25 (.func (.func 33) #[] #[.pointer x]) .nilFunc).run Tryd.prog wx = .ok (.bool false) wx := fun _ _ => by kernel_rfl
  have c1 := fun W (h : Below w.heap.size w W) => callsIn_wide.1 (quote_in 3 (Nat.le_refl _) ⟨#[97, 10, 255, 92, 34]⟩ W (Nat.le_trans h2 h.size) (tabs_below hT h h2) (by decide))
  rw [val_quote] at c1
  have c2 := fun W (h : Below w.heap.size w W) => unquote_any ⟨#[34, 97, 92, 120, 48, 97, 92, 120, 102, 102, 92, 92, 92, 34, 34]⟩ W (Nat.le_trans h2 h.size) (tabs_below hT h h2) (by decide)
  have uq : ∀ e, UQs ⟨#[34, 97, 92, 120, 48, 97, 92, 120, 102, 102, 92, 92, 92, 34, 34]⟩ e → e = .returned (.tuple #[.string ⟨#[97, 10, 255, 92, 34]⟩, .int .i64 0]) := by
    rintro e (⟨u, h, hu, rfl⟩ | ⟨h, rfl⟩)
    · rw [← hu ⟨#[97, 10, 255, 92, 34]⟩ (by rw [val_quote])]
    · exact absurd val_quote (h _)
  have c3 := fun W (h : Below w.heap.size w W) => wrap_any ⟨#[116, 111, 32, 98, 101, 32, 32, 111, 114, 32, 110, 111, 116]⟩ 5 W (Nat.le_trans h2 h.size) (tabs_below hT h h2) (by decide) (by decide)
  rw [lines_val, show WrN 5 = 0 from rfl] at c3
  have c4 := fun W (h : Below w.heap.size w W) => callsIn_wide.1 (width_in 3 (Nat.le_refl _) ⟨#[97, 10, 255, 92, 34]⟩ W (Nat.le_trans h2 h.size) (tabs_below hT h h2) (by decide))
  rw [val_width] at c4
  have c5 := fun W (h : Below w.heap.size w W) => callsIn_wide.1 (show_in 3 (Nat.le_refl _) ⟨#[255]⟩ W (Nat.le_trans h2 h.size) (tabs_below hT h h2) (by decide))
  rw [val_show] at c5
  have c6 := fun W (h : Below w.heap.size w W) => cut_any ⟨#[97, 98, 255]⟩ 5 W (Nat.le_trans h2 h.size) (tabs_below hT h h2) (by decide) (by decide) (by decide)
  rw [val_cut, cut_val] at c6
  have c7 := fun W (h : Below w.heap.size w W) => callsIn_wide.1 (breaks_in 3 (Nat.le_refl _) ⟨#[255]⟩ W (Nat.le_trans h2 h.size) (tabs_below hT h h2) (by decide))
  rw [val_breaks] at c7
  have C1 := Lib.hid c1; have C2 := Lib.hid c2; have C3 := Lib.hid c3; have C4 := Lib.hid c4; have C5 := Lib.hid c5; have C6 := Lib.hid c6; have C7 := Lib.hid c7
  have UQ := Lib.hid uq
  clear c1 c2 c3 c4 c5 c6 c7 uq
  go_enter Tryd.func29, Tryd.ntmps29
  go_wp2_with fail
  refine (runes_any ⟨#[97]⟩ w).mono ?_
  rintro e W0 ⟨rfl, rfl⟩
  have B0 : Below w.heap.size w (w.alloc (.cells #[.string ⟨#[97]⟩] 9)) := (Below.refl _ w).alloc (Nat.le_refl _) _
  go_wp2_with fail
  refine (C1.out _ B0).mono ?_
  rintro e W1 ⟨rfl, b1⟩
  have B1 := B0.trans (b1.mono B0.size)
  go_wp2_with fail
  refine (C2.out _ B1).mono ?_
  rintro e W2 ⟨hu, b2⟩
  obtain rfl := UQ.out _ hu
  have B2 := B1.trans (b2.mono B1.size)
  clear hu
  go_wp2_with fail
  refine (C3.out _ B2).mono ?_
  rintro e W3 ⟨⟨v, rfl, hr⟩, b3⟩
  have B3 := B2.trans (b3.mono B2.size)
  obtain ⟨aL, capL, rfl⟩ := (readsT_of_own hr).len
  have rL := readsT_of_own hr
  clear hr
  go_wp2_with fail
  refine (C4.out _ B3).mono ?_
  rintro e W4 ⟨rfl, b4⟩
  have B4 := B3.trans (b4.mono B3.size)
  have rL := rL.below b4
  go_wp2_with fail
  refine (C5.out _ B4).mono ?_
  rintro e W5 ⟨rfl, b5⟩
  have B5 := B4.trans (b5.mono B4.size)
  have rL := rL.below b5
  clear b1 b2 b3 b4 b5 B0 B1 B2 B3 B4
  have B6 := B5.alloc B5.size (.cells #[.string ⟨#[116, 111, 32, 98, 101]⟩, .string ⟨#[111, 114]⟩, .string ⟨#[110, 111, 116]⟩] 9)
  have rL := rL.below ((Below.refl _ W5).alloc (Nat.le_refl _) (.cells #[.string ⟨#[116, 111, 32, 98, 101]⟩, .string ⟨#[111, 114]⟩, .string ⟨#[110, 111, 116]⟩] 9))
  have rM : ReadsT (W5.alloc (.cells #[.string ⟨#[116, 111, 32, 98, 101]⟩, .string ⟨#[111, 114]⟩, .string ⟨#[110, 111, 116]⟩] 9)) (.slice (some ⟨W5.heap.size, 0, none⟩) 3 3) [⟨#[116, 111, 32, 98, 101]⟩, ⟨#[111, 114]⟩, ⟨#[110, 111, 116]⟩] := .inr ⟨_, 3, rfl, fun i hi => by
    have hi3 : i < 3 := hi
    unfold World.cell?
    rw [World.alloc_heap_new]
    rcases (show i = 0 ∨ i = 1 ∨ i = 2 by omega) with rfl | rfl | rfl <;> rfl⟩
  go_wp2_with fail
  refine (sameT_any _ _ _ _ rL rM (by simp)).mono ?_
  rintro e W6 ⟨rfl, m6, rfl⟩
  have B7 := B6.trans (below_drewN _ (W5.alloc (.cells #[.string ⟨#[116, 111, 32, 98, 101]⟩, .string ⟨#[111, 114]⟩, .string ⟨#[110, 111, 116]⟩] 9)) m6)
  clear rL rM B6 B5
  go_wp2_with fail
  refine (C6.out _ B7).mono ?_
  rintro e W8 ⟨rfl, b8⟩
  have B8 := B7.trans (b8.mono B7.size)
  go_wp2_with fail
  refine (C7.out _ B8).mono ?_
  rintro e W9 ⟨⟨vb, rfl, hrb⟩, b9⟩
  have B9 := B8.trans (b9.mono B8.size)
  obtain ⟨ab, capb, rfl⟩ : ∃ a cap, vb = .slice a 1 cap := by
    rcases hrb.2 with ⟨h1, h0⟩ | ⟨g, cap, cur, rfl, _⟩
    · omega
    · exact ⟨_, _, rfl⟩
  go_wp2
  go_ret
  exact ⟨rfl, B9⟩
end Go.Proofs.YtdfhpblceoaofaaDoor
