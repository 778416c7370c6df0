/-
  The walk of TextLines.
-/
import Derived.Test.YtdfhpblceoaofaaDoorLP
import Derived.Test.YtdfhpblceoaofaaDoorWO
import Derived.Deep.RegionHeld3
namespace Go.Proofs.YtdfhpblceoaofaaDoor
open Go.ChangeShapes Go.WideShapes Go.ChangeAt Go.RowKit Go.Shelf
set_option linter.unusedVariables false

theorem width_any (x : ByteArray) (w W : World) (h2 : 2 ≤ w.heap.size) (hT : Lib.Utf8Tabs 0 1 w) (hb : Below w.heap.size w W) (hsz : x.size ≤ 1099511627776) :
    Calls Tryd.prog 16 #[.string x] W fun e W' => e = .returned (.int .i64 (rwsum (G x 0) : Int)) ∧ Below W.heap.size W W' := by
  have := callsIn_wide.1 (width_in 3 (Nat.le_refl _) x W (Nat.le_trans h2 hb.size) (tabs_below hT hb h2) hsz)
  rw [wsum_rwsum] at this; exact this
theorem jl_mem : ∀ (l : List (List UInt8)) (a : List UInt8), a ∈ l → a.length ≤ jl l
  | [], a, h => by simp at h
  | b :: l, a, h => by
    rcases List.mem_cons.1 h with rfl | h
    · simp [jl]; omega
    · have := jl_mem l a h
      simp [jl]; omega
theorem get_some {x : ByteArray} {j : Nat} (h : j < x.size) : x.get! j = x[j]'h := by
  rw [get_bt, List.getD_eq_getElem?_getD]; simp [bt, h]; rfl
theorem toNat_ne {c : UInt8} (h : c ≠ 32) : ¬ (c.toNat : Int) = 32 := fun e => h (UInt8.toNat.inj (by have : (32 : UInt8).toNat = 32 := rfl; omega))

theorem below_trans_drew {w W : World} (h : Below w.heap.size w W) (m : Nat) : Below w.heap.size w (W.drewN m) := h.trans ⟨rfl, rfl, rfl, Nat.le_refl _, fun _ _ => rfl⟩
theorem cell_old {W : World} {a : Addr} {v : Value} (h : W.cell? a = some v) : a.block < W.heap.size := by
  rcases Nat.lt_or_ge a.block W.heap.size with h' | h'
  · exact h'
  · rw [World.cell?, Array.getElem?_eq_none h'] at h; cases h
/-- A width is reckoned: what two cells hold stays. -/
theorem width_keeps (z : ByteArray) (w W3 : World) (a b : Addr) (va vb : Value) (h2 : 2 ≤ w.heap.size) (hT : Lib.Utf8Tabs 0 1 w) (h3 : Below w.heap.size w W3) (hsz : z.size ≤ 1099511627776) (W : World) (hS : W.cell? a = some va ∧ W.cell? b = some vb ∧ Below W3.heap.size W3 W) :
    Calls Tryd.prog 16 #[.string z] W fun e W' => e = .returned (.int .i64 (rwsum (G z 0) : Int)) ∧ (W'.cell? a = some va ∧ W'.cell? b = some vb ∧ Below W3.heap.size W3 W') := by
  obtain ⟨ha, hb, hB⟩ := hS
  refine (width_any z w W h2 hT (h3.trans (hB.mono h3.size)) hsz).mono ?_
  rintro e W' ⟨he, hn⟩
  exact ⟨he, (hn.cell (cell_old ha)).trans ha, (hn.cell (cell_old hb)).trans hb, hB.trans (hn.mono hB.size)⟩
set_option maxRecDepth 100000 in
set_option maxHeartbeats 8000000 in
theorem textLines_low (s : ByteArray) (width : Int) (w : World) (h2 : 2 ≤ w.heap.size) (hT : Lib.Utf8Tabs 0 1 w) (hsz : s.size ≤ 1048576) (hlo : -9223372036854775808 ≤ width) (hw : width < 4) :
    Calls Tryd.prog 8 #[.string s, .int .i64 width] w fun e W' => e = .returned (.bool true) ∧ Below w.heap.size w W' := by
  have c1 := works_any w h2 hT
  have e0 : WrL s width = [] := if_pos hw
  have e1 : WrN width = 1 := if_pos hw
  go_enter Tryd.func8, Tryd.ntmps8
  go_wp2_with fail
  refine c1.mono ?_
  rintro e W1 ⟨rfl, b1⟩
  have hz := b1.size
  go_wp2_with fail
  refine (wrap_any s width W1 (by omega) (tabs_below hT b1 h2) (by omega) (by omega)).mono ?_
  rintro e W2 ⟨⟨v0, rfl, hr⟩, b2⟩
  rw [e0] at hr
  rw [e1]
  obtain ⟨a, cap, rfl⟩ := (readsT_of_own hr).len
  have B2 := b1.trans (b2.mono hz)
  clear c1 e0 e1 hr b1 b2
  simp only [List.length_nil]
  go_wp2
  go_ret
  exact ⟨rfl, B2⟩

set_option maxRecDepth 100000 in
set_option maxHeartbeats 8000000 in
theorem textLines_high (s : ByteArray) (width : Int) (w : World) (h2 : 2 ≤ w.heap.size) (hT : Lib.Utf8Tabs 0 1 w) (hsz : s.size ≤ 1048576) (hw : 4 ≤ width) (hhi : width ≤ 9223372036854775807) :
    Calls Tryd.prog 8 #[.string s, .int .i64 width] w fun e W' => e = .returned (.bool true) ∧ Below w.heap.size w W' := by
  have c1 := works_any w h2 hT
  have e1 : WrN width = 0 := if_neg (by omega)
  obtain ⟨Fb, Fa, Fy, Fl⟩ := lines_facts s width hw
  have hxl := WrL_len s width
  have hmx : Tryd.prog.follows .mixedOrders = true := by kernel_rfl
  have hd4 : decide (width < 4) = false := decide_eq_false (by omega)
  have cw := fun y W hb hy => wrap_any y width W (Nat.le_trans h2 (Below.size hb)) (tabs_below hT hb h2) hy (by omega)
  have c0 := cw s
  have cJ := cw ⟨(jn ((WrL s width).map bt)).toArray⟩
  rw [Fa ⟨(jn ((WrL s width).map bt)).toArray⟩ rfl] at cJ
  rw [e1] at c0 cJ
  have hJz : (⟨(jn ((WrL s width).map bt)).toArray⟩ : ByteArray).size ≤ 1099511627776 := by
    have h1 := jn_le ((WrL s width).map bt)
    rw [← bt_len]; show (jn _).length ≤ _; omega
  have pJ := fun W => plain_any ⟨(jn ((WrL s width).map bt)).toArray⟩ W hJz
  have pS := fun W => plain_any s W (by omega)
  rw [show bt ⟨(jn ((WrL s width).map bt)).toArray⟩ = jn ((WrL s width).map bt) from rfl, Fy] at pJ
  have hmem : ∀ (i : Nat) (x : ByteArray), (WrL s width)[i]? = some x → x.size ≤ 6 * s.size + 1 := fun i x hx => by
    have := jl_mem _ _ (List.mem_map_of_mem (f := bt) (List.mem_of_getElem? hx))
    rw [bt_len] at this; omega
  have jA := fun v W h => joined_any v (WrL s width) W h (by omega) (by omega)
  clear Fa Fy e1 cw
  generalize WrL s width = xs at *
  generalize (⟨(jn (xs.map bt)).toArray⟩ : ByteArray) = J at *
  generalize (⟨(noSep (bt s)).toArray⟩ : ByteArray) = N at *
  have HF := Lib.hid Fl
  have HM := Lib.hid hmem
  have H0 := Lib.hid c0
  have HJ := Lib.hid cJ
  have HpJ := Lib.hid pJ
  have HpS := Lib.hid pS
  have HjA := Lib.hid jA
  clear Fl hmem c0 cJ pJ pS jA
  go_enter Tryd.func8, Tryd.ntmps8
  go_wp2_with fail
  refine c1.mono ?_
  rintro e W1 ⟨rfl, b1⟩
  clear c1
  go_wp2_with fail
  refine (H0.out W1 b1 (by omega)).mono ?_
  rintro e W2 ⟨⟨v0, rfl, hr⟩, b2⟩
  have B2 := b1.trans (b2.mono b1.size)
  have R2 := readsT_of_own hr
  clear hr b1 b2 H0
  obtain ⟨a0, cap0, hv⟩ := R2.len
  subst hv
  go_wp2_with fail
  refine (HjA.out _ W2 R2).mono ?_
  rintro e W3 ⟨rfl, b3⟩
  have B3 := B2.trans (b3.mono B2.size)
  have R3 := R2.below b3
  clear B2 R2 b3
  go_wp2_with fail
  refine (HJ.out W3 B3 hJz).mono ?_
  rintro e W4 ⟨⟨vA, rfl, hA⟩, b4⟩
  have B4 := B3.trans (b4.mono B3.size)
  have R4 := R3.below b4
  have A4 := readsT_of_own hA
  clear B3 R3 b4 hA HJ
  obtain ⟨aA, capA, hv⟩ := A4.len
  subst hv
  go_wp2_with fail
  refine (sameT_any _ _ xs _ A4 R4 (by omega)).mono ?_
  rintro e X4 ⟨rfl, m1, rfl⟩
  have B5 : Below w.heap.size w (W4.drewN m1) := B4.trans ⟨rfl, rfl, rfl, Nat.le_refl _, fun _ _ => rfl⟩
  have R5 := R4.drewN m1
  clear B4 R4 A4
  generalize W4.drewN m1 = W5 at *
  go_wp2_with fail
  refine (HjA.out _ W5 R5).mono ?_
  rintro e W6 ⟨rfl, b6⟩
  have B6 := B5.trans (b6.mono B5.size)
  have R6 := R5.below b6
  clear B5 R5 b6 HjA
  go_wp2_with fail
  refine (HpJ.out W6).mono ?_
  rintro e W7 ⟨rfl, b7⟩
  have B7 := B6.trans (b7.mono B6.size)
  have R7 := R6.below b7
  clear B6 R6 b7 HpJ
  go_wp2_with fail
  refine (HpS.out W7).mono ?_
  rintro e W8 ⟨rfl, b8⟩
  have B8 := B7.trans (b8.mono B7.size)
  have R8 := R7.below b8
  clear B7 R7 b8 HpS
  go_wp2_with fail
  go_loopw [9] (fun t wr => ∃ (i : Nat), t = .int .i64 i ∧ i ≤ xs.length ∧ ReadsT wr (.slice a0 xs.length cap0) xs ∧ Below w.heap.size w wr) (fun t _ => xs.length - (intOf t).toNat)
  case atStart => exact ⟨0, rfl, by omega, R8, B8⟩
  case round =>
    clear R8 B8
    obtain ⟨i, rfl, hi, hR, hB⟩ := hrel
    by_cases hlt : i < xs.length
    · rcases hR with ⟨h1, h3⟩ | ⟨g, cap', h1, hc⟩
      · subst h3; simp at hlt
      cases h1
      obtain ⟨x, hx⟩ : ∃ x, xs[i]? = some x := ⟨_, List.getElem?_eq_getElem hlt⟩
      obtain ⟨k, ⟨q0, qx, qp, qe, ql, qw⟩, hN⟩ := HF.out i x hx
      have hxz := HM.out i x hx
      have hcg := hc i hlt
      rw [hx] at hcg
      simp only [Option.getD_some] at hcg
      have HW := Lib.hid (fun W hb => width_any x w W h2 hT hb (by omega))
      have HR : Hid (ReadsT wr (.slice (some ⟨g, 0, none⟩) xs.length cap0) xs) := Lib.hid (.inr ⟨g, _, rfl, hc⟩)
      have HN := Lib.hid hN
      have hz0 : 0 < x.size := by omega
      have hzl : x.size - 1 < x.size := by omega
      have p0 : ¬ ((x[0]'hz0).toNat : Int) = 32 := toNat_ne (by rw [← get_some hz0]; exact qp 0 q0)
      have p0' : (((x[0]'hz0).toNat : Int) == 32) = false := by simpa using p0
      have pl : ¬ ((x[x.size - 1]'hzl).toNat : Int) = 32 := toNat_ne (by rw [← get_some hzl]; exact ql)
      have pl' : (((x[x.size - 1]'hzl).toNat : Int) == 32) = false := by simpa using pl
      have es : IntKind.i64.wrap ((x.size : Int) - 1) = ((x.size - 1 : Nat) : Int) := by rw [show (x.size : Int) - 1 = ((x.size - 1 : Nat) : Int) by omega]; exact IntWalk.i64_in _ (by omega)
      have hE : x.toList.isEmpty = false := full_str hz0
      have hyy : 0 < i → ∃ y, xs[i - 1]? = some y := fun _ => ⟨_, List.getElem?_eq_getElem (by omega)⟩
      have HP := Lib.hid qp
      have HE := Lib.hid qe
      have hii : (i : Int) < (xs.length : Int) := by omega
      have hx' := hx
      clear hx hN hc ql qp qe
      go_wp2_with fail
      refine (HW.out wr hB).mono ?_
      rintro e W2 ⟨rfl, hb⟩
      have B2 := hB.trans (hb.mono hB.size)
      have HR2 := Lib.hid (HR.out.below hb)
      have hcell : W2.cell? ⟨g, i, none⟩ = some (.string x) := by
        have hx : wr.cell? ⟨g, i, none⟩ ≠ none := by rw [hcg]; simp
        rw [hb.cell (p := ⟨g, i, none⟩) ?_]
        · exact hcg
        · show g < wr.heap.size
          rcases Nat.lt_or_ge g wr.heap.size with h' | h'
          · exact h'
          · exact absurd (by simp [World.cell?, Array.getElem?_eq_none h']) hx
      clear hb hcg hB
      rcases Nat.eq_zero_or_pos i with hi0 | hi0
      · subst hi0
        go_wp2_with fail
        go_quiet (fail)
        go_wp2
        exact ⟨⟨1, rfl, hlt, HR2.out.drewN nq, below_trans_drew B2 nq⟩, by simp [intOf]; omega⟩
      · have hi0' : (0 : Int) < (i : Int) := by omega
        obtain ⟨y, hy⟩ := hyy hi0
        have hnn := HN.out y hx' hi0 hy
        have hyz : y.size ≤ 1099511627776 := by have := HM.out _ _ hy; omega
        have hez : (x.extract 0 k).size ≤ 1099511627776 := by simp; omega
        have he1 : IntKind.i64.wrap ((i : Int) - 1) = ((i - 1 : Nat) : Int) := by rw [show (i : Int) - 1 = ((i - 1 : Nat) : Int) by omega]; exact IntWalk.i64_in _ (by omega)
        have hb1 : (0 : Int) ≤ ((i - 1 : Nat) : Int) := by omega
        have hb2 : ((i - 1 : Nat) : Int) < (xs.length : Int) := by omega
        have hb3 : (0 : Int) ≤ (k : Int) := by omega
        have hb4 : (k : Int) ≤ (x.size : Int) := by omega
        have hgx := rwsum_G (x.extract 0 k)
        have hgz : (x.extract 0 k).size ≤ 6 * s.size + 1 := by simp; omega
        have he2 : IntKind.i64.wrap (width - (rwsum (G (x.extract 0 k) 0) : Int)) = width - (rwsum (G (x.extract 0 k) 0) : Int) := IntWalk.i64_in _ (by omega)
        have he3 : decide ((rwsum (G y 0) : Int) < width - (rwsum (G (x.extract 0 k) 0) : Int)) = false := decide_eq_false (by omega)
        clear hnn hgx
        have hcy2 : ReadsT W2 (.slice (some ⟨g, 0, none⟩) xs.length cap0) xs := HR2.out
        have hcy2 : W2.cell? ⟨g, i - 1, none⟩ = some (.string y) := by
          rcases hcy2 with ⟨h, _⟩ | ⟨g', cap', h, hc⟩
          · cases h
          · cases h
            have := hc (i - 1) (by omega)
            rw [hy] at this; exact this
        go_wp2_with fail
        go_quiet (fail)
        have hcy3 : (W2.drewN nq).cell? ⟨g, i - 1, none⟩ = some (.string y) := hcy2
        have hcell3 : (W2.drewN nq).cell? ⟨g, i, none⟩ = some (.string x) := hcell
        have HR3 := Lib.hid (HR2.out.drewN nq)
        have B3 := below_trans_drew B2 nq
        clear HR HR2 B2 hcell hcy2
        generalize W2.drewN nq = W3 at *
        go_wp2_with fail
        go_loopw [11] (fun t wr => ∃ (j : Nat), t = .int .i64 j ∧ j ≤ k ∧ wr = W3) (fun t _ => k - (intOf t).toNat)
        case atStart => exact ⟨0, rfl, by omega, rfl⟩
        case round =>
          obtain ⟨j, rfl, hj, rfl⟩ := hrel
          by_cases hjk : j < k
          · have hjx : j < x.size := by omega
            have hjx' : (j : Int) < (x.size : Int) := by omega
            have n0 : ((x[j]'hjx).toNat : Int) ≠ 32 := toNat_ne (by rw [← get_some hjx]; exact HP.out j hjk)
            have n1 : (((x[j]'hjx).toNat : Int) != 32) = true := by simpa using n0
            go_wp2
            refine ⟨⟨j + 1, by go_num, by omega, ?_⟩, by simp [intOf]; omega⟩
            first | trivial | rfl
          · obtain rfl : j = k := by omega
            have hcy : wr.cell? ⟨g, i - 1, none⟩ = some (.string y) := hcy3
            have hS0 : wr.drew.cell? ⟨g, i - 1, none⟩ = some (.string y) ∧ wr.drew.cell? ⟨g, i, none⟩ = some (.string x) ∧ Below wr.heap.size wr wr.drew := ⟨hcy, hcell3, ⟨rfl, rfl, rfl, Nat.le_refl _, fun _ _ => rfl⟩⟩
            obtain ⟨hd1, hd2, hd3⟩ := hS0
            have HA := Lib.hid (width_keeps y w wr ⟨g, i - 1, none⟩ ⟨g, i, none⟩ (.string y) (.string x) h2 hT B3 hyz)
            have HX := Lib.hid (width_keeps (x.extract 0 j) w wr ⟨g, i - 1, none⟩ ⟨g, i, none⟩ (.string y) (.string x) h2 hT B3 hez)
            by_cases hkx : j < x.size
            · have hjx' : (j : Int) < (x.size : Int) := by omega
              have n0 : ((x[j]'hkx).toNat : Int) = 32 := by rw [← get_some hkx, HE.out hkx]; rfl
              go_wp2_with fail
              go_region_held3 (fun w' => w'.cell? ⟨g, i - 1, none⟩ = some (.string y) ∧ w'.cell? ⟨g, i, none⟩ = some (.string x) ∧ Below wr.heap.size wr w') ((refine ⟨?_, ?_, ?_⟩) <;> assumption) (first | (go_at_call 16; ((first | (with_reducible refine Calls.mono (HA.out _ ?_) ?_) | (with_reducible refine Calls.mono (HX.out _ ?_) ?_)); (· ((refine ⟨?_, ?_, ?_⟩) <;> assumption)); rintro e W' ⟨rfl, hS1, hS2, hS3⟩)))
              all_goals go_wp2
              all_goals exact ⟨⟨i + 1, by go_num, by omega, HR3.out.below (by assumption), B3.trans (Below.mono (by assumption) B3.size)⟩, by simp [intOf]; omega⟩
            · have hjx' : (x.size : Int) ≤ (j : Int) := by omega
              go_wp2_with fail
              go_region_held3 (fun w' => w'.cell? ⟨g, i - 1, none⟩ = some (.string y) ∧ w'.cell? ⟨g, i, none⟩ = some (.string x) ∧ Below wr.heap.size wr w') ((refine ⟨?_, ?_, ?_⟩) <;> assumption) (first | (go_at_call 16; ((first | (with_reducible refine Calls.mono (HA.out _ ?_) ?_) | (with_reducible refine Calls.mono (HX.out _ ?_) ?_)); (· ((refine ⟨?_, ?_, ?_⟩) <;> assumption)); rintro e W' ⟨rfl, hS1, hS2, hS3⟩)))
              all_goals go_wp2
              all_goals exact ⟨⟨i + 1, by go_num, by omega, HR3.out.below (by assumption), B3.trans (Below.mono (by assumption) B3.size)⟩, by simp [intOf]; omega⟩
    · obtain rfl : i = xs.length := by omega
      go_wp2
      go_ret
      exact ⟨rfl, hB⟩
theorem textLines_any (s : ByteArray) (width : Int) (w : World) (h2 : 2 ≤ w.heap.size) (hT : Lib.Utf8Tabs 0 1 w) (hsz : s.size ≤ 1048576) (hlo : -9223372036854775808 ≤ width) (hhi : width ≤ 9223372036854775807) :
    Calls Tryd.prog 8 #[.string s, .int .i64 width] w fun e W' => e = .returned (.bool true) ∧ Below w.heap.size w W' := by
  by_cases h : width < 4
  · exact textLines_low s width w h2 hT hsz hlo h
  · exact textLines_high s width w h2 hT hsz (by omega) hhi
end Go.Proofs.YtdfhpblceoaofaaDoor
