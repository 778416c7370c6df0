/-
  The contract of readByte.
-/
import Derived.Test.YtdfhpblceoaofaaDoorMA
import Derived.Test.YtdfhpblceoaofaaDoorShelf
import Derived.Lib.IndexLaws
namespace Go.Proofs.YtdfhpblceoaofaaDoor
open Go.ChangeShapes Go.WideShapes Go.ChangeAt Go.RowKit Go.Shelf
set_option linter.unusedVariables false

/-- What stands first in quotes. -/
theorem qb_inv {L q t rest : List UInt8} (hL : L = q ++ 34 :: rest) (h : QB q t) (hq : q ≠ []) :
    (∃ c q' t', L[0]? = some c ∧ c ≠ 34 ∧ c ≠ 92 ∧ t = c :: t' ∧ q = L.take 1 ++ q' ∧ QB q' t') ∨
    (∃ d q' t', L[0]? = some 92 ∧ L[1]? = some d ∧ (d = 92 ∨ d = 34) ∧ t = d :: t' ∧ q = L.take 2 ++ q' ∧ QB q' t') ∨
    (∃ c : UInt8, ∃ q' t', L[0]? = some 92 ∧ L[1]? = some 120 ∧ L[2]? = some (hexd (c.toNat / 16)) ∧ L[3]? = some (hexd (c.toNat % 16)) ∧ 5 ≤ L.length ∧ t = c :: t' ∧ q = L.take 4 ++ q' ∧ QB q' t') := by
  subst hL
  cases h with
  | nil => exact absurd rfl hq
  | plain h3 h9 h => exact .inl ⟨_, _, _, rfl, h3, h9, rfl, rfl, h⟩
  | esc hd h => exact .inr (.inl ⟨_, _, _, rfl, rfl, hd, rfl, rfl, h⟩)
  | hex h => exact .inr (.inr ⟨_, _, _, rfl, rfl, rfl, rfl, by simp; omega, rfl, rfl, h⟩)

/-- What readByte tells of bytes. -/
def Told (L : List UInt8) (c : UInt8) (k : Nat) (ok : Bool) : Prop :=
  (ok = true → 1 ≤ k ∧ k ≤ L.length) ∧ ∀ q t rest, L = q ++ 34 :: rest → QB q t → q ≠ [] → ok = true ∧ ∃ q' t', t = c :: t' ∧ q = L.take k ++ q' ∧ QB q' t'

theorem told_plain {L : List UInt8} {a : UInt8} (h0 : L[0]? = some a) (h : a ≠ 92) : Told L a 1 true := by
  have hl : 1 ≤ L.length := by obtain ⟨h, _⟩ := List.getElem?_eq_some_iff.1 h0; omega
  refine ⟨fun _ => ⟨Nat.le_refl _, hl⟩, fun q t rest hL hQ hq => ⟨rfl, ?_⟩⟩
  rcases qb_inv hL hQ hq with ⟨c, q', t', e, _, _, ht, hq', h'⟩ | ⟨d, q', t', e, _⟩ | ⟨d, q', t', e, _⟩
  · rw [h0] at e; cases e; exact ⟨q', t', ht, hq', h'⟩
  · rw [h0] at e; cases e; exact absurd rfl h
  · rw [h0] at e; cases e; exact absurd rfl h
theorem told_esc {L : List UInt8} {d : UInt8} (h0 : L[0]? = some 92) (h1 : L[1]? = some d) (h : d = 92 ∨ d = 34) : Told L d 2 true := by
  have hl : 2 ≤ L.length := by obtain ⟨h, _⟩ := List.getElem?_eq_some_iff.1 h1; omega
  refine ⟨fun _ => ⟨by omega, hl⟩, fun q t rest hL hQ hq => ⟨rfl, ?_⟩⟩
  rcases qb_inv hL hQ hq with ⟨c, q', t', e, _, h9, _⟩ | ⟨d', q', t', _, e, _, ht, hq', h'⟩ | ⟨c, q', t', _, e, _⟩
  · rw [h0] at e; cases e; exact absurd rfl h9
  · rw [h1] at e; cases e; exact ⟨q', t', ht, hq', h'⟩
  · rw [h1] at e; cases e; rcases h with h | h <;> cases h
theorem told_hex {L : List UInt8} {x y c : UInt8} (h0 : L[0]? = some 92) (h1 : L[1]? = some 120) (h2 : L[2]? = some x) (h3 : L[3]? = some y)
    (h : ∀ c' : UInt8, x = hexd (c'.toNat / 16) → y = hexd (c'.toNat % 16) → c' = c) : Told L c 4 true := by
  have hl : 4 ≤ L.length := by obtain ⟨h, _⟩ := List.getElem?_eq_some_iff.1 h3; omega
  refine ⟨fun _ => ⟨by omega, hl⟩, fun q t rest hL hQ hq => ⟨rfl, ?_⟩⟩
  rcases qb_inv hL hQ hq with ⟨c, q', t', e, _, h9, _⟩ | ⟨d', q', t', _, e, hd, ht, hq', h'⟩ | ⟨c', q', t', _, _, e2, e3, _, ht, hq', h'⟩
  · rw [h0] at e; cases e; exact absurd rfl h9
  · rw [h1] at e; cases e; rcases hd with h | h <;> cases h
  · rw [h2] at e2; rw [h3] at e3; cases e2; cases e3
    rw [h c' rfl rfl] at ht; exact ⟨q', t', ht, hq', h'⟩
theorem told_no {L : List UInt8} (h0 : L[0]? = some 92) (h1 : ∀ d, L[1]? = some d → d ≠ 92 ∧ d ≠ 34)
    (h : ∀ c' : UInt8, L[1]? = some 120 → L[2]? = some (hexd (c'.toNat / 16)) → L[3]? = some (hexd (c'.toNat % 16)) → 5 ≤ L.length → False) : Told L 0 0 false := by
  refine ⟨fun h => absurd h (by decide), fun q t rest hL hQ hq => ?_⟩
  rcases qb_inv hL hQ hq with ⟨c, q', t', e, _, h9, _⟩ | ⟨d', q', t', _, e, hd, ht, hq', h'⟩ | ⟨c', q', t', _, e1, e2, e3, e4, _⟩
  · rw [h0] at e; cases e; exact absurd rfl h9
  · exact absurd hd (by have := h1 _ e; simp [this.1, this.2])
  · exact (h c' e1 e2 e3 e4).elim

def digL : List UInt8 := [48, 49, 50, 51, 52, 53, 54, 55, 56, 57, 97, 98, 99, 100, 101, 102]
/-- What a digit is worth. -/
def dg (x : UInt8) : Int := Lib.indexByte digL x
theorem dg_hex : ∀ n < 16, dg (hexd n) = (n : Int) := by decide
theorem dg_ge (x : UInt8) : -1 ≤ dg x := Lib.indexByte_ge _ _
theorem dg_le (x : UInt8) : dg x ≤ 15 := by
  unfold dg
  have h := Lib.indexByte_ge digL x
  rcases Int.lt_or_le (Lib.indexByte digL x) 0 with h' | h'
  · omega
  · obtain ⟨n, hn⟩ : ∃ n : Nat, Lib.indexByte digL x = (n : Int) := ⟨(Lib.indexByte digL x).toNat, by omega⟩
    have := (Lib.indexByte_some hn).1
    obtain ⟨h2, _⟩ := List.getElem?_eq_some_iff.1 this
    have : digL.length = 16 := rfl
    omega
theorem dg_c {x y c' : UInt8} (hx : x = hexd (c'.toNat / 16)) (hy : y = hexd (c'.toNat % 16)) : dg x = (c'.toNat / 16 : Nat) ∧ dg y = (c'.toNat % 16 : Nat) := by
  have := UInt8.toNat_lt c'
  subst hx; subst hy
  exact ⟨dg_hex _ (by omega), dg_hex _ (by omega)⟩
theorem idx_dg (x : UInt8) : Lib.indexByte (({ data := #[48, 49, 50, 51, 52, 53, 54, 55, 56, 57, 97, 98, 99, 100, 101, 102] } : ByteArray)).data.toList ((x.toNat : Int).toNat.toUInt8) = dg x := by
  have : (x.toNat : Int).toNat.toUInt8 = x := by simp
  rw [this]; rfl
theorem getL (s : ByteArray) (j : Nat) (h : j < s.size) : s.data.toList[j]? = some (s[j]'h) := by
  rw [List.getElem?_eq_getElem (by simpa using h)]; rfl
theorem u8ne {a : UInt8} {n : Nat} (hn : n < 256) (h : ((a.toNat : Int) == (n : Int)) = false) : a ≠ UInt8.ofNat n := by
  intro e; subst e; simp at h; omega

theorem lenL (s : ByteArray) : s.data.toList.length = s.size := by simp
theorem u8i {a : UInt8} {n : Nat} (hn : n < 256) (h : a ≠ UInt8.ofNat n) : ((a.toNat : Int) == (n : Int)) = false := by
  have : ¬ (a.toNat : Int) = (n : Int) := fun e => h (by
    have e2 : a.toNat = n := by omega
    rw [← e2]; simp)
  simpa using this

theorem below_drewN (B : Nat) (w : World) (n : Nat) : Below B w (w.drewN n) := ⟨rfl, rfl, rfl, Nat.le_refl _, fun _ _ => rfl⟩
theorem idxb (x : UInt8) (a : Int) (h : dg x = a) (w : World) :
    Calls Tryd.prog 64 #[.string { data := #[48, 49, 50, 51, 52, 53, 54, 55, 56, 57, 97, 98, 99, 100, 101, 102] }, .int .u8 (x.toNat : Int)] w fun e w' => e = .returned (.int .i64 a) ∧ w' = w := by
  refine (Tryd.strings_IndexByte _ _ w).mono ?_
  rintro e w' ⟨rfl, rfl⟩
  rw [idx_dg, h]; exact ⟨rfl, rfl⟩
theorem or_hex : ∀ a b : Fin 16, bits BinOp.or IntKind.i64 (((a.val : Nat) : Int) * 16) ((b.val : Nat) : Int) % 256 = (((UInt8.ofNat (a.val * 16 + b.val)).toNat : Nat) : Int) := by decide +kernel
theorem or_hex' {a b : Int} (ha0 : 0 ≤ a) (ha1 : a ≤ 15) (hb0 : 0 ≤ b) (hb1 : b ≤ 15) : bits BinOp.or IntKind.i64 (a * 16) b % 256 = (((UInt8.ofNat (a.toNat * 16 + b.toNat)).toNat : Nat) : Int) := by
  have := or_hex ⟨a.toNat, by omega⟩ ⟨b.toNat, by omega⟩
  simp only [Int.toNat_of_nonneg ha0, Int.toNat_of_nonneg hb0] at this
  exact this
theorem ret3 {a b : Int} {k : Value} {o : Value} (h : a = b) : Ending.returned (.tuple #[.int .u8 a, k, o]) = .returned (.tuple #[.int .u8 b, k, o]) := by rw [h]
/-- What readByte returns. -/
def RBs (s : ByteArray) (e : Ending) : Prop := ∃ (c : UInt8) (k : Nat) (ok : Bool), e = .returned (.tuple #[.int .u8 (c.toNat : Int), .int .i64 (k : Int), .bool ok]) ∧ Told s.data.toList c k ok
set_option maxRecDepth 100000 in
set_option maxHeartbeats 4000000 in
theorem readByte_any (s : ByteArray) (w : World) (hs : 0 < s.size) :
    Calls Tryd.prog 56 #[.string s] w fun e W' => RBs s e ∧ Below w.heap.size w W' := by
  have g0 := getL s 0 hs
  have hc0 := lt256 (s[0]'hs)
  by_cases h0 : s[0]'hs = 92
  · have T0 : s.data.toList[0]? = some 92 := by rw [g0, h0]
    have hn0 : ((s[0]'hs).toNat : Int) = 92 := by rw [h0]; rfl
    clear g0
    by_cases h2 : 2 ≤ s.size
    · have g1 := getL s 1 (by omega)
      have hc1 := lt256 (s[1]'(by omega))
      by_cases h1 : s[1]'(by omega) = 92
      · have TT := Lib.hid (told_esc T0 (g1.trans (congrArg some h1)) (.inl rfl))
        have hn1 : ((s[1]'(by omega)).toNat : Int) = 92 := by rw [h1]; rfl
        clear T0 h0 g1 h1
        go_enter Tryd.func56, Tryd.ntmps56
        go_wp2
        go_ret3
        exact ⟨⟨92, 2, true, rfl, TT.out⟩, Below.refl _ _⟩
      · have hn1 : (((s[1]'(by omega)).toNat : Int) == 92) = false := u8i (n := 92) (by decide) h1
        by_cases h1' : s[1]'(by omega) = 34
        · have TT := Lib.hid (told_esc T0 (g1.trans (congrArg some h1')) (.inr rfl))
          have hm1 : ((s[1]'(by omega)).toNat : Int) = 34 := by rw [h1']; rfl
          clear T0 h0 g1 h1 h1' hn1
          go_enter Tryd.func56, Tryd.ntmps56
          go_wp2
          go_ret3
          exact ⟨⟨34, 2, true, rfl, TT.out⟩, Below.refl _ _⟩
        · have hm1 : (((s[1]'(by omega)).toNat : Int) == 34) = false := u8i (n := 34) (by decide) h1'
          by_cases h4 : 4 ≤ s.size
          · by_cases hx : s[1]'(by omega) = 120
            · have hy1 : ((s[1]'(by omega)).toNat : Int) = 120 := by rw [hx]; rfl
              have g2 := getL s 2 (by omega)
              have g3 := getL s 3 (by omega)
              rw [hx] at g1
              have ha0 := dg_ge (s[2]'(by omega))
              have ha1 := dg_le (s[2]'(by omega))
              have hb0 := dg_ge (s[3]'(by omega))
              have hb1 := dg_le (s[3]'(by omega))
              have key : ∀ c' : UInt8, s[2]'(by omega) = hexd (c'.toNat / 16) → s[3]'(by omega) = hexd (c'.toNat % 16) → dg (s[2]'(by omega)) = (c'.toNat / 16 : Nat) ∧ dg (s[3]'(by omega)) = (c'.toNat % 16 : Nat) := fun c' => dg_c
              obtain ⟨a, ha⟩ : ∃ a, dg (s[2]'(by omega)) = a := ⟨_, rfl⟩
              obtain ⟨b, hb⟩ : ∃ b, dg (s[3]'(by omega)) = b := ⟨_, rfl⟩
              have i2 : (2 : Int) < (s.size : Int) := by omega
              have i3 : (3 : Int) < (s.size : Int) := by omega
              have c2 := idxb _ _ ha
              have c3 := idxb _ _ hb
              rw [ha] at ha0 ha1
              rw [hb] at hb0 hb1
              by_cases hneg : a < 0 ∨ b < 0
              · have TT := Lib.hid (told_no T0 (fun d e => by rw [← Option.some.inj (g1.symm.trans e)]; decide) (fun c' _ e2 e3 _ => by
                  have := key c' (Option.some.inj (g2.symm.trans e2)) (Option.some.inj (g3.symm.trans e3))
                  omega))
                clear key ha hb g1 g2 g3 hx h1 h1' h0 T0
                have C2 := Lib.hid c2
                have C3 := Lib.hid c3
                clear c2 c3
                rcases Int.lt_or_le a 0 with h | h
                · go_enter Tryd.func56, Tryd.ntmps56
                  go_wp2
                  go_quiet (first | (go_at_call 64; refine Calls.quiet_of_same (C2.out _)) | (go_at_call 64; refine Calls.quiet_of_same (C3.out _)))
                  go_wp2
                  go_ret3
                  exact ⟨⟨0, 0, false, rfl, TT.out⟩, below_drewN _ _ _⟩
                · have h' : b < 0 := by omega
                  clear hneg
                  go_enter Tryd.func56, Tryd.ntmps56
                  go_wp2
                  go_quiet (first | (go_at_call 64; refine Calls.quiet_of_same (C2.out _)) | (go_at_call 64; refine Calls.quiet_of_same (C3.out _)))
                  go_wp2
                  go_ret3
                  exact ⟨⟨0, 0, false, rfl, TT.out⟩, below_drewN _ _ _⟩
              · have hap : 0 ≤ a := by omega
                have hbp : 0 ≤ b := by omega
                have TT := Lib.hid (told_hex (c := UInt8.ofNat (a.toNat * 16 + b.toNat)) T0 g1 g2 g3 (fun c' e2 e3 => by
                  have := key c' e2 e3
                  have hc' := UInt8.toNat_lt c'
                  apply UInt8.toNat_inj.1
                  rw [UInt8.toNat_ofNat']
                  omega))
                clear key ha hb g1 g2 g3 hx h1 h1' h0 T0 hneg
                have C2 := Lib.hid c2
                have C3 := Lib.hid c3
                clear c2 c3
                go_enter Tryd.func56, Tryd.ntmps56
                go_wp2
                go_quiet (first | (go_at_call 64; refine Calls.quiet_of_same (C2.out _)) | (go_at_call 64; refine Calls.quiet_of_same (C3.out _)))
                go_wp2
                go_ret3
                refine ⟨⟨_, 4, true, ?_, TT.out⟩, below_drewN _ _ _⟩
                exact ret3 (or_hex' hap ha1 hbp hb1)
            · have TT := Lib.hid (told_no T0 (fun d e => by rw [← Option.some.inj (g1.symm.trans e)]; exact ⟨h1, h1'⟩) (fun c' e _ _ _ => hx (Option.some.inj (g1.symm.trans e))))
              have hy1 : (((s[1]'(by omega)).toNat : Int) == 120) = false := u8i (n := 120) (by decide) hx
              clear T0 h0 g1 h1 h1' hx
              go_enter Tryd.func56, Tryd.ntmps56
              go_wp2
              go_ret3
              exact ⟨⟨0, 0, false, rfl, TT.out⟩, Below.refl _ _⟩
          · have TT := Lib.hid (told_no T0 (fun d e => by rw [← Option.some.inj (g1.symm.trans e)]; exact ⟨h1, h1'⟩) (fun c' _ _ _ e => by rw [lenL] at e; omega))
            clear T0 h0 g1 h1 h1'
            go_enter Tryd.func56, Tryd.ntmps56
            go_wp2
            go_ret3
            exact ⟨⟨0, 0, false, rfl, TT.out⟩, Below.refl _ _⟩
    · have TT := Lib.hid (told_no T0 (fun d e => by
        obtain ⟨h, _⟩ := List.getElem?_eq_some_iff.1 e
        rw [lenL] at h; omega) (fun c' _ _ _ e => by rw [lenL] at e; omega))
      clear T0 h0
      go_enter Tryd.func56, Tryd.ntmps56
      go_wp2
      go_ret3
      exact ⟨⟨0, 0, false, rfl, TT.out⟩, Below.refl _ _⟩
  · have TT := Lib.hid (told_plain g0 h0)
    have hn0 : (((s[0]'hs).toNat : Int) == 92) = false := u8i (n := 92) (by decide) h0
    clear g0 h0
    go_enter Tryd.func56, Tryd.ntmps56
    go_wp2
    go_ret3
    exact ⟨⟨s[0]'hs, 1, true, rfl, TT.out⟩, Below.refl _ _⟩
end Go.Proofs.YtdfhpblceoaofaaDoor
