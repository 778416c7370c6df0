/-
  alike.
-/
import Derived.Test.YtocdinaomkmcbaaDoorFB
namespace Go.Proofs.YtocdinaomkmcbaaDoor
open Go.ChangeShapes Go.WideShapes Go.ChangeAt Go.RowKit
set_option linter.unusedVariables false

set_option maxRecDepth 100000 in
set_option maxHeartbeats 3200000 in
theorem alike_any (A B : Option Addr) (ca cb : Nat) (l m : List Pl) (w : World) (hA : At w A l) (hB : At w B m) (hn : l.length ≤ 5864062014634) (hm : m.length ≤ 5864062014634) :
    Calls Tryd.prog 38 #[.slice A l.length ca, .slice B m.length cb] w fun e w' => e = .returned (.bool (decide (l = m))) ∧ ∃ k, w' = w.drewN k := by
  by_cases hlen : l.length = m.length
  · have HY : Hid ((∀ i : Nat, i < l.length → l[i]? = m[i]?) → decide (l = m) = true) := Lib.hid (fun h => decide_eq_true (List.ext_getElem? fun i => by
      by_cases hi : i < l.length
      · exact h i hi
      · rw [List.getElem?_eq_none (by omega), List.getElem?_eq_none (by omega)]))
    have HN : Hid (∀ i : Nat, l[i]? ≠ m[i]? → decide (l = m) = false) := Lib.hid (fun i h => decide_eq_false (fun e => h (by rw [e])))
    generalize hd : decide (l = m) = d at *
    clear hd
    have hlen' := hlen
    rw [← hlen] at hm ⊢
    have HL := Lib.hid hlen'
    clear hlen hlen'
    go_enter Tryd.func38, Tryd.ntmps38
    go_wp2_with fail
    go_loopw [5] (fun t wr => ∃ k m' : Nat, t = .int .i64 k ∧ k ≤ l.length ∧ Hid (∀ i, i < k → l[i]? = m[i]?) ∧ wr = w.drewN m') (fun t _ => l.length - (intOf t).toNat)
    case atStart => exact ⟨0, 0, rfl, by omega, Lib.hid (fun i hi => by omega), rfl⟩
    case round =>
      obtain ⟨k, m', rfl, hk, HK, rfl⟩ := hrel
      have hk0 : (0 : Int) ≤ (k : Int) := Int.natCast_nonneg _
      by_cases hlt : k < l.length
      · have hk1 : (k : Int) < (l.length : Int) := by omega
        obtain ⟨x, hx⟩ : ∃ x, l[k]? = some x := ⟨_, List.getElem?_eq_getElem hlt⟩
        obtain ⟨y, hy⟩ : ∃ y, m[k]? = some y := ⟨_, List.getElem?_eq_getElem (by have := HL.out; omega)⟩
        have hA' := hA
        have hB' := hB
        obtain ⟨g, o, rfl, c0, c1⟩ := hA' k x hx
        obtain ⟨g', o', rfl, c2, c3⟩ := hB' k y hy
        by_cases hxy : x = y
        · subst hxy
          have HNX : Hid (∀ i, i < k + 1 → l[i]? = m[i]?) := Lib.hid (fun i hi => by
            by_cases hik : i < k
            · exact HK.out i hik
            · obtain rfl : i = k := by omega
              rw [hx, hy])
          clear hx hy hA hB hA' hB' HK
          go_wp2_with fail
          go_quiet (fail)
          go_wp2
          go_roundw
          case rel => exact ⟨k + 1, _, by go_num, by omega, HNX, rfl⟩
          case measure => simp [intOf]; omega
        · have HS := Lib.hid (HN.out k (by rw [hx, hy]; simpa using hxy))
          clear hx hy hA hB hA' hB' HK
          by_cases hs : x.1 = y.1
          · have hl1 : ¬ x.2 = y.2 := fun h => hxy (Prod.ext hs h)
            have hl2 : decide (x.2 = y.2) = false := decide_eq_false hl1
            have hl3 : (x.2 == y.2) = false := beq_eq_false_iff_ne.2 hl1
            rw [← hs] at c2
            clear hxy hs
            go_wp2_with fail
            go_quiet (fail)
            go_wp2
            go_ret
            exact ⟨by rw [HS.out]; rfl, _, by rw [World.drewN_drewN]⟩
          · have hs2 : ¬ x.1.toList = y.1.toList := fun h => hs (by rw [Lib.toList_data, Lib.toList_data] at h; exact ByteArray.ext (Array.toList_inj.1 h))
            have hs3 : (x.1.toList == y.1.toList) = false := beq_eq_false_iff_ne.2 hs2
            clear hxy
            go_wp2_with fail
            go_quiet (fail)
            go_wp2
            go_ret
            exact ⟨by rw [HS.out]; rfl, _, by rw [World.drewN_drewN]⟩
      · have hk1 : ¬ (k : Int) < (l.length : Int) := by omega
        have HS := Lib.hid (HY.out (fun i hi => HK.out i (by omega)))
        clear hA hB HK
        go_wp2_with fail
        go_ret
        exact ⟨by rw [HS.out]; rfl, m', rfl⟩
  · have HS := Lib.hid (decide_eq_false (fun e => hlen (by rw [e])) : decide (l = m) = false)
    have h1 : ¬ (l.length : Int) = (m.length : Int) := by omega
    have h2 : decide (l.length = m.length) = false := decide_eq_false hlen
    have h3 : ((l.length : Int) == (m.length : Int)) = false := beq_eq_false_iff_ne.2 h1
    have h4 : ((l.length : Int) != (m.length : Int)) = true := bne_iff_ne.2 h1
    generalize decide (l = m) = d at *
    clear hA hB
    go_enter Tryd.func38, Tryd.ntmps38
    go_wp2_with fail
    go_ret
    exact ⟨by rw [HS.out]; rfl, 0, rfl⟩
end Go.Proofs.YtocdinaomkmcbaaDoor
