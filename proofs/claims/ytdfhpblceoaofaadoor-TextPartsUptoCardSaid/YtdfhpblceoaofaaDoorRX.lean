/-
  The contract of the document's own Unquote.
-/
import Derived.Test.YtdfhpblceoaofaaDoorRF
import Derived.Deep.RegionLaw
import Derived.Deep.RegionHeldLaw
import Derived.Deep.DrawnRows
namespace Go.Proofs.YtdfhpblceoaofaaDoor
open Go.ChangeShapes Go.WideShapes Go.ChangeAt Go.RowKit Go.Shelf
set_option linter.unusedVariables false
attribute [local go_sem ↓] Go.wp_at_zero Go.wp_at_succ
theorem step_append_own {P : Program} {ops : Array Oper} {o : Oper} {a : Act} {w : World} {K : Act → World → Prop} {Q : Exit → Act → World → Prop} {E : Prop} (hg : o.guard = none) (s x : Operand) (t : TypeId)
    (ho : o.op = .call { callee := .builtin .append, args := #[s, x], argTypes := #[t, t] })
    (base : Nat) (e : TypeId) (i : TypeInfo) (z : Value) (size bytes : Nat) (ht : P.underlying t = some (.slice e)) (hi : P.info? e = some i) (hz : i.zero = some z)
    (hsize : i.size = size) (hby : i.bytes = bytes) (hzs : z.cells.size = size) (hsz : 0 < size)
    (v : Value) (n : Nat) (xs : List Value) (hs : a.eval s = v) (hown : w.ownsRow base e size v n xs)
    (ad : Addr) (m c : Nat) (news : List Value) (hx : a.eval x = .slice (some ad) m c) (hl : news.length = m * size) (hnews : ∀ j u, news[j]? = some u → w.cell? (ad.add j) = some u) (h1 : ∀ u ∈ news, u.oneCell' = true)
    (h63 : n + m ≤ maxLen) (hbytes : (n + m) * bytes ≤ 140737488355328) (hbase : base ≤ w.heap.size)
    (h : ∀ v' w', w'.ownsRow base e size v' (n + m) (xs ++ news) → w.grownBy w' v.ownBlock → (v' = .slice none 0 0 ↔ v = .slice none 0 0 ∧ m = 0) → K (a.put o.dst v') w') :
    if Region.wanted o (yielded ops a.tmps) = true then Oper.wp P o a w K Q else E := by
  have hw : Region.wanted o (yielded ops a.tmps) = true := by simp [Region.wanted, hg]
  rw [if_pos hw]
  exact wp_append_own w s x t ho base e i z size bytes ht hi hz hsize hby hzs hsz v n xs hs hown ad m c news hx hl hnews h1 h63 hbytes hbase h
set_option maxRecDepth 100000 in
set_option maxHeartbeats 4000000 in
theorem runquote_any (s : ByteArray) (w : World) (hsz : s.size ≤ 1099511627776) :
    Calls Tryd.prog 20 #[.string s] w fun e W' => UQs s e ∧ Below w.heap.size w W' := by
  obtain ⟨i0, hi0, hz0, hz1, hz2⟩ := info_parts info5
  have hmx : Tryd.prog.follows .mixedOrders = true := by kernel_rfl
  have hst := Lib.hid (leftU_start s)
  go_enter Tryd.func20, Tryd.ntmps20
  go_wp2
  go_loopw [4, 5] (fun v t wr => ∃ (i : Nat) (pre : List UInt8), t = .int .i64 i ∧ 1 ≤ i ∧ i ≤ s.size + 1 ∧ pre.length + 1 ≤ i ∧ Hid (LeftU s i pre) ∧ wr.ownsRow w.heap.size 5 1 v pre.length (Lib.byteCells pre) ∧ Below w.heap.size w wr) (fun _ t _ => s.size + 1 - (intOf t).toNat)
  case atStart => exact ⟨1, [], rfl, Nat.le_refl _, by omega, Nat.le_refl _, hst, World.ownsRow_nil _ _ _ _, Below.refl _ _⟩
  case round =>
    obtain ⟨i, pre, rfl, hi1, his, hpl, hL, hown, hB⟩ := hrel
    have hzz := hB.size
    by_cases hlt : i + 1 < s.size
    · have hli : i < s.size := by omega
      have hc := lt256 (s[i]'hli)
      have g0 := dropK s i 0 (by omega)
      have hdl : (s.data.toList.drop i).length = s.size - i := by rw [List.length_drop, lenL]
      by_cases h0 : s[i]'hli = 92
      · have hn0 : ((s[i]'hli).toNat : Int) = 92 := by rw [h0]; rfl
        have g0 : (s.data.toList.drop i)[0]? = some 92 := by rw [g0]; exact congrArg some h0
        by_cases h2 : i + 2 < s.size
        · have hl1 : i + 1 < s.size := by omega
          have g1 := dropK s i 1 hl1
          have hc1 := lt256 (s[i + 1]'hl1)
          by_cases hx : s[i + 1]'hl1 = 120
          · have hx1 : ((s[i + 1]'hl1).toNat : Int) = 120 := by rw [hx]; rfl
            have g1 : (s.data.toList.drop i)[1]? = some 120 := by rw [g1]; exact congrArg some hx
            by_cases h4 : i + 4 < s.size
            · have hl2 : i + 2 < s.size := by omega
              have hl3 : i + 3 < s.size := by omega
              have g2 := dropK s i 2 hl2
              have g3 := dropK s i 3 hl3
              have hc2 := lt256 (s[i + 2]'hl2)
              have hc3 := lt256 (s[i + 3]'hl3)
              have key : ∀ c' : UInt8, s[i + 2]'hl2 = hexd (c'.toNat / 16) → s[i + 3]'hl3 = hexd (c'.toNat % 16) → dg (s[i + 2]'hl2) = (c'.toNat / 16 : Nat) ∧ dg (s[i + 3]'hl3) = (c'.toNat % 16 : Nat) := fun c' => dg_c
              have hp0 := dg_ge (s[i + 2]'hl2)
              have hp1 := dg_le (s[i + 2]'hl2)
              have hr0 := dg_ge (s[i + 3]'hl3)
              have hr1 := dg_le (s[i + 3]'hl3)
              obtain ⟨a, ha⟩ : ∃ a, dg (s[i + 2]'hl2) = a := ⟨_, rfl⟩
              obtain ⟨b, hb⟩ : ∃ b, dg (s[i + 3]'hl3) = b := ⟨_, rfl⟩
              have D2 := Lib.hid (digit_eq _ _ ha)
              have S2 := Lib.hid (digit_is _ _ ha)
              have D3 := Lib.hid (digit_eq _ _ hb)
              have S3 := Lib.hid (digit_is _ _ hb)
              rw [ha] at hp0 hp1
              rw [hb] at hr0 hr1
              by_cases hneg : a < 0 ∨ b < 0
              · have N := Lib.hid (leftU_step (c := 120) hL.out hlt (told_other g0 g1 (fun c' _ e2 e3 _ => by
                  have := key c' (Option.some.inj (g2.symm.trans e2)) (Option.some.inj (g3.symm.trans e3))
                  omega)))
                clear key ha hb g0 g1 g2 g3 h0 hx
                rcases Int.lt_or_le a 0 with h | h
                · clear hneg
                  go_wp2_with fail
                  refine (D2.out _).mono ?_
                  rintro e w' ⟨rfl, rfl⟩
                  go_wp2_with (at_builtin; (refine wpList_append_own _ rfl _ _ 55 rfl w.heap.size 5 i0 (.int .u8 0) 1 1 Tryd.underlying55 hi0 hz0 hz1 hz2 rfl (by decide) _ _ _ rfl (hown.alloc _) ⟨wr.heap.size, 0, none⟩ 1 1 [.int .u8 120] rfl rfl (cell_one_new _ _ _) (by simp [Value.oneCell']) (by unfold maxLen; omega) (by omega) (by simp; omega) ?_); intro v' w3 hown3 hgrow3 _)
                  exact ⟨⟨i + 2, pre ++ [120], (by go_num), by omega, by omega, by simp; omega, N, own_one (c := 120) rfl hown3, Below.grown (hB.alloc hzz _) hgrow3 (by simp; omega) (fun j hj => by have := (hown.lt _ hj).1; omega)⟩, by simp [intOf]; omega⟩
                · have h' : b < 0 := by omega
                  clear hneg
                  go_wp2_with fail
                  refine (D2.out _).mono ?_
                  rintro e w' ⟨rfl, rfl⟩
                  go_wp2_with fail
                  refine (D3.out _).mono ?_
                  rintro e w' ⟨rfl, rfl⟩
                  go_wp2_with (at_builtin; (refine wpList_append_own _ rfl _ _ 55 rfl w.heap.size 5 i0 (.int .u8 0) 1 1 Tryd.underlying55 hi0 hz0 hz1 hz2 rfl (by decide) _ _ _ rfl (hown.alloc _) ⟨wr.heap.size, 0, none⟩ 1 1 [.int .u8 120] rfl rfl (cell_one_new _ _ _) (by simp [Value.oneCell']) (by unfold maxLen; omega) (by omega) (by simp; omega) ?_); intro v' w3 hown3 hgrow3 _)
                  exact ⟨⟨i + 2, pre ++ [120], (by go_num), by omega, by omega, by simp; omega, N, own_one (c := 120) rfl hown3, Below.grown (hB.alloc hzz _) hgrow3 (by simp; omega) (fun j hj => by have := (hown.lt _ hj).1; omega)⟩, by simp [intOf]; omega⟩
              · have hap : 0 ≤ a := by omega
                have hbp : 0 ≤ b := by omega
                have N := Lib.hid (leftU_step hL.out hlt (told_hex (c := UInt8.ofNat (a.toNat * 16 + b.toNat)) g0 g1 g2 g3 (fun c' e2 e3 => by
                  have := key c' e2 e3
                  have hc' := UInt8.toNat_lt c'
                  apply UInt8.toNat_inj.1
                  rw [UInt8.toNat_ofNat']
                  omega)))
                clear key ha hb g0 g1 g2 g3 h0 hx hneg
                have hv := Lib.hid (hex_val hap hp1 hbp hr1)
                go_wp2_with fail
                refine (D2.out _).mono ?_
                rintro e w' ⟨rfl, rfl⟩
                go_wp2_with fail
                refine (D3.out _).mono ?_
                rintro e w' ⟨rfl, rfl⟩
                go_wp2_with fail
                have hw2 : IntKind.i64.wrap ((i : Int) + 2) = (i : Int) + 2 := IntWalk.i64_in _ (by omega)
                have hw3 : IntKind.i64.wrap ((i : Int) + 3) = (i : Int) + 3 := IntWalk.i64_in _ (by omega)
                have hb2 : (0 : Int) ≤ (i : Int) + 2 := by omega
                have hb3 : (0 : Int) ≤ (i : Int) + 3 := by omega
                have hs2 : (i : Int) + 2 < (s.size : Int) := by omega
                have hs3 : (i : Int) + 3 < (s.size : Int) := by omega
                have ht2 : ((i : Int) + 2).toNat = i + 2 := by omega
                have ht3 : ((i : Int) + 3).toNat = i + 3 := by omega
                have hm1 : IntKind.i64.wrap (16 * a) = 16 * a := IntWalk.i64_in _ (by omega)
                have hm2 : IntKind.i64.wrap (16 * a + b) = 16 * a + b := IntWalk.i64_in _ (by omega)
                have hm3 : IntKind.u8.wrap (16 * a + b) = 16 * a + b := IntWalk.u8_in _ (by omega)
                clear D2 D3
                have hown2 : ((wr.alloc (.cells #[.int .u8 (16 * a + b)] 5)).drew).ownsRow w.heap.size 5 1 u4 pre.length (Lib.byteCells pre) := hown.alloc _
                have hnew2 : ∀ (j : Nat) (u : Value), [Value.int .u8 (16 * a + b)][j]? = some u → ((wr.alloc (.cells #[.int .u8 (16 * a + b)] 5)).drew).cell? ((⟨wr.heap.size, 0, none⟩ : Addr).add j) = some u := cell_one_new wr _ 5
                have hbs2 : w.heap.size ≤ ((wr.alloc (.cells #[.int .u8 (16 * a + b)] 5)).drew).heap.size := by simp; omega
                have O2 := Lib.hid hown2
                have N2 := Lib.hid hnew2
                clear hown2 hnew2
                go_region_held_law (fun _ => True) (trivial) (first | (go_at_call 41; ((first | (with_reducible refine (S2.out _).mono ?_) | (with_reducible refine (S3.out _).mono ?_)); rintro e w' ⟨rfl, e2⟩; subst e2)) | (refine step_append_own (by rfl) (.tmp 59) (.tmp 73) 55 (by rfl) w.heap.size 5 i0 (.int .u8 0) 1 1 Tryd.underlying55 hi0 hz0 hz1 hz2 rfl (by decide) u4 pre.length _ (by rfl) O2.out ⟨wr.heap.size, 0, none⟩ 1 1 [.int .u8 (16 * a + b)] (by rfl) rfl N2.out (by simp [Value.oneCell']) (by unfold maxLen; omega) (by omega) hbs2 ?_; intro v' w3 hown3 hgrow3 _))
                all_goals go_wp2
                all_goals exact ⟨⟨i + 4, pre ++ [_], (by go_num), by omega, by omega, by simp; omega, N, own_one hv.out hown3, Below.grown ((hB.alloc hzz _).drew) hgrow3 (by simp; omega) (fun j hj => by have := (hown.lt _ hj).1; omega)⟩, by simp [intOf]; omega⟩
            · have N := Lib.hid (leftU_step (c := 120) hL.out hlt (told_other g0 g1 (fun c' _ _ _ e => by omega)))
              clear g0 g1 h0 hx
              go_wp2_with (at_builtin; (refine wpList_append_own _ rfl _ _ 55 rfl w.heap.size 5 i0 (.int .u8 0) 1 1 Tryd.underlying55 hi0 hz0 hz1 hz2 rfl (by decide) _ _ _ rfl (hown.alloc _) ⟨wr.heap.size, 0, none⟩ 1 1 [.int .u8 120] rfl rfl (cell_one_new _ _ _) (by simp [Value.oneCell']) (by unfold maxLen; omega) (by omega) (by simp; omega) ?_); intro v' w3 hown3 hgrow3 _)
              exact ⟨⟨i + 2, pre ++ [120], (by go_num), by omega, by omega, by simp; omega, N, own_one (c := 120) rfl hown3, Below.grown (hB.alloc hzz _) hgrow3 (by simp; omega) (fun j hj => by have := (hown.lt _ hj).1; omega)⟩, by simp [intOf]; omega⟩
          · have hx1 : (((s[i + 1]'hl1).toNat : Int) == 120) = false := u8i (n := 120) (by decide) hx
            have hx1' : ¬ ((s[i + 1]'hl1).toNat : Int) = 120 := by simpa using hx1
            have N := Lib.hid (leftU_step hL.out hlt (told_other g0 g1 (fun c' e _ _ _ => hx (Option.some.inj (g1.symm.trans e)))))
            clear g0 g1 h0 hx
            go_wp2_with (at_builtin; (refine wpList_append_own _ rfl _ _ 55 rfl w.heap.size 5 i0 (.int .u8 0) 1 1 Tryd.underlying55 hi0 hz0 hz1 hz2 rfl (by decide) _ _ _ rfl (hown.alloc _) ⟨wr.heap.size, 0, none⟩ 1 1 [.int .u8 ((s[i + 1]'hl1).toNat : Int)] rfl rfl (cell_one_new _ _ _) (by simp [Value.oneCell']) (by unfold maxLen; omega) (by omega) (by simp; omega) ?_); intro v' w3 hown3 hgrow3 _)
            exact ⟨⟨i + 2, pre ++ [_], (by go_num), by omega, by omega, by simp; omega, N, own_one rfl hown3, Below.grown (hB.alloc hzz _) hgrow3 (by simp; omega) (fun j hj => by have := (hown.lt _ hj).1; omega)⟩, by simp [intOf]; omega⟩
        · have N := Lib.hid (leftU_step (c := 92) hL.out hlt (told_two g0 (by omega) (by omega)))
          clear g0 h0
          go_wp2_with (at_builtin; (refine wpList_append_own _ rfl _ _ 55 rfl w.heap.size 5 i0 (.int .u8 0) 1 1 Tryd.underlying55 hi0 hz0 hz1 hz2 rfl (by decide) _ _ _ rfl (hown.alloc _) ⟨wr.heap.size, 0, none⟩ 1 1 [.int .u8 92] rfl rfl (cell_one_new _ _ _) (by simp [Value.oneCell']) (by unfold maxLen; omega) (by omega) (by simp; omega) ?_); intro v' w3 hown3 hgrow3 _)
          exact ⟨⟨i + 1, pre ++ [92], (by go_num), by omega, by omega, by simp; omega, N, own_one (c := 92) rfl hown3, Below.grown (hB.alloc hzz _) hgrow3 (by simp; omega) (fun j hj => by have := (hown.lt _ hj).1; omega)⟩, by simp [intOf]; omega⟩
      · have hn0 : (((s[i]'hli).toNat : Int) == 92) = false := u8i (n := 92) (by decide) h0
        have hn0' : ¬ ((s[i]'hli).toNat : Int) = 92 := by simpa using hn0
        have N := Lib.hid (leftU_step hL.out hlt (told_plain g0 h0))
        clear g0 h0
        go_wp2_with (at_builtin; (refine wpList_append_own _ rfl _ _ 55 rfl w.heap.size 5 i0 (.int .u8 0) 1 1 Tryd.underlying55 hi0 hz0 hz1 hz2 rfl (by decide) _ _ _ rfl (hown.alloc _) ⟨wr.heap.size, 0, none⟩ 1 1 [.int .u8 ((s[i]'hli).toNat : Int)] rfl rfl (cell_one_new _ _ _) (by simp [Value.oneCell']) (by unfold maxLen; omega) (by omega) (by simp; omega) ?_); intro v' w3 hown3 hgrow3 _)
        exact ⟨⟨i + 1, pre ++ [_], (by go_num), by omega, by omega, by simp; omega, N, own_one rfl hown3, Below.grown (hB.alloc hzz _) hgrow3 (by simp; omega) (fun j hj => by have := (hown.lt _ hj).1; omega)⟩, by simp [intOf]; omega⟩
    · have E := Lib.hid (leftU_end hL.out (by omega))
      have hcv := conv_own hown
      obtain ⟨T, hTe⟩ : ∃ T : ByteArray, T = ⟨pre.toArray⟩ := ⟨_, rfl⟩
      rw [← hTe] at hcv
      have hTs : T.size ≤ 1099511627776 := by rw [hTe]; show pre.toArray.size ≤ _; rw [List.size_toArray]; omega
      obtain ⟨Q, hQ⟩ : ∃ Q : ByteArray, Q = ⟨(34 :: (raL true T (G T 0) ++ [34])).toArray⟩ := ⟨_, rfl⟩
      have hq := rquote_any T wr hTs
      rw [← hQ] at hq
      by_cases hcmp : Q.toList = s.toList
      · have Y : Hid (qtA T = s.data.toList) := Lib.hid (by
          rw [toL, toL, hQ] at hcmp
          unfold qtA; rw [qtL_raL]; simpa using hcmp)
        have U : Hid (∀ v : ByteArray, qtA v = s.data.toList → v = T) := Lib.hid (fun v hv => by rw [hTe]; exact E.out v hv)
        clear hQ hTe
        go_wp2_with fail
        refine hq.mono ?_
        rintro e W2 ⟨rfl, hB2⟩
        go_wp2
        go_ret2
        exact ⟨.inl ⟨T, Y.out, U.out, rfl⟩, hB.trans (hB2.mono hzz)⟩
      · have E2 : Hid (∀ v : ByteArray, ¬ qtA v = s.data.toList) := Lib.hid (fun v hv => by
          have h := E.out v hv
          rw [← hTe] at h
          subst h
          apply hcmp
          rw [toL, toL, hQ, ← hv]
          unfold qtA; rw [qtL_raL])
        clear hQ hTe
        go_wp2_with fail
        refine hq.mono ?_
        rintro e W2 ⟨rfl, hB2⟩
        go_wp2
        all_goals first
          | (go_ret2; exact ⟨.inr ⟨E2.out, rfl⟩, hB.trans (hB2.mono hzz)⟩)
          | (exfalso; exact hcmp (by simpa using ‹(!Q.toList == s.toList) = false›))
end Go.Proofs.YtdfhpblceoaofaaDoor
