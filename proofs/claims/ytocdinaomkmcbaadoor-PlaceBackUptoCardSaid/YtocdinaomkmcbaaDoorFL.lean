/-
  Fold and the document's Fold, of any list; an append that tells where it went.
-/
import Derived.Test.YtocdinaomkmcbaaDoorFK
import Derived.Test.YtocdinaomkmcbaaDoorFC
import Derived.Maps.AppendAt
namespace Go.Proofs.YtocdinaomkmcbaaDoor
open Go.ChangeShapes Go.WideShapes Go.ChangeAt Go.RowKit Go.Shelf
set_option linter.unusedVariables false

/-- append to a row that stands: in its place, or in a new block and the elder one is as it was. -/
theorem wpList_append_two {ops : Array Oper} {rest : List Oper} {o : Oper} {a : Act} {w : World} {Q : Exit → Act → World → Prop} (hgd : o.guard = none) (s x : Operand) (t : TypeId)
    (ho : o.op = .call { callee := .builtin .append, args := #[s, x], argTypes := #[t, t] })
    (base : Nat) (e : TypeId) (i : TypeInfo) (z : Value) (size bytes : Nat) (ht : Tryd.prog.underlying t = some (.slice e)) (hi : Tryd.prog.info? e = some i) (hz : i.zero = some z)
    (hsize : i.size = size) (hby : i.bytes = bytes) (hzs : z.cells.size = size) (hsz : 0 < size)
    (g n cap : Nat) (xs : List Value) (hs : a.eval s = .slice (some ⟨g, 0, none⟩) n cap) (hown : w.ownsRow base e size (.slice (some ⟨g, 0, none⟩) n cap) n xs)
    (ad : Addr) (m c : Nat) (news : List Value) (hx : a.eval x = .slice (some ad) m c) (hl : news.length = m * size) (hnews : ∀ j u, news[j]? = some u → w.cell? (ad.add j) = some u) (h1 : ∀ u ∈ news, u.oneCell' = true)
    (hm : 0 < m) (h63 : n + m ≤ maxLen) (hbytes : (n + m) * bytes ≤ 140737488355328) (hbase : base ≤ w.heap.size)
    (h : ∀ g' cap' w', w'.ownsRow base e size (.slice (some ⟨g', 0, none⟩) (n + m) cap') (n + m) (xs ++ news) → ((g' = g ∧ cap' = cap ∧ w.grownBy w' (some g)) ∨ (g' = w.heap.size ∧ w.grownBy w' none)) → wpList Tryd.prog ops Q rest (a.put o.dst (.slice (some ⟨g', 0, none⟩) (n + m) cap')) w') :
    wpList Tryd.prog ops Q (o :: rest) a w := by
  refine wpList_plain hgd fun K hK => ?_
  obtain ⟨g', cap', w', hr, h2, h3⟩ : ∃ g' cap' w', (Builtin.append_ #[t, t] o.type #[.slice (some ⟨g, 0, none⟩) n cap, .slice (some ad) m c]).run Tryd.prog w = .ok (.slice (some ⟨g', 0, none⟩) (n + m) cap') w' ∧ w'.ownsRow base e size (.slice (some ⟨g', 0, none⟩) (n + m) cap') (n + m) (xs ++ news) ∧ ((g' = g ∧ cap' = cap ∧ w.grownBy w' (some g)) ∨ (g' = w.heap.size ∧ w.grownBy w' none)) := by
    by_cases hroom : n + m ≤ cap
    · obtain ⟨w', hr, h2, h3⟩ := run_append_fits (P := Tryd.prog) w base t o.type e i size ht hi hsize g n cap xs hown ad m c news hl hnews h1 hroom
      exact ⟨g, cap, w', hr, h2, .inl ⟨rfl, rfl, h3⟩⟩
    · obtain ⟨g', cap', w', hr, h2, _⟩ := run_append_lies (P := Tryd.prog) w t o.type base e i z size bytes ht hi hz hsize hby hzs hsz _ n xs hown ad m c news hl hnews h1 hm h63 hbytes hbase w.heap.size rfl
      have holds := hown.cells (g := g) rfl
      subst hsize
      subst hby
      have hr2 := run_append_grow (P := Tryd.prog) w t o.type e i z ht hi hz ⟨g, 0, none⟩ n cap xs hown.1 holds ad m c news hl hnews (by omega) (by unfold maxLen at h63; omega) (growslice_fits (by omega) hbytes)
      rw [hr] at hr2
      simp only [Result.ok.injEq, Value.slice.injEq, Option.some.injEq, Addr.mk.injEq, and_true, true_and] at hr2
      obtain ⟨⟨rfl, rfl⟩, rfl⟩ := hr2
      exact ⟨_, _, _, hr, h2, .inr ⟨rfl, ⟨rfl, rfl, rfl, by simp, fun k hk _ => Below.heap_alloc w.drew _ k hk⟩⟩⟩
  unfold Oper.wp execOp
  simp only [ho, resolve, invoke, builtin, Sem.run_bind, Sem.run_pure, Result.andThen_ok, List.map_toArray, List.map_cons, List.map_nil, hs, hx, hr]
  exact hK _ _ (h g' cap' w' h2 h3)
/-- The front of a row is a row. -/
theorem own_front {W : World} {B e g n k c : Nat} {zs : List Value} (h : W.ownsRow B e 2 (.slice (some ⟨g, 0, none⟩) (n + k) c) (n + k) zs) : W.ownsRow B e 2 (.slice (some ⟨g, 0, none⟩) n c) n (zs.take (n * 2)) := by
  refine ⟨by rw [List.length_take, h.1]; omega, ?_⟩
  rcases h.2 with ⟨h', _⟩ | ⟨g', cap, cur, h', hb, hg, h1, h2, h3, h4⟩
  · simp at h'
  · simp only [Value.slice.injEq, Option.some.injEq, Addr.mk.injEq, and_true, true_and] at h'
    obtain ⟨rfl, rfl⟩ := h'
    refine .inr ⟨g, c, cur, rfl, hb, hg, by omega, h2, h3, ?_⟩
    rw [← h4, List.take_take, Nat.min_eq_left (by omega)]

theorem fdF_FS {l : List Pl} : ∀ (f n : Nat) (rs : List Rn) (al : Bool), FS l n rs al → l.length ≤ n + f → ∃ al', FS l l.length (fdF f (l.drop n) rs al) al' := by
  intro f
  induction f with
  | zero =>
    intro n rs al h hf
    obtain rfl : n = l.length := by have := h.ats; omega
    exact ⟨al, h⟩
  | succ f ih =>
    intro n rs al h hf
    by_cases hlt : n < l.length
    · obtain ⟨p, hp⟩ : ∃ p, l[n]? = some p := ⟨_, List.getElem?_eq_getElem hlt⟩
      rw [drop_head hp, fdF]
      have hb : bst (p :: l.drop (n + 1)) 8 = bst (l.drop n) 8 := by rw [drop_head hp]
      by_cases h1 : (bst (p :: l.drop (n + 1)) 8).2 = 1
      · rw [if_pos h1]
        rw [hb] at h1
        cases al with
        | false => exact ih (n + 1) _ _ (h.first hp h1) (by omega)
        | true =>
          obtain ⟨rs', ps, rfl⟩ := h.last.1 rfl
          show ∃ al', FS l l.length (fdF f _ (addP (rs' ++ [(ps, 1)]) p) true) al'
          rw [addP_snoc]
          exact ih (n + 1) _ _ (h.more hp h1) (by omega)
      · rw [if_neg h1]
        rw [hb] at h1
        obtain ⟨_, h1b, h1k⟩ := bst_le (l := l.drop n) (by simp; omega) 8
        obtain ⟨hF, _⟩ := h.block (b := (bst (l.drop n) 8).1) (k := (bst (l.drop n) 8).2) hlt rfl (by omega)
        have hge : 1 ≤ (bst (l.drop n) 8).1 * (bst (l.drop n) 8).2 := Nat.mul_pos h1b h1k
        obtain ⟨al', h'⟩ := ih _ _ _ hF (by omega)
        rw [hb, ← drop_head hp, List.drop_drop]
        exact ⟨al', h'⟩
    · obtain rfl : n = l.length := by have := h.ats; omega
      rw [List.drop_length, fdF_nil]
      exact ⟨al, h⟩
theorem fd_FS (l : List Pl) : ∃ al, FS l l.length (fd l) al := by
  have := fdF_FS l.length 0 [] false (FS.start l) (by omega)
  rwa [List.drop_zero] at this
/-- What Fold answers, of any list. -/
def fdR (l : List Pl) : List Rn := if chk l = 0 then fd l else []
theorem fdR_len (l : List Pl) : (fdR l).length ≤ 64 ∧ ∀ r ∈ fdR l, r.1.length ≤ 64 := by
  unfold fdR
  split
  · rename_i h
    have h64 := (chk_ok.1 h).2
    obtain ⟨al, hF⟩ := fd_FS l
    refine ⟨Nat.le_trans hF.cnt h64, fun r hr => ?_⟩
    have h1 := hF.few
    have h2 : r.1.length ≤ ((fd l).map fun r => r.1.length).sum := by
      obtain ⟨a, b, hab⟩ := List.append_of_mem hr
      rw [hab]; simp; omega
    omega
  · simp

theorem fold_bad (A : Option Addr) (cap : Nat) (l : List Pl) (w : World) (hA : At w A l) (hn : l.length ≤ 5864062014634) (hc : chk l ≠ 0) :
    Calls Tryd.prog 26 #[.slice A l.length cap] w fun e w' => e = .returned (.tuple #[.slice none 0 0, .int .i64 (chk l)]) ∧ Below w.heap.size w w' := by
  have H1 := Lib.hid (check_any A cap l w hA hn)
  generalize hcl : chk l = c at *
  have hne : (c != 0) = true := by simpa using hc
  clear hc hcl hA
  go_enter Tryd.func26, Tryd.ntmps26
  go_wp2_with fail
  refine H1.out.mono ?_
  rintro e W ⟨rfl, hB⟩
  go_wp2
  go_ret2
  exact ⟨rfl, hB⟩
theorem rfold_bad (A : Option Addr) (cap : Nat) (l : List Pl) (w : World) (hA : At w A l) (hn : l.length ≤ 5864062014634) (hc : chk l ≠ 0) :
    Calls Tryd.prog 27 #[.slice A l.length cap] w fun e w' => e = .returned (.tuple #[.slice none 0 0, .int .i64 (chk l)]) ∧ Below w.heap.size w w' := by
  have H1 := Lib.hid (rcheck_any A cap l w hA hn)
  generalize hcl : chk l = c at *
  have hne : (c != 0) = true := by simpa using hc
  clear hc hcl hA
  go_enter Tryd.func27, Tryd.ntmps27
  go_wp2_with fail
  refine H1.out.mono ?_
  rintro e W ⟨rfl, hB⟩
  go_wp2
  go_ret2
  exact ⟨rfl, hB⟩
theorem fold_any (A : Option Addr) (cap : Nat) (l : List Pl) (w : World) (hA : At w A l) (hcap : l.length ≤ cap) (hn : l.length ≤ 5864062014634) :
    Calls Tryd.prog 26 #[.slice A l.length cap] w fun e w' => ∃ v, e = .returned (.tuple #[v, .int .i64 (chk l)]) ∧ FW w (fdR l) v w' := by
  unfold fdR
  split
  · rename_i h
    rw [h]
    exact fold_good A cap l w hA hcap h (chk_ok.1 h).2
  · rename_i h
    exact (fold_bad A cap l w hA hn h).mono fun e w' ⟨he, hb⟩ => ⟨_, he, ⟨[], World.ownsRow_nil _ _ _ _, RwP.nil _ _ _ _⟩, hb⟩
theorem rfold_any (A : Option Addr) (cap : Nat) (l : List Pl) (w : World) (hA : At w A l) (hcap : l.length ≤ cap) (hn : l.length ≤ 5864062014634) :
    Calls Tryd.prog 27 #[.slice A l.length cap] w fun e w' => ∃ v, e = .returned (.tuple #[v, .int .i64 (chk l)]) ∧ GW w (fdR l) v w' := by
  unfold fdR
  split
  · rename_i h
    rw [h]
    exact rfold_good A cap l w hA hcap h (chk_ok.1 h).2
  · rename_i h
    exact (rfold_bad A cap l w hA hn h).mono fun e w' ⟨he, hb⟩ => ⟨_, he, ⟨[], World.ownsRow_nil _ _ _ _, RwP.nil _ _ _ _⟩, hb⟩
/-- A row's capacity. -/
theorem own_form_cap {w : World} {base : Nat} {e : TypeId} {v : Value} {l : List Pl} (h : w.ownsRow base e 2 v l.length (flat l)) : ∃ A cap, v = .slice A l.length cap ∧ At w A l ∧ l.length ≤ cap := by
  obtain ⟨A, cap, rfl, ha, _⟩ := own_form h
  refine ⟨A, cap, rfl, ha, ?_⟩
  rcases h.2 with ⟨h', h0⟩ | ⟨g, cap', cur, h', _, _, h1, _⟩
  · rw [h0]; omega
  · simp only [Value.slice.injEq] at h'
    omega
end Go.Proofs.YtocdinaomkmcbaaDoor
