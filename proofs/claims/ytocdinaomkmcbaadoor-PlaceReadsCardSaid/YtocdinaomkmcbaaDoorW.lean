/-
  Trim whatever the list; rows of texts; a list of places that are all to be cut off.
-/
import Derived.Test.YtocdinaomkmcbaaDoorV
namespace Go.Proofs.YtocdinaomkmcbaaDoor
open Go.ChangeShapes Go.WideShapes Go.ChangeAt Go.RowKit Go.Shelf
set_option linter.unusedVariables false

/-- What Trim answers, nothing where the list is refused. -/
def trR (l : List Pl) (ps : List ByteArray) : List Pl := if chk l = 0 then trm l ps else []
theorem trim_u (g o cap cb : Nat) (B : Option Addr) (l : List Pl) (ps : List ByteArray) (w : World) (hA : At w (some ⟨g, o, none⟩) l) (hB : AtS w B ps) (hn : l.length ≤ 5864062014634) (hm : ps.length ≤ 8796093022207) (hcap : l.length ≤ cap) :
    Calls Tryd.prog 24 #[.slice (some ⟨g, o, none⟩) l.length cap, .slice B ps.length cb] w fun e w' => ∃ v, e = .returned (.tuple #[v, .int .i64 (chk l)]) ∧ w'.ownsRow w.heap.size 48 2 v (trR l ps).length (flat (trR l ps)) ∧ Below w.heap.size w w' := by
  by_cases hc : chk l = 0
  · unfold trR
    rw [if_pos hc, hc]
    exact trim_good g o cap cb B l ps w hA hB hn hm hc hcap
  · unfold trR
    rw [if_neg hc]
    exact (trim_bad _ B cap cb l ps w hA hn hc).mono fun e w' ⟨he, hb⟩ => ⟨_, he, World.ownsRow_nil _ _ _ _, hb⟩
theorem rtrim_u (A B : Option Addr) (cap cb base : Nat) (l : List Pl) (ps : List ByteArray) (w : World) (hown : w.ownsRow base 102 2 (.slice A l.length cap) l.length (flat l)) (hB : AtS w B ps) (hn : l.length ≤ 5864062014634) (hm : ps.length ≤ 8796093022207) :
    Calls Tryd.prog 25 #[.slice A l.length cap, .slice B ps.length cb] w fun e w' => ∃ v, e = .returned (.tuple #[v, .int .i64 (chk l)]) ∧ w'.ownsRow w.heap.size 102 2 v (trR l ps).length (flat (trR l ps)) ∧ Below w.heap.size w w' := by
  by_cases hc : chk l = 0
  · unfold trR
    rw [if_pos hc, hc]
    rcases hown.2 with ⟨h1, h2⟩ | ⟨g, cap', cur, h1, _, _, h3, _⟩
    · obtain rfl : l = [] := List.eq_nil_of_length_eq_zero h2
      injection h1 with e1 e2 e3
      subst e1; subst e3
      exact rtrim_nil cb B ps w
    · injection h1 with e1 e2 e3
      subst e1; subst e3
      obtain ⟨A', c', e, hA, _⟩ := own_form hown
      injection e with e1 e2 e3
      subst e1
      exact rtrim_some g 0 cap cb B l ps w hA hB hn hm hc h3
  · unfold trR
    rw [if_neg hc]
    obtain ⟨A', c', e, hA, _⟩ := own_form hown
    injection e with e1 e2 e3
    subst e1
    exact (rtrim_bad A B cap cb l ps w hA hn hc).mono fun e w' ⟨he, hb⟩ => ⟨_, he, World.ownsRow_nil _ _ _ _, hb⟩

theorem info9 : (Tryd.prog.info? 9).map (fun i => (i.zero, i.size, i.bytes)) = some (some (.string ByteArray.empty), 1, 16) := by kernel_rfl
def strs (l : List ByteArray) : List Value := l.map Value.string
theorem ats_own {w : World} {base g cap n : Nat} {l : List ByteArray} {xs : List Value} (h : w.ownsRow base 9 1 (.slice (some ⟨g, 0, none⟩) n cap) n xs) (hx : ∀ (j : Nat) (u : Value), (strs l)[j]? = some u → xs[j]? = some u) (hn : l.length ≤ n) : AtS w (some ⟨g, 0, none⟩) l := fun i s hs => by
  have hi : i < l.length := (List.getElem?_eq_some_iff.1 hs).1
  exact ⟨g, 0, rfl, by rw [show 0 + i = i by omega, h.cellAt _ (by omega)]; exact hx _ _ (by unfold strs; rw [List.getElem?_map, hs]; rfl)⟩
theorem ats_news {w : World} {ad : Addr} {l : List ByteArray} (h : AtS w (some ad) l) : ∀ (j : Nat) (u : Value), (strs l)[j]? = some u → w.cell? (ad.add j) = some u := by
  intro j u hu
  unfold strs at hu
  rw [List.getElem?_map] at hu
  cases hl : l[j]? with
  | none => rw [hl] at hu; simp at hu
  | some s =>
    rw [hl] at hu
    simp at hu
    subst hu
    obtain ⟨g, o, e, c⟩ := h j s hl
    injection e with e
    subst e
    have ha : (⟨g, o, none⟩ : Addr).add j = ⟨g, o + j, none⟩ := by
      unfold Addr.add; split
      · rename_i h0; subst h0; rfl
      · rfl
    rw [ha]; exact c

/-- An append whose source may be nil. -/
theorem append_src {ops : Array Oper} {rest : List Oper} {o : Oper} {a : Act} {w : World} {Q : Exit → Act → World → Prop} (hgd : o.guard = none) (s x : Operand) (t : TypeId)
    (ho : o.op = .call { callee := .builtin .append, args := #[s, x], argTypes := #[t, t] })
    (base : Nat) (e : TypeId) (i : TypeInfo) (z : Value) (size bytes : Nat) (ht : Tryd.prog.underlying t = some (.slice e)) (hi : Tryd.prog.info? e = some i) (hz : i.zero = some z)
    (hsize : i.size = size) (hby : i.bytes = bytes) (hzs : z.cells.size = size) (hsz : 0 < size)
    (v : Value) (n : Nat) (xs : List Value) (hs : a.eval s = v) (hown : w.ownsRow base e size v n xs)
    (B : Option Addr) (m c : Nat) (news : List Value) (hx : a.eval x = .slice B m c) (hl : news.length = m * size) (h0 : B = none → m = 0 ∧ c = 0) (hnews : ∀ ad, B = some ad → ∀ j u, news[j]? = some u → w.cell? (ad.add j) = some u) (h1 : ∀ u ∈ news, u.oneCell' = true)
    (h63 : n + m ≤ maxLen) (hbytes : (n + m) * bytes ≤ 140737488355328) (hbase : base ≤ w.heap.size)
    (h : ∀ v' w', w'.ownsRow base e size v' (n + m) (xs ++ news) → w.grownBy w' v.ownBlock → wpList Tryd.prog ops Q rest (a.put o.dst v') w') : wpList Tryd.prog ops Q (o :: rest) a w := by
  cases B with
  | none =>
    obtain ⟨rfl, rfl⟩ := h0 rfl
    obtain rfl : news = [] := List.eq_nil_of_length_eq_zero (by simpa using hl)
    exact wpList_append_own_none hgd s x t ho base e i size ht hi v n xs hs hown hx (h v w (by simpa using hown) (World.grownBy.refl _ _))
  | some ad =>
    exact wpList_append_own w hgd s x t ho base e i z size bytes ht hi hz hsize hby hzs hsz v n xs hs hown ad m c news hx hl (hnews ad rfl) h1 h63 hbytes hbase (fun v' w' a b _ => h v' w' a b)

/-- Places that all begin with what is cut off. -/
def libX : ByteArray := ⟨#[108, 105, 98, 46, 120]⟩
def libD : ByteArray := ⟨#[108, 105, 98, 46]⟩
theorem lib_bgn : bgn libX [libD] = true := by decide
def libP (n : Nat) : List Pl := (List.range n).map fun (i : Nat) => ((libX, (i : Int)) : Pl)
theorem libP_len (n : Nat) : (libP n).length = n := by simp [libP]
theorem libP_get {n i : Nat} (h : i < n) : (libP n)[i]? = some ((libX, (i : Int)) : Pl) := by
  unfold libP; rw [List.getElem?_map, List.getElem?_range h]; rfl
theorem lib_may {i : Nat} (h : i ≤ 1048576) : may ((libX, (i : Int)) : Pl) = true := by
  rw [may_iff]
  refine ⟨show 1 ≤ 5 by decide, show 5 ≤ 120 by decide, show (0:Int) ≤ (i:Int) by omega, show (i:Int) ≤ 1048576 by omega, ?_⟩
  intro c hc
  have hc : c ∈ ([108, 105, 98, 46, 120] : List UInt8) := by simpa [libX] using hc
  simp at hc
  rcases hc with rfl | rfl | rfl | rfl | rfl <;> decide
theorem lib_chk (n : Nat) : (chk (libP n) == 0) = decide (n ≤ 64) := by
  by_cases h : n ≤ 64
  · rw [decide_eq_true h]
    have : chk (libP n) = 0 := chk_ok.2 ⟨fun p hp => by
      unfold libP at hp
      obtain ⟨i, hi, rfl⟩ := List.mem_map.1 hp
      exact lib_may (by have := List.mem_range.1 hi; omega), by rw [libP_len]; exact h⟩
    rw [this]; rfl
  · rw [decide_eq_false h]
    refine beq_eq_false_iff_ne.2 (fun hc => h ?_)
    have := (chk_ok.1 hc).2
    rwa [libP_len] at this
theorem lib_trm (n : Nat) : trR (libP n) [libD] = [] := by
  unfold trR
  split
  · unfold trm
    have : ∀ k, k ≤ n → trmN (off (libP n) [libD]) k = 0 := by
      intro k
      induction k with
      | zero => intro _; rfl
      | succ k ih =>
        intro hk
        rw [trmN_on, ih (by omega)]
        rw [off_at (libP_get (by omega))]
        simp [lib_bgn]
    rw [libP_len, this n (Nat.le_refl _)]
    rfl
  · rfl
end Go.Proofs.YtocdinaomkmcbaaDoor
