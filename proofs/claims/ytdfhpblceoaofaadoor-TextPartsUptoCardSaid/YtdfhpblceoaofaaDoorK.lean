/-
  sameInts says yes where both rows hold the same numbers.
-/
import Derived.Test.YtdfhpblceoaofaaDoorI
namespace Go.Proofs.YtdfhpblceoaofaaDoor
open Go.ChangeShapes Go.WideShapes Go.ChangeAt Go.RowKit Go.Shelf
set_option linter.unusedVariables false

/-- A slice of numbers, as it is read. -/
def Reads (w : World) (v : Value) (xs : List Int) : Prop :=
  (v = .slice none 0 0 ∧ xs = []) ∨ ∃ g cap, v = .slice (some ⟨g, 0, none⟩) xs.length cap ∧ ∀ i, i < xs.length → w.cell? ⟨g, i, none⟩ = some (.int .i64 (xs[i]?.getD 0))

theorem reads_of_own {w : World} {B : Nat} {v : Value} {xs : List Int} (h : w.ownsRow B 3 1 v xs.length (xs.map (Value.int .i64))) : Reads w v xs := by
  rcases h.2 with ⟨h1, h2⟩ | ⟨g, cap, cur, rfl, _⟩
  · exact .inl ⟨h1, List.eq_nil_of_length_eq_zero h2⟩
  · refine .inr ⟨g, cap, rfl, fun i hi => ?_⟩
    rw [h.cellAt i (by omega), List.getElem?_map, List.getElem?_eq_getElem hi]
    simp
theorem Reads.below {w w' : World} {v : Value} {xs : List Int} (h : Reads w v xs) (hb : Below w.heap.size w w') : Reads w' v xs := by
  rcases h with h | ⟨g, cap, rfl, hc⟩
  · exact .inl h
  · refine .inr ⟨g, cap, rfl, fun i hi => ?_⟩
    have := hc i hi
    rw [hb.cell (p := ⟨g, i, none⟩) ?_]
    · exact this
    · have hx : w.cell? ⟨g, i, none⟩ ≠ none := by rw [this]; simp
      show g < w.heap.size
      rcases Nat.lt_or_ge g w.heap.size with h' | h'
      · exact h'
      · exact absurd (by simp [World.cell?, Array.getElem?_eq_none h']) hx
theorem Reads.len {w : World} {v : Value} {xs : List Int} (h : Reads w v xs) : ∃ a cap, v = .slice a xs.length cap := by
  rcases h with ⟨rfl, rfl⟩ | ⟨g, cap, rfl, _⟩
  · exact ⟨none, 0, rfl⟩
  · exact ⟨_, cap, rfl⟩

set_option maxRecDepth 100000 in
set_option maxHeartbeats 4000000 in
theorem same_any (va vb : Value) (xs : List Int) (w : World) (ha : Reads w va xs) (hb : Reads w vb xs) (hlen : xs.length ≤ 1099511627776) :
    Calls Tryd.prog 13 #[va, vb] w fun e w' => e = .returned (.bool true) ∧ ∃ m, w' = w.drewN m := by
  by_cases h0 : xs = []
  · subst h0
    obtain ⟨a, ca, rfl⟩ := ha.len
    obtain ⟨b, cb, rfl⟩ := hb.len
    clear ha hb
    simp only [List.length_nil]
    go_enter Tryd.func13, Tryd.ntmps13
    go_wp2
    refine wp_loop_rounds 1 ?_
    simp only [rounds_succ]
    go_wp2
    go_ret
    exact ⟨rfl, 0, rfl⟩
  · rcases ha with ⟨_, h⟩ | ⟨g, ca, rfl, hca⟩
    · exact absurd h h0
    rcases hb with ⟨_, h⟩ | ⟨g', cb, rfl, hcb⟩
    · exact absurd h h0
    clear h0
    generalize hn : xs.length = n at *
    go_enter Tryd.func13, Tryd.ntmps13
    go_wp2
    go_loopw [5] (fun t wr => ∃ (i m : Nat), t = .int .i64 i ∧ i ≤ n ∧ wr = w.drewN m) (fun t _ => n - (intOf t).toNat)
    case atStart => exact ⟨0, 0, rfl, by omega, rfl⟩
    case round =>
      obtain ⟨i, m, rfl, hi, rfl⟩ := hrel
      by_cases hlt : i < n
      · have c1 : w.cell? ⟨g, i, none⟩ = some (.int .i64 (xs[i]?.getD 0)) := hca i hlt
        have c2 : w.cell? ⟨g', i, none⟩ = some (.int .i64 (xs[i]?.getD 0)) := hcb i hlt
        have hi' : (i : Int) < (n : Int) := by omega
        have H1 := Lib.hid hca
        have H2 := Lib.hid hcb
        have H3 := Lib.hid hn
        clear hca hcb hn
        go_wp2
        go_quiet (fail)
        go_wp2
        exact ⟨⟨i + 1, m + nq, (by go_num), hlt, rfl⟩, by simp [intOf]; omega⟩
      · go_wp2
        go_ret
        exact ⟨rfl, m, rfl⟩

/-- A contract over what is handed out, seen through a function. -/
theorem seqK_map {α β : Type} {F : Fence} {n : Nat} {P : Program} {g : Nat} {lb : Array Value} {encs : β → Array Value} {Kp : World → World → Prop} {L : List α} {N : Nat} {w : World} (f : α → β)
    (h : SeqStopsK F n P g lb (fun x => encs (f x)) Kp (fun ys => ys = L) (fun pre => pre <+: L) N w) :
    SeqStopsK F n P g lb encs Kp (fun ys => ys = L.map f) (fun pre => pre <+: L.map f) N w := fun l J Jx W hW hJ hJx hY h0 => by
  refine (h l (fun q => J (q.map f)) (fun q => Jx (q.map f)) W hW (fun q A B row hs hg hr => hJ _ A B row hs hg hr) (fun q A B row hs hg hr => hJx _ A B row hs hg hr) (fun pre x W1 hj hl => ?_) h0).mono ?_
  · have := hY (pre.map f) (f x) W1 hj (by simpa using hl)
    simpa using this
  · rintro e W' ⟨hv, ⟨ys, rfl, hJ'⟩ | ⟨pre, hp, hx⟩⟩
    · exact ⟨hv, .inl ⟨_, rfl, hJ'⟩⟩
    · exact ⟨hv, .inr ⟨_, hp.map f, hx⟩⟩
def two (p : Pc) : Nat × Int := (p.at_, p.r)
def encT (x : Nat × Int) : Array Value := #[.int .i64 (x.1 : Int), .int .i32 x.2]
/-- What is told, in order: where, and the rune. -/
def T (s : ByteArray) : List (Nat × Int) := (G s 0).map two
theorem runes_tell (n : Nat) (hn : 1 ≤ n) (Bs n₀ : Nat) (s : ByteArray) (w : World) (hBs : Bs < w.heap.size) (hn₀ : n₀ ≤ w.heap.size) (h2 : 2 ≤ n₀) (hs : w.cell? ⟨Bs, 0, none⟩ = some (.string s)) (hT : Lib.Utf8Tabs 0 1 w) (hsz : s.size ≤ 1099511627776) :
    SeqStopsK Fence.wide n Tryd.prog 33 #[.pointer (some ⟨Bs, 0, none⟩)] encT (Kp n₀ Bs) (fun ys => ys = T s) (fun pre => pre <+: T s) (T s).length w := by
  have := seqK_map (encs := encT) two (runes_stops n hn Bs n₀ s w hBs hn₀ h2 hs hT hsz)
  unfold T
  rw [List.length_map]
  exact this
end Go.Proofs.YtdfhpblceoaofaaDoor
