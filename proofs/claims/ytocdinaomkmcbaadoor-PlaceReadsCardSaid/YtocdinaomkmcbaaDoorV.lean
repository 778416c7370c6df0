/-
  alive says yes.
-/
import Derived.Test.YtocdinaomkmcbaaDoorU
import Derived.KernelRfl
namespace Go.Proofs.YtocdinaomkmcbaaDoor
open Go.ChangeShapes Go.WideShapes Go.ChangeAt Go.RowKit Go.Shelf
set_option linter.unusedVariables false

def psA : List Pl := [(⟨#[109, 97, 105, 110]⟩, 1), (⟨#[102]⟩, 20)]
def tA : List UInt8 := [102, 58, 50, 48, 32, 60, 32, 109, 97, 105, 110, 58, 49]
theorem chkA : chk psA = 0 := by decide +kernel
theorem txA : txL psA = tA := by
  have e1 : Lib.itoa 1 = [49] := by rw [itoa_dec (by decide)]; exact Lib.decDigits_one (by decide)
  have e2 : Lib.itoa 20 = [50, 48] := by rw [itoa_dec (by decide)]; exact Lib.decDigits_two (by decide) (by decide)
  show join [txP (⟨#[102]⟩, 20), txP (⟨#[109, 97, 105, 110]⟩, 1)] = tA
  unfold txP
  rw [e1, e2]
  rfl
theorem prsA : prs (⟨#[102, 58, 50, 48, 32, 60, 32, 109, 97, 105, 110, 58, 49]⟩ : ByteArray).data.toList = some psA := prs_iff.2 ⟨chkA, txA⟩

set_option maxRecDepth 100000 in
set_option maxHeartbeats 2000000 in
theorem alive_any (w : World) (hE : Env w) (h3 : 3 ≤ w.heap.size) :
    Calls Tryd.prog 23 #[] w fun e w' => e = .returned (.bool true) ∧ Below w.heap.size w w' := by
  have hA : At (w.alloc (.cells #[.string ⟨#[109, 97, 105, 110]⟩, .int .i64 1, .string ⟨#[102]⟩, .int .i64 20] 48)) (some ⟨w.heap.size, 0, none⟩) psA := fun i p hp => by
    refine ⟨w.heap.size, 0, rfl, ?_⟩
    match i, hp with
    | 0, hp => simp [psA] at hp; subst hp; simp
    | 1, hp => simp [psA] at hp; subst hp; simp
    | i + 2, hp => simp [psA] at hp
  have hb0 : Below w.heap.size w (w.alloc (.cells #[.string ⟨#[109, 97, 105, 110]⟩, .int .i64 1, .string ⟨#[102]⟩, .int .i64 20] 48)) := (Below.refl _ w).alloc (Nat.le_refl _) _
  have c1 := text_any (some ⟨w.heap.size, 0, none⟩) 2 psA _ (hE.below hb0 (Nat.le_refl _)) hA chkA
  rw [txA] at c1
  have C1 : Hid (Calls Tryd.prog 11 #[.slice (some ⟨w.heap.size, 0, none⟩) 2 2] (w.alloc (.cells #[.string ⟨#[109, 97, 105, 110]⟩, .int .i64 1, .string ⟨#[102]⟩, .int .i64 20] 48)) fun e W' => e = .returned (.tuple #[.string ⟨#[102, 58, 50, 48, 32, 60, 32, 109, 97, 105, 110, 58, 49]⟩, .int .i64 0]) ∧ Below (w.heap.size + 1) (w.alloc (.cells #[.string ⟨#[109, 97, 105, 110]⟩, .int .i64 1, .string ⟨#[102]⟩, .int .i64 20] 48)) W') := Lib.hid (by
    rw [World.size_alloc] at c1; exact c1)
  have C2 := Lib.hid (fun (W : World) (hb : Below w.heap.size w W) => parse_any ⟨#[102, 58, 50, 48, 32, 60, 32, 109, 97, 105, 110, 58, 49]⟩ W (hE.below hb (Nat.le_refl _)) (Nat.le_trans h3 hb.size) (by decide))
  clear c1 hA
  go_enter Tryd.func23, Tryd.ntmps23
  go_wp2_with fail
  refine C1.out.mono ?_
  rintro e W1 ⟨rfl, b1⟩
  have hB1 := hb0.trans (b1.mono (by omega))
  go_wp2_with fail
  refine (C2.out _ hB1).mono ?_
  rintro e W2 ⟨hp, b2⟩
  have hB2 := hB1.trans (b2.mono hB1.size)
  obtain ⟨v, rfl, hown⟩ : ∃ v, e = .returned (.tuple #[v, .int .i64 0]) ∧ W2.ownsRow W1.heap.size 48 2 v psA.length (flat psA) := by
    rcases hp with ⟨l, v, h1, h2, h3⟩ | ⟨h1, _⟩
    · rw [prsA] at h1
      injection h1 with h1
      subst h1
      exact ⟨v, h2, h3⟩
    · rw [prsA] at h1; cases h1
  obtain ⟨A, cap, rfl, ha, _⟩ := own_form hown
  obtain ⟨g, o, rfl, d0, d1⟩ := ha 0 (⟨#[109, 97, 105, 110]⟩, 1) rfl
  have e0 : W2.cell? ⟨g, o, none⟩ = some (.string ⟨#[109, 97, 105, 110]⟩) := by simpa using d0
  have e1 : W2.cell? ⟨g, o + 1, none⟩ = some (.int .i64 1) := by simpa using d1
  clear hp hown ha d0 d1 b1 b2 hB1 hb0
  rw [show psA.length = 2 from rfl]
  go_wp2
  go_ret
  exact ⟨by simp, hB2⟩
end Go.Proofs.YtocdinaomkmcbaaDoor
