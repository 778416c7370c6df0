/-
  The number that begins tells is the one that the model's own decoding tells.
-/
import Derived.Test.YtdfhpblceoaofaaDoorB
import Derived.Lib.Strings
namespace Go.Proofs.YtdfhpblceoaofaaDoor
set_option linter.unusedVariables false

theorem u8_eq (x : Int) (c : UInt8) (h0 : 0 ≤ x) (h1 : x ≤ 255) : UInt8.ofNat x.toNat = c ↔ x = (c.toNat : Int) := by
  constructor
  · intro h; rw [← h]; simp; omega
  · intro h; rw [h]; simp
theorem bytes_eq : ∀ (xs : List Int) (cs : List UInt8), (∀ x ∈ xs, 0 ≤ x ∧ x ≤ 255) → (xs.map (fun n => UInt8.ofNat n.toNat) = cs ↔ xs = cs.map fun c => (c.toNat : Int))
  | [], [], _ => by simp
  | [], c :: cs, _ => by simp
  | x :: xs, [], _ => by simp
  | x :: xs, c :: cs, h => by
    have hx := h x (by simp)
    simp only [List.map_cons, List.cons.injEq, u8_eq x c hx.1 hx.2, bytes_eq xs cs (fun y hy => h y (by simp [hy]))]
theorem coded_bd (r : Int) (h0 : 0 ≤ r) (h1 : r ≤ 1114111) : ∀ x ∈ codedL r, 0 ≤ x ∧ x ≤ 255 := by
  intro x hx
  unfold codedL at hx
  split at hx
  · simp at hx; omega
  · split at hx
    · simp at hx; omega
    · split at hx <;> (simp at hx; omega)
theorem sameB_iff (s : ByteArray) (k : Nat) (r : Int) (h0 : 0 ≤ r) (h1 : r ≤ 1114111) :
    sameB s k r = true ↔ codedL r = (s.data.toList.take k).map fun c => (c.toNat : Int) := by
  unfold sameB
  rw [beq_iff_eq, ← bytes_eq _ _ (coded_bd r h0 h1), Lib.extract_toList, Lib.toList_data, strOfNums_data]
  rfl
theorem take1 (s : ByteArray) (h : 1 ≤ s.size) : ((s.data.toList.take 1).map fun c => (c.toNat : Int)) = [nb s 0] := by
  obtain ⟨⟨l⟩⟩ := s
  match l, h with
  | a :: _, _ => rfl
theorem take2 (s : ByteArray) (h : 2 ≤ s.size) : ((s.data.toList.take 2).map fun c => (c.toNat : Int)) = [nb s 0, nb s 1] := by
  obtain ⟨⟨l⟩⟩ := s
  match l, h with
  | [_], h => simp [ByteArray.size] at h
  | a :: b :: _, _ => rfl
theorem take3 (s : ByteArray) (h : 3 ≤ s.size) : ((s.data.toList.take 3).map fun c => (c.toNat : Int)) = [nb s 0, nb s 1, nb s 2] := by
  obtain ⟨⟨l⟩⟩ := s
  match l, h with
  | [_], h => simp [ByteArray.size] at h
  | [_, _], h => simp [ByteArray.size] at h
  | a :: b :: c :: _, _ => rfl
theorem take4 (s : ByteArray) (h : 4 ≤ s.size) : ((s.data.toList.take 4).map fun c => (c.toNat : Int)) = [nb s 0, nb s 1, nb s 2, nb s 3] := by
  obtain ⟨⟨l⟩⟩ := s
  match l, h with
  | [_], h => simp [ByteArray.size] at h
  | [_, _], h => simp [ByteArray.size] at h
  | [_, _, _], h => simp [ByteArray.size] at h
  | a :: b :: c :: d :: _, _ => rfl

theorem hit1 (s : ByteArray) : hitB s 1 = true ↔ 1 ≤ s.size ∧ nb s 0 < 128 := by
  have b0 := nb_bd s 0
  by_cases h : 1 ≤ s.size
  · have hr : rk s 1 = nb s 0 := rfl
    unfold hitB
    simp only [Bool.and_eq_true, decide_eq_true_eq, hr, sameB_iff s 1 _ b0.1 (by omega), take1 s h, isR, codedL]
    constructor
    · rintro ⟨_, ⟨_, _, _⟩, he⟩
      refine ⟨h, ?_⟩
      split at he
      · assumption
      · split at he
        · simp at he
        · split at he <;> simp at he
    · rintro ⟨_, hl⟩
      exact ⟨h, ⟨b0.1, by omega, by omega⟩, by rw [if_pos hl]⟩
  · simp [hitB, h]
theorem hit2 (s : ByteArray) : hitB s 2 = true ↔ 2 ≤ s.size ∧ nb s 0 / 32 = 6 ∧ nb s 1 / 64 = 2 ∧ 128 ≤ nb s 0 % 32 * 64 + nb s 1 % 64 := by
  have b0 := nb_bd s 0
  have b1 := nb_bd s 1
  by_cases h : 2 ≤ s.size
  · have hr : rk s 2 = 64 * (nb s 0 % 32) + nb s 1 % 64 := rfl
    unfold hitB
    simp only [Bool.and_eq_true, decide_eq_true_eq, hr, sameB_iff s 2 _ (show 0 ≤ 64 * (nb s 0 % 32) + nb s 1 % 64 by omega) (by omega), take2 s h, isR, codedL]
    constructor
    · rintro ⟨_, ⟨_, _, _⟩, he⟩
      refine ⟨h, ?_⟩
      split at he
      · simp at he
      · split at he
        · simp at he; omega
        · split at he <;> simp at he
    · rintro ⟨_, h1, h2, h3⟩
      refine ⟨h, ⟨by omega, by omega, by omega⟩, ?_⟩
      rw [if_neg (by omega), if_pos (by omega)]
      simp
      omega
  · simp [hitB, h]
theorem hit3 (s : ByteArray) : hitB s 3 = true ↔ 3 ≤ s.size ∧ nb s 0 / 16 = 14 ∧ nb s 1 / 64 = 2 ∧ nb s 2 / 64 = 2 ∧ 2048 ≤ nb s 0 % 16 * 4096 + nb s 1 % 64 * 64 + nb s 2 % 64 ∧
    (nb s 0 % 16 * 4096 + nb s 1 % 64 * 64 + nb s 2 % 64 < 55296 ∨ 57343 < nb s 0 % 16 * 4096 + nb s 1 % 64 * 64 + nb s 2 % 64) := by
  have b0 := nb_bd s 0
  have b1 := nb_bd s 1
  have b2 := nb_bd s 2
  by_cases h : 3 ≤ s.size
  · have hr : rk s 3 = 64 * (64 * (nb s 0 % 16) + nb s 1 % 64) + nb s 2 % 64 := rfl
    unfold hitB
    simp only [Bool.and_eq_true, decide_eq_true_eq, hr, sameB_iff s 3 _ (show 0 ≤ 64 * (64 * (nb s 0 % 16) + nb s 1 % 64) + nb s 2 % 64 by omega) (by omega), take3 s h, isR, codedL]
    constructor
    · rintro ⟨_, ⟨_, _, _⟩, he⟩
      refine ⟨h, ?_⟩
      split at he
      · simp at he
      · split at he
        · simp at he
        · split at he
          · simp at he; omega
          · simp at he
    · rintro ⟨_, h1, h2, h3, h4, h5⟩
      refine ⟨h, ⟨by omega, by omega, by omega⟩, ?_⟩
      rw [if_neg (by omega), if_neg (by omega), if_pos (by omega)]
      simp
      omega
  · simp [hitB, h]
theorem hit4 (s : ByteArray) : hitB s 4 = true ↔ 4 ≤ s.size ∧ nb s 0 / 8 = 30 ∧ nb s 1 / 64 = 2 ∧ nb s 2 / 64 = 2 ∧ nb s 3 / 64 = 2 ∧
    65536 ≤ nb s 0 % 8 * 262144 + nb s 1 % 64 * 4096 + nb s 2 % 64 * 64 + nb s 3 % 64 ∧ nb s 0 % 8 * 262144 + nb s 1 % 64 * 4096 + nb s 2 % 64 * 64 + nb s 3 % 64 ≤ 1114111 := by
  have b0 := nb_bd s 0
  have b1 := nb_bd s 1
  have b2 := nb_bd s 2
  have b3 := nb_bd s 3
  by_cases h : 4 ≤ s.size
  · have hr : rk s 4 = 64 * (64 * (64 * (nb s 0 % 8) + nb s 1 % 64) + nb s 2 % 64) + nb s 3 % 64 := rfl
    by_cases hm : 64 * (64 * (64 * (nb s 0 % 8) + nb s 1 % 64) + nb s 2 % 64) + nb s 3 % 64 ≤ 1114111
    · unfold hitB
      simp only [Bool.and_eq_true, decide_eq_true_eq, hr, sameB_iff s 4 _ (show 0 ≤ 64 * (64 * (64 * (nb s 0 % 8) + nb s 1 % 64) + nb s 2 % 64) + nb s 3 % 64 by omega) hm, take4 s h, isR, codedL]
      constructor
      · rintro ⟨_, ⟨_, _, _⟩, he⟩
        refine ⟨h, ?_⟩
        split at he
        · simp at he
        · split at he
          · simp at he
          · split at he
            · simp at he
            · simp at he; omega
      · rintro ⟨_, h1, h2, h3, h4, h5, h6⟩
        refine ⟨h, ⟨by omega, by omega, by omega⟩, ?_⟩
        rw [if_neg (by omega), if_neg (by omega), if_neg (by omega)]
        simp
        omega
    · have : hitB s 4 = false := hitB_not hr (fun hi => hm hi.2.1)
      rw [this]
      simp
      omega
  · simp [hitB, h]

/-- What begins tells of a decoding: none of a break. -/
def bgd (d : Nat × Nat) : Int × Nat := if d = (65533, 1) then (0, 0) else ((d.1 : Int), d.2)

theorem hitB_eq {s : ByteArray} {k : Nat} {p : Prop} [Decidable p] (h : hitB s k = true ↔ p) : hitB s k = decide p := by
  rw [Bool.eq_iff_iff, h]; simp

set_option maxHeartbeats 4000000 in
theorem bg_core (s : ByteArray) (n b0 b1 b2 b3 : Nat) (h0 : b0 < 256) (h1 : b1 < 256) (h2 : b2 < 256) (h3 : b3 < 256) (e0 : nb s 0 = (b0 : Int)) (e1 : nb s 1 = (b1 : Int)) (e2 : nb s 2 = (b2 : Int)) (e3 : nb s 3 = (b3 : Int))
    (hn : 1 ≤ n) (hs : s.size = min n 4) : bg s = bgd (Lib.decodeN n b0 b1 b2 b3) := by
  have r1 : rk s 1 = (b0 : Int) := e0
  have r2 : rk s 2 = 64 * ((b0 : Int) % 32) + (b1 : Int) % 64 := by simp only [rk, e0, e1]
  have r3 : rk s 3 = 64 * (64 * ((b0 : Int) % 16) + (b1 : Int) % 64) + (b2 : Int) % 64 := by simp only [rk, e0, e1, e2]
  have r4 : rk s 4 = 64 * (64 * (64 * ((b0 : Int) % 8) + (b1 : Int) % 64) + (b2 : Int) % 64) + (b3 : Int) % 64 := by simp only [rk, e0, e1, e2, e3]
  have q1 := hitB_eq (hit1 s)
  have q2 := hitB_eq (hit2 s)
  have q3 := hitB_eq (hit3 s)
  have q4 := hitB_eq (hit4 s)
  rw [e0] at q1 q2 q3 q4
  rw [e1] at q2 q3 q4
  rw [e2] at q3 q4
  rw [e3] at q4
  unfold bg
  rw [q1, q2, q3, q4, r1, r2, r3, r4]
  clear q1 q2 q3 q4 r1 r2 r3 r4 e0 e1 e2 e3
  simp only [decide_eq_true_eq]
  unfold bgd Lib.decodeN
  by_cases c1 : b0 < 128
  · rw [if_pos (by omega), if_pos c1, if_neg (by simp; omega)]
  rw [if_neg (by omega), if_neg c1]
  by_cases c2 : b0 / 32 = 6 ∧ (1 < n ∧ b1 / 64 = 2)
  · rw [if_pos c2]
    by_cases d2 : b0 % 32 * 64 + b1 % 64 ≥ 128
    · rw [if_pos (by omega), if_pos d2, if_neg (by simp)]
      simp only [Prod.mk.injEq, and_true]; omega
    · rw [if_neg (by omega), if_neg (by omega), if_neg (by omega), if_neg d2, if_pos rfl]
  rw [if_neg (by omega), if_neg c2]
  by_cases c3 : b0 / 16 = 14 ∧ (1 < n ∧ b1 / 64 = 2) ∧ (2 < n ∧ b2 / 64 = 2)
  · rw [if_pos c3]
    by_cases d3 : b0 % 16 * 4096 + b1 % 64 * 64 + b2 % 64 ≥ 2048 ∧ (b0 % 16 * 4096 + b1 % 64 * 64 + b2 % 64 < 55296 ∨ (57344 ≤ b0 % 16 * 4096 + b1 % 64 * 64 + b2 % 64 ∧ b0 % 16 * 4096 + b1 % 64 * 64 + b2 % 64 ≤ 1114111))
    · rw [if_pos (by omega), if_pos d3, if_neg (by simp)]
      simp only [Prod.mk.injEq, and_true]; omega
    · rw [if_neg (by omega), if_neg (by omega), if_neg d3, if_pos rfl]
  rw [if_neg (by omega), if_neg c3]
  by_cases c4 : b0 / 8 = 30 ∧ (1 < n ∧ b1 / 64 = 2) ∧ (2 < n ∧ b2 / 64 = 2) ∧ (3 < n ∧ b3 / 64 = 2)
  · rw [if_pos c4]
    by_cases d4 : b0 % 8 * 262144 + b1 % 64 * 4096 + b2 % 64 * 64 + b3 % 64 ≥ 65536 ∧ (b0 % 8 * 262144 + b1 % 64 * 4096 + b2 % 64 * 64 + b3 % 64 < 55296 ∨ (57344 ≤ b0 % 8 * 262144 + b1 % 64 * 4096 + b2 % 64 * 64 + b3 % 64 ∧ b0 % 8 * 262144 + b1 % 64 * 4096 + b2 % 64 * 64 + b3 % 64 ≤ 1114111))
    · rw [if_pos (by omega), if_pos d4, if_neg (by simp)]
      simp only [Prod.mk.injEq, and_true]; omega
    · rw [if_neg (by omega), if_neg d4, if_pos rfl]
  · rw [if_neg (by omega), if_neg c4, if_pos rfl]

theorem get_at (t : ByteArray) (j : Nat) : t.get! j = t.data.toList.getD j 0 := by
  rw [List.getD_eq_getElem?_getD]
  show t.data[j]! = _
  by_cases h : j < t.data.size
  · rw [getElem!_pos t.data j h, List.getElem?_eq_getElem (by simpa using h)]; rfl
  · rw [getElem!_neg t.data j h, List.getElem?_eq_none (by simpa using h)]; rfl
theorem nb_cut (t : ByteArray) (i j : Nat) (hj : j < 4) : nb (t.extract i (min t.size (i + 4))) j = ((t.get! (i + j)).toNat : Int) := by
  unfold nb
  rw [Lib.extract_data, get_at]
  have e : ((t.data.toList.drop i).take (min t.size (i + 4) - i)).getD j 0 = t.data.toList.getD (i + j) 0 := by
    rw [List.getD_eq_getElem?_getD, List.getD_eq_getElem?_getD, List.getElem?_take, List.getElem?_drop]
    split
    · rfl
    · rename_i h
      have hl : t.data.toList.length = t.size := by simp
      rw [List.getElem?_eq_none (by omega)]
  rw [e]
theorem bg_decode (t : ByteArray) (i : Nat) (h : i < t.size) : bg (t.extract i (min t.size (i + 4))) = bgd (Utf8.decode t i) := by
  rw [Lib.decode_at]
  refine bg_core _ _ _ _ _ _ (UInt8.toNat_lt _) (UInt8.toNat_lt _) (UInt8.toNat_lt _) (UInt8.toNat_lt _) (nb_cut t i 0 (by omega)) (nb_cut t i 1 (by omega)) (nb_cut t i 2 (by omega)) (nb_cut t i 3 (by omega)) (by omega) ?_
  simp
  omega
end Go.Proofs.YtdfhpblceoaofaaDoor
