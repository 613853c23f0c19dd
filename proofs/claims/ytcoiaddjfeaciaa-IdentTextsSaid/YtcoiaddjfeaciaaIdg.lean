/- The id that is one greater, told by its bits: plain lemmas without a program. No condition. -/
import Derived.Test.YtcoiaddjfeaciaaIdf
namespace Go.Proofs.Ytcoiaddjfeaciaa
open Go.RowKit

/-- i is the last bit of xs that is 0; r is xs with it turned, and all behind it. -/
def IsNext (xs : List UInt8) (i : Nat) (r : List UInt8) : Prop :=
  i < 160 ∧ bitL xs i = false ∧ (∀ q, i < q → q < 160 → bitL xs q = true) ∧ r.length = 20 ∧ ∀ q, q < 160 → bitL r q = if q < i then bitL xs q else decide (q = i)
def NextIs (xs r : List UInt8) (ok : Bool) : Prop :=
  (ok = true ∧ ∃ i, IsNext xs i r) ∨ (ok = false ∧ r = List.replicate 20 0 ∧ ∀ q, q < 160 → bitL xs q = true)
theorem IsNext.unique {xs r r' : List UInt8} {i i' : Nat} (h : IsNext xs i r) (h' : IsNext xs i' r') : r = r' := by
  obtain ⟨a1, a2, a3, a4, a5⟩ := h
  obtain ⟨b1, b2, b3, b4, b5⟩ := h'
  have hi : i = i' := by
    apply Decidable.byContradiction
    intro hne
    rcases Nat.lt_or_gt_of_ne hne with hl | hl
    · rw [a3 i' hl b1] at b2; cases b2
    · rw [b3 i hl a1] at a2; cases a2
  subst hi
  apply ext_bits (a4.trans b4.symm)
  intro q hq
  rw [a5 q (by omega), b5 q (by omega)]
theorem NextIs.unique {xs r r' : List UInt8} {ok ok' : Bool} (h : NextIs xs r ok) (h' : NextIs xs r' ok') : r = r' ∧ ok = ok' := by
  rcases h with ⟨rfl, i, hi⟩ | ⟨rfl, rfl, ha⟩
  · rcases h' with ⟨rfl, i', hi'⟩ | ⟨rfl, rfl, ha'⟩
    · exact ⟨hi.unique hi', rfl⟩
    · have := ha' i hi.1
      rw [hi.2.1] at this
      cases this
  · rcases h' with ⟨rfl, i', hi'⟩ | ⟨rfl, rfl, ha'⟩
    · have := ha i' hi'.1
      rw [hi'.2.1] at this
      cases this
    · exact ⟨rfl, rfl⟩
theorem NextIs.length {xs r : List UInt8} {ok : Bool} (h : NextIs xs r ok) : r.length = 20 := by
  rcases h with ⟨_, i, hi⟩ | ⟨_, rfl, _⟩
  · exact hi.2.2.2.1
  · simp
theorem IsNext.ne {xs r : List UInt8} {i : Nat} (h : IsNext xs i r) : r ≠ List.replicate 20 0 := by
  rintro rfl
  have := h.2.2.2.2 i h.1
  rw [bitL_zero, if_neg (by omega)] at this
  simp at this

theorem inc_fin : ∀ x : Fin 256, x.val ≠ 255 → ∃ k : Fin 8, x.val.testBit k.val = false ∧ (∀ m : Fin 8, m.val < k.val → x.val.testBit m.val = true) ∧ ∀ m : Fin 8, (x.val + 1).testBit m.val = if m.val = k.val then true else if m.val < k.val then false else x.val.testBit m.val := by decide +kernel
theorem inc_byte (x : UInt8) (h : x ≠ 255) : ∃ k, k < 8 ∧ x.toNat.testBit k = false ∧ (∀ m, m < k → x.toNat.testBit m = true) ∧ ∀ m, m < 8 → (x + 1).toNat.testBit m = if m = k then true else if m < k then false else x.toNat.testBit m := by
  have hl := x.toNat_lt
  have hne : x.toNat ≠ 255 := fun e => h (UInt8.toNat.inj (by simpa using e))
  obtain ⟨k, h1, h2, h3⟩ := inc_fin ⟨x.toNat, hl⟩ hne
  have e : (x + 1).toNat = x.toNat + 1 := by
    rw [UInt8.toNat_add]
    have : (1 : UInt8).toNat = 1 := rfl
    rw [this]
    omega
  refine ⟨k.val, k.isLt, h1, fun m hm => h2 ⟨m, by omega⟩ hm, fun m hm => ?_⟩
  rw [e]
  exact h3 ⟨m, hm⟩

/-- xs with its last j bytes zero. -/
def zl (xs : List UInt8) (j : Nat) : List UInt8 := xs.take (20 - j) ++ List.replicate j 0
theorem zl_length (xs : List UInt8) (j : Nat) (hx : xs.length = 20) (hj : j ≤ 20) : (zl xs j).length = 20 := by simp [zl]; omega
theorem zl_zero (xs : List UInt8) (hx : xs.length = 20) : zl xs 0 = xs := by simp [zl, ← hx]
theorem zl_full (xs : List UInt8) : zl xs 20 = List.replicate 20 0 := by simp [zl]
theorem zl_get (xs : List UInt8) (j q : Nat) (hx : xs.length = 20) (hj : j ≤ 20) : (zl xs j).getD q 0 = if q < 20 - j then xs.getD q 0 else 0 := by
  unfold zl
  rw [List.getD_eq_getElem?_getD]
  by_cases h : q < 20 - j
  · rw [if_pos h, List.getElem?_append_left (by rw [List.length_take]; omega), List.getElem?_take_of_lt h, ← List.getD_eq_getElem?_getD]
  · rw [if_neg h, List.getElem?_append_right (by rw [List.length_take]; omega), List.getElem?_replicate]
    split <;> rfl
theorem list_ext_getD {xs ys : List UInt8} (h : xs.length = ys.length) (hk : ∀ k, k < xs.length → xs.getD k 0 = ys.getD k 0) : xs = ys := by
  apply List.ext_getElem h
  intro i h1 h2
  have := hk i h1
  simpa [List.getElem?_eq_getElem h1, List.getElem?_eq_getElem h2] using this
theorem zl_set (xs : List UInt8) (j : Nat) (hx : xs.length = 20) (hj : j < 20) : (zl xs j).set (19 - j) 0 = zl xs (j + 1) := by
  apply list_ext_getD
  · rw [List.length_set, zl_length xs j hx (by omega), zl_length xs (j + 1) hx (by omega)]
  · intro k hk
    rw [List.length_set, zl_length xs j hx (by omega)] at hk
    rw [zl_get xs (j + 1) k hx (by omega), List.getD_eq_getElem?_getD, List.getElem?_set]
    rw [zl_length xs j hx (by omega)]
    by_cases h : 19 - j = k
    · rw [if_pos h, if_pos (by omega), if_neg (by omega)]
      rfl
    · rw [if_neg h, ← List.getD_eq_getElem?_getD, zl_get xs j k hx (by omega)]
      by_cases h2 : k < 20 - j
      · rw [if_pos h2, if_pos (by omega)]
      · rw [if_neg h2, if_neg (by omega)]

theorem byte255 (m : Nat) (hm : m < 8) : (255 : UInt8).toNat.testBit m = true := by
  have : ∀ k : Fin 8, (255 : UInt8).toNat.testBit k.val = true := by decide
  exact this ⟨m, hm⟩
/-- Where the bytes behind are all 255 and this one is not. -/
theorem next_at (xs : List UInt8) (j : Nat) (hx : xs.length = 20) (hj : j < 20) (hall : ∀ k, 19 - j < k → k < 20 → xs.getD k 0 = 255) (hne : xs.getD (19 - j) 0 ≠ 255) :
    ∃ i, IsNext xs i ((zl xs j).set (19 - j) (xs.getD (19 - j) 0 + 1)) := by
  obtain ⟨k, hk, h1, h2, h3⟩ := inc_byte _ hne
  have hgot : ∀ q, ((zl xs j).set (19 - j) (xs.getD (19 - j) 0 + 1)).getD q 0 = if q = 19 - j then xs.getD (19 - j) 0 + 1 else if q < 19 - j then xs.getD q 0 else 0 := by
    intro q
    rw [List.getD_eq_getElem?_getD, List.getElem?_set, zl_length xs j hx (by omega)]
    by_cases h : 19 - j = q
    · rw [if_pos h, if_pos (by omega), if_pos h.symm]
      rfl
    · rw [if_neg h, if_neg (fun e => h e.symm), ← List.getD_eq_getElem?_getD, zl_get xs j q hx (by omega)]
      by_cases h2 : q < 19 - j
      · rw [if_pos h2, if_pos (by omega)]
      · rw [if_neg h2, if_neg (by omega)]
  refine ⟨8 * (19 - j) + (7 - k), by omega, ?_, ?_, by rw [List.length_set, zl_length xs j hx (by omega)], ?_⟩
  · unfold bitL
    have e1 : (8 * (19 - j) + (7 - k)) / 8 = 19 - j := by omega
    have e2 : 7 - (8 * (19 - j) + (7 - k)) % 8 = k := by omega
    rw [e1, e2]
    exact h1
  · intro q hq hq2
    unfold bitL
    by_cases he : q / 8 = 19 - j
    · rw [he]
      exact h2 _ (by omega)
    · rw [hall (q / 8) (by omega) (by omega)]
      exact byte255 _ (by omega)
  · intro q hq
    unfold bitL
    rw [hgot]
    by_cases he : q / 8 = 19 - j
    · rw [if_pos he, h3 _ (by omega)]
      by_cases hk1 : 7 - q % 8 = k
      · rw [if_pos hk1, if_neg (by omega)]
        have : q = 8 * (19 - j) + (7 - k) := by omega
        simp [this]
      · rw [if_neg hk1]
        by_cases hk2 : 7 - q % 8 < k
        · rw [if_pos hk2, if_neg (by omega)]
          have : ¬ q = 8 * (19 - j) + (7 - k) := by omega
          simp [this]
        · rw [if_neg hk2, if_pos (by omega), he]
    · rw [if_neg he]
      by_cases hl : q / 8 < 19 - j
      · rw [if_pos hl, if_pos (by omega)]
      · rw [if_neg hl, if_neg (by omega)]
        have : ¬ q = 8 * (19 - j) + (7 - k) := by omega
        simp [this]
theorem next_all (xs : List UInt8) (hall : ∀ k, k < 20 → xs.getD k 0 = 255) : ∀ q, q < 160 → bitL xs q = true := by
  intro q hq
  unfold bitL
  rw [hall (q / 8) (by omega)]
  exact byte255 _ (by omega)

/-- xs with its last n bits zero. -/
def clearR (xs : List UInt8) : Nat → List UInt8
  | 0 => xs
  | n + 1 => withL (clearR xs n) (159 - n) false
theorem clearR_length (xs : List UInt8) (n : Nat) (hx : xs.length = 20) : (clearR xs n).length = 20 := by
  induction n with
  | zero => exact hx
  | succ n ih => rw [clearR, withL_length, ih]
theorem clearR_bit (xs : List UInt8) (n : Nat) (hx : xs.length = 20) (hn : n ≤ 160) (q : Nat) (hq : q < 160) : bitL (clearR xs n) q = if q < 160 - n then bitL xs q else false := by
  induction n with
  | zero => rw [clearR, if_pos (by omega)]
  | succ n ih =>
    rw [clearR, withL_bit _ _ _ _ (by rw [clearR_length xs n hx]; omega), ih (by omega)]
    by_cases h : q = 159 - n
    · rw [if_pos h, if_neg (by omega)]
    · rw [if_neg h]
      by_cases h2 : q < 160 - n
      · rw [if_pos h2, if_pos (by omega)]
      · rw [if_neg h2, if_neg (by omega)]
theorem next_ref (xs : List UInt8) (n : Nat) (hx : xs.length = 20) (hn : n < 160) (hall : ∀ q, 159 - n < q → q < 160 → bitL xs q = true) (h0 : bitL xs (159 - n) = false) : IsNext xs (159 - n) (withL (clearR xs n) (159 - n) true) := by
  refine ⟨by omega, h0, hall, by rw [withL_length, clearR_length xs n hx], fun q hq => ?_⟩
  rw [withL_bit _ _ _ _ (by rw [clearR_length xs n hx]; omega), clearR_bit xs n hx (by omega) q hq]
  by_cases h : q = 159 - n
  · rw [if_pos h, if_neg (by omega)]
    simp [h]
  · rw [if_neg h]
    by_cases h2 : q < 160 - n
    · rw [if_pos h2, if_pos (by omega)]
    · rw [if_neg h2, if_neg (by omega)]
      simp [h]
end Go.Proofs.Ytcoiaddjfeaciaa
