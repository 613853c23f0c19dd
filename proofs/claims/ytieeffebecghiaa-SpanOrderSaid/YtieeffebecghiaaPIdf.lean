/- Ids with a bit turned, as lists of bytes: plain lemmas without a program. No condition. -/
import Derived.Test.YtieeffebecghiaaPRba
namespace Go.Proofs.Ytieeffebecghiaa
open Go.RowKit

def withB (x : UInt8) (k : Nat) (b : Bool) : UInt8 := if x.toNat.testBit k = b then x else x ^^^ UInt8.ofNat (2 ^ k)
def withL (xs : List UInt8) (i : Nat) (b : Bool) : List UInt8 := xs.set (i / 8) (withB (xs.getD (i / 8) 0) (7 - i % 8) b)
theorem withL_length (xs : List UInt8) (i : Nat) (b : Bool) : (withL xs i b).length = xs.length := by simp [withL]
theorem two_pow8 : ∀ k : Fin 8, (UInt8.ofNat (2 ^ k.val)).toNat = 2 ^ k.val := by decide
theorem withB_bit (x : UInt8) (k m : Nat) (b : Bool) (hk : k < 8) : (withB x k b).toNat.testBit m = if m = k then b else x.toNat.testBit m := by
  unfold withB
  by_cases h : x.toNat.testBit k = b
  · rw [if_pos h]
    by_cases hm : m = k
    · rw [if_pos hm, hm, h]
    · rw [if_neg hm]
  · rw [if_neg h, UInt8.toNat_xor, Nat.testBit_xor, two_pow8 ⟨k, hk⟩, Nat.testBit_two_pow]
    by_cases hm : m = k
    · subst hm
      rw [if_pos rfl]
      cases b <;> cases hx : x.toNat.testBit m <;> simp_all
    · rw [if_neg hm]
      have : ¬ k = m := fun e => hm e.symm
      simp [this]
theorem withL_bit (xs : List UInt8) (i m : Nat) (b : Bool) (hi : i < 8 * xs.length) : bitL (withL xs i b) m = if m = i then b else bitL xs m := by
  unfold bitL withL
  by_cases hq : m / 8 = i / 8
  · have hlt : i / 8 < xs.length := by omega
    rw [hq, List.getD_eq_getElem?_getD, List.getElem?_set_self hlt, Option.getD_some, withB_bit _ _ _ _ (by omega)]
    by_cases hm : m = i
    · rw [if_pos hm, if_pos (by rw [hm])]
    · rw [if_neg hm, if_neg (by omega)]
  · have hm : m ≠ i := fun e => hq (by rw [e])
    rw [if_neg hm, List.getD_eq_getElem?_getD, List.getElem?_set_ne (fun e => hq e.symm), ← List.getD_eq_getElem?_getD]
theorem withL_same (xs : List UInt8) (i : Nat) (b : Bool) (h : bitL xs i = b) : withL xs i b = xs := by
  unfold withL withB
  unfold bitL at h
  rw [if_pos h]
  by_cases hl : i / 8 < xs.length
  · rw [List.getD_eq_getElem?_getD, List.getElem?_eq_getElem hl]
    exact List.set_getElem_self hl
  · exact List.set_eq_of_length_le (by omega)
theorem ext_bits {xs ys : List UInt8} (h : xs.length = ys.length) (hb : ∀ i, i < 8 * xs.length → bitL xs i = bitL ys i) : xs = ys := by
  apply Decidable.byContradiction
  intro hne
  obtain ⟨j1, j2⟩ := (pfxN_spec xs ys h).2.2.1 hne
  exact j2 (hb _ j1)
theorem xorL_bit : ∀ (xs ys : List UInt8) (i : Nat), xs.length = ys.length → bitL (xorL xs ys) i = (bitL xs i != bitL ys i)
  | [], [], i, _ => by simp [xorL, bitL]
  | x :: xs, y :: ys, i, h => by
    have hl : xs.length = ys.length := by simpa using h
    by_cases h8 : i < 8
    · simp only [xorL, List.zipWith_cons_cons]
      rw [bitL_head _ _ _ h8, bitL_head _ _ _ h8, bitL_head _ _ _ h8, UInt8.toNat_xor, Nat.testBit_xor]
    · have e : i = 8 + (i - 8) := by omega
      have ih := xorL_bit xs ys (i - 8) hl
      simp only [xorL, List.zipWith_cons_cons] at ih ⊢
      rw [e, bitL_tail, bitL_tail, bitL_tail]
      exact ih
theorem bitL_zero (n i : Nat) : bitL (List.replicate n 0) i = false := by
  unfold bitL
  have : ((List.replicate n (0 : UInt8)).getD (i / 8) 0) = 0 := by
    rw [List.getD_eq_getElem?_getD, List.getElem?_replicate]
    split <;> rfl
  rw [this]
  simp
/-- The reference's distance, the first j bits mixed. -/
def xorR (xs ys : List UInt8) : Nat → List UInt8
  | 0 => List.replicate 20 0
  | j + 1 => if bitL xs j = bitL ys j then xorR xs ys j else withL (xorR xs ys j) j true
theorem xorR_length (xs ys : List UInt8) (j : Nat) : (xorR xs ys j).length = 20 := by
  induction j with
  | zero => rfl
  | succ j ih =>
    unfold xorR
    split
    · exact ih
    · rw [withL_length, ih]
theorem xorR_bit (xs ys : List UInt8) (j : Nat) (hj : j ≤ 160) (m : Nat) : bitL (xorR xs ys j) m = (decide (m < j) && (bitL xs m != bitL ys m)) := by
  induction j with
  | zero =>
    unfold xorR
    rw [bitL_zero]
    simp
  | succ j ih =>
    unfold xorR
    by_cases h : bitL xs j = bitL ys j
    · rw [if_pos h, ih (by omega)]
      by_cases hm : m = j
      · subst hm
        simp [h]
      · have : decide (m < j) = decide (m < j + 1) := by
          apply decide_eq_decide.2
          omega
        rw [this]
    · rw [if_neg h, withL_bit _ _ _ _ (by rw [xorR_length]; omega), ih (by omega)]
      by_cases hm : m = j
      · subst hm
        simp [h]
      · rw [if_neg hm]
        have : decide (m < j) = decide (m < j + 1) := by
          apply decide_eq_decide.2
          omega
        rw [this]
theorem xorR_full (xs ys : List UInt8) (hx : xs.length = 20) (hy : ys.length = 20) : xorR xs ys 160 = xorL xs ys := by
  have hl : (xorL xs ys).length = 20 := (xorL_length (hx.trans hy.symm)).trans hx
  apply ext_bits (by rw [xorR_length, hl])
  intro i hi
  rw [xorR_length] at hi
  rw [xorR_bit _ _ _ (by omega), xorL_bit _ _ _ (hx.trans hy.symm)]
  simp [show i < 160 by omega]
end Go.Proofs.Ytieeffebecghiaa
