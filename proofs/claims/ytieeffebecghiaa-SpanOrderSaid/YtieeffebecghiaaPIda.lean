/- Bits, distances and prefixes of ids, as lists of bytes: plain lemmas without a program. No condition. -/
import Derived.Test.YtieeffebecghiaaPWords
import Derived.WalkKit
namespace Go.Proofs.Ytieeffebecghiaa
open Go.RowKit

/-- Bit i of an id, the most significant one of its first byte being 0. -/
def bitL (xs : List UInt8) (i : Nat) : Bool := (xs.getD (i / 8) 0).toNat.testBit (7 - i % 8)
def xorL (xs ys : List UInt8) : List UInt8 := List.zipWith (· ^^^ ·) xs ys
/-- The zeros ahead of a byte's first one. -/
def lz8 (z : UInt8) : Nat :=
  if 128 ≤ z.toNat then 0 else if 64 ≤ z.toNat then 1 else if 32 ≤ z.toNat then 2 else if 16 ≤ z.toNat then 3
  else if 8 ≤ z.toNat then 4 else if 4 ≤ z.toNat then 5 else if 2 ≤ z.toNat then 6 else if 1 ≤ z.toNat then 7 else 8
/-- The bits that two ids have in common. -/
def pfxN : List UInt8 → List UInt8 → Nat
  | x :: xs, y :: ys => if x = y then 8 + pfxN xs ys else lz8 (x ^^^ y)
  | _, _ => 0

theorem lz8_fin : ∀ z : Fin 256, z.val ≠ 0 → lz8 (UInt8.ofNat z.val) < 8 ∧ (∀ i : Fin 8, i.val < lz8 (UInt8.ofNat z.val) → z.val.testBit (7 - i.val) = false) ∧ z.val.testBit (7 - lz8 (UInt8.ofNat z.val)) = true := by decide +kernel
theorem lz8_spec (z : UInt8) (h : z ≠ 0) : lz8 z < 8 ∧ (∀ i, i < lz8 z → z.toNat.testBit (7 - i) = false) ∧ z.toNat.testBit (7 - lz8 z) = true := by
  have hz : z.toNat ≠ 0 := fun e => h (UInt8.toNat.inj (by simpa using e))
  have hl := z.toNat_lt
  obtain ⟨h1, h2, h3⟩ := lz8_fin ⟨z.toNat, hl⟩ hz
  simp only [UInt8.ofNat_toNat] at h1 h2 h3
  exact ⟨h1, fun i hi => h2 ⟨i, by omega⟩ hi, h3⟩

theorem xor_eq_zero {x y : UInt8} (h : x ^^^ y = 0) : x = y := UInt8.xor_eq_zero_iff.1 h

theorem byte_diff {x y : UInt8} (h : x ≠ y) : lz8 (x ^^^ y) < 8 ∧ (∀ i, i < lz8 (x ^^^ y) → x.toNat.testBit (7 - i) = y.toNat.testBit (7 - i)) ∧ x.toNat.testBit (7 - lz8 (x ^^^ y)) ≠ y.toNat.testBit (7 - lz8 (x ^^^ y)) := by
  obtain ⟨h1, h2, h3⟩ := lz8_spec (x ^^^ y) (fun e => h (xor_eq_zero e))
  refine ⟨h1, fun i hi => ?_, ?_⟩
  · have := h2 i hi
    rw [UInt8.toNat_xor, Nat.testBit_xor] at this
    simpa using this
  · rw [UInt8.toNat_xor, Nat.testBit_xor] at h3
    simpa using h3

theorem bitL_head (x : UInt8) (xs : List UInt8) (i : Nat) (h : i < 8) : bitL (x :: xs) i = x.toNat.testBit (7 - i) := by
  unfold bitL
  rw [Nat.div_eq_of_lt h, Nat.mod_eq_of_lt h]
  rfl
theorem bitL_tail (x : UInt8) (xs : List UInt8) (i : Nat) : bitL (x :: xs) (8 + i) = bitL xs i := by
  unfold bitL
  have e1 : (8 + i) / 8 = i / 8 + 1 := by omega
  have e2 : (8 + i) % 8 = i % 8 := by omega
  rw [e1, e2]
  rfl

theorem pfxN_spec : ∀ (xs ys : List UInt8), xs.length = ys.length →
    pfxN xs ys ≤ 8 * xs.length ∧ (∀ i, i < pfxN xs ys → bitL xs i = bitL ys i) ∧ (xs ≠ ys → pfxN xs ys < 8 * xs.length ∧ bitL xs (pfxN xs ys) ≠ bitL ys (pfxN xs ys)) ∧ (xs = ys → pfxN xs ys = 8 * xs.length)
  | [], [], _ => ⟨by simp [pfxN], fun i hi => by simp [pfxN] at hi, fun h => absurd rfl h, fun _ => rfl⟩
  | x :: xs, y :: ys, h => by
    have hl : xs.length = ys.length := by simpa using h
    obtain ⟨i1, i2, i3, i4⟩ := pfxN_spec xs ys hl
    unfold pfxN
    by_cases hxy : x = y
    · subst hxy
      rw [if_pos rfl]
      refine ⟨by rw [List.length_cons]; omega, fun i hi => ?_, fun hne => ?_, fun he => ?_⟩
      · by_cases h8 : i < 8
        · rw [bitL_head _ _ _ h8, bitL_head _ _ _ h8]
        · have e : i = 8 + (i - 8) := by omega
          rw [e, bitL_tail, bitL_tail]
          exact i2 _ (by omega)
      · obtain ⟨j1, j2⟩ := i3 (fun e => hne (by rw [e]))
        refine ⟨by rw [List.length_cons]; omega, ?_⟩
        rw [bitL_tail, bitL_tail]
        exact j2
      · rw [List.length_cons, i4 (by injection he)]
        omega
    · rw [if_neg hxy]
      obtain ⟨j1, j2, j3⟩ := byte_diff hxy
      refine ⟨by rw [List.length_cons]; omega, fun i hi => ?_, fun _ => ⟨by rw [List.length_cons]; omega, ?_⟩, fun he => absurd (by injection he) hxy⟩
      · rw [bitL_head _ _ _ (by omega), bitL_head _ _ _ (by omega)]
        exact j2 i hi
      · rw [bitL_head _ _ _ j1, bitL_head _ _ _ j1]
        exact j3

/-- A prefix is told by where the bits are the same. -/
theorem pfxN_unique {xs ys : List UInt8} (h : xs.length = ys.length) (n : Nat) (h1 : n ≤ 8 * xs.length) (h2 : ∀ i, i < n → bitL xs i = bitL ys i) (h3 : n < 8 * xs.length → bitL xs n ≠ bitL ys n) : pfxN xs ys = n := by
  obtain ⟨i1, i2, i3, i4⟩ := pfxN_spec xs ys h
  by_cases he : xs = ys
  · have := i4 he
    by_cases hn : n < 8 * xs.length
    · exact absurd (by rw [he]) (h3 hn)
    · omega
  · obtain ⟨j1, j2⟩ := i3 he
    by_cases hlt : n < pfxN xs ys
    · exact absurd (i2 n hlt) (h3 (by omega))
    · by_cases hgt : pfxN xs ys < n
      · exact absurd (h2 _ hgt) j2
      · omega
theorem pfxN_comm (xs ys : List UInt8) (h : xs.length = ys.length) : pfxN xs ys = pfxN ys xs := by
  obtain ⟨i1, i2, i3, i4⟩ := pfxN_spec ys xs h.symm
  refine pfxN_unique h _ (by omega) (fun i hi => (i2 i hi).symm) (fun hlt => ?_)
  by_cases he : xs = ys
  · have := i4 he.symm
    omega
  · exact (i3 (Ne.symm he)).2.symm

/-- Of three prefixes the two least are the same. -/
theorem pfxN_three (a b c : List UInt8) (h1 : a.length = b.length) (h2 : b.length = c.length) :
    (min (min (pfxN a b) (pfxN b c)) (pfxN a c) = pfxN a b ∧ min (min (pfxN a b) (pfxN b c)) (pfxN a c) = pfxN b c) ∨ (min (min (pfxN a b) (pfxN b c)) (pfxN a c) = pfxN b c ∧ min (min (pfxN a b) (pfxN b c)) (pfxN a c) = pfxN a c) ∨ (min (min (pfxN a b) (pfxN b c)) (pfxN a c) = pfxN a b ∧ min (min (pfxN a b) (pfxN b c)) (pfxN a c) = pfxN a c) := by
  obtain ⟨x1, x2, x3, x4⟩ := pfxN_spec a b h1
  obtain ⟨y1, y2, y3, y4⟩ := pfxN_spec b c h2
  by_cases hlt : pfxN a b < pfxN b c
  · have hne : a ≠ b := fun e => by have := x4 e; omega
    obtain ⟨u1, u2⟩ := x3 hne
    have : pfxN a c = pfxN a b := pfxN_unique (h1.trans h2) _ (by omega) (fun i hi => (x2 i hi).trans (y2 i (by omega))) (fun _ => by rw [← y2 _ hlt]; exact u2)
    omega
  · by_cases hgt : pfxN b c < pfxN a b
    · have hne : b ≠ c := fun e => by have := y4 e; omega
      obtain ⟨u1, u2⟩ := y3 hne
      have : pfxN a c = pfxN b c := pfxN_unique (h1.trans h2) _ (by omega) (fun i hi => (x2 i (by omega)).trans (y2 i hi)) (fun _ => by rw [x2 _ hgt]; exact u2)
      omega
    · have hab : ∀ i, i < pfxN a b → bitL a i = bitL c i := fun i hi => (x2 i hi).trans (y2 i (by omega))
      obtain ⟨z1, z2, z3, z4⟩ := pfxN_spec a c (h1.trans h2)
      have : pfxN a b ≤ pfxN a c := by
        by_cases hac : a = c
        · have := z4 hac
          omega
        · obtain ⟨v1, v2⟩ := z3 hac
          apply Decidable.byContradiction
          intro hn
          exact v2 (hab _ (by omega))
      omega

theorem xorL_length {xs ys : List UInt8} (h : xs.length = ys.length) : (xorL xs ys).length = xs.length := by simp [xorL, h]
theorem xorL_comm (xs ys : List UInt8) : xorL xs ys = xorL ys xs := by
  unfold xorL
  rw [List.zipWith_comm]
  congr 1
  funext a b
  exact UInt8.xor_comm _ _
theorem xorL_three : ∀ (a b c : List UInt8), a.length = b.length → b.length = c.length → xorL (xorL a b) (xorL b c) = xorL a c
  | [], [], [], _, _ => rfl
  | x :: a, y :: b, z :: c, h1, h2 => by
    have ih := xorL_three a b c (by simpa using h1) (by simpa using h2)
    simp only [xorL, List.zipWith_cons_cons] at ih ⊢
    rw [ih]
    congr 1
    have e : x ^^^ y ^^^ (y ^^^ z) = x ^^^ (y ^^^ y) ^^^ z := by simp only [UInt8.xor_assoc]
    rw [e, UInt8.xor_self, UInt8.xor_zero]
theorem xorL_zero : ∀ (n : Nat) (a b : List UInt8), a.length = n → b.length = n → (xorL a b = List.replicate n 0 ↔ a = b)
  | 0, [], [], _, _ => by simp [xorL]
  | n + 1, x :: a, y :: b, h1, h2 => by
    have ih := xorL_zero n a b (by simpa using h1) (by simpa using h2)
    simp only [xorL, List.zipWith_cons_cons, List.replicate_succ, List.cons.injEq] at ih ⊢
    rw [ih]
    constructor
    · rintro ⟨e1, e2⟩
      exact ⟨xor_eq_zero e1, e2⟩
    · rintro ⟨rfl, e2⟩
      exact ⟨UInt8.xor_self, e2⟩

/-- Which one of two ids is below. -/
def cmpL (xs ys : List UInt8) : Int := if xs = ys then 0 else if bitL xs (pfxN xs ys) then 1 else -1
theorem cmpL_neg (xs ys : List UInt8) (h : xs.length = ys.length) : cmpL xs ys = -cmpL ys xs := by
  unfold cmpL
  by_cases he : xs = ys
  · rw [if_pos he, if_pos he.symm]
    rfl
  · rw [if_neg he, if_neg (Ne.symm he), pfxN_comm ys xs h.symm]
    have := ((pfxN_spec xs ys h).2.2.1 he).2
    cases e1 : bitL xs (pfxN xs ys) <;> cases e2 : bitL ys (pfxN xs ys) <;> simp_all
end Go.Proofs.Ytieeffebecghiaa
