/- Bits, distances and prefixes of ids, as lists of bytes: plain lemmas without a program. No condition. Contracts of the small functions of package ident: places, masks, leading zeros. Conditions: numbers are ints. Contract of Bit of package ident. Conditions: an id has 20 bytes. -/
import Derived.Test.YtbfhfnbhfeedbaaXAAca
import Derived.Test.YtbfhfnbhfeedbaaXERefa
import Derived.Test.YtbfhfnbhfeedbaaXPPPRwa
import Derived.WalkKit
import Derived.Deep.AppendSrc
import Derived.Laws.BytesString
import Derived.Laws.CopyOwn
import Derived.Deep.AppendLies
import Derived.Deep.Draws
import Derived.WalkSpells
import Derived.Test.YtbfhfnbhfeedbaaRows
import Derived.WalkLawsBesides
import Derived.Lib.Hide
import Derived.Outline
import Derived.Laws.BitsAllLaws
import Derived.Laws.BitsLemmas
import Derived.Laws.Bits64
import Derived.LoopTactic
import Derived.Deep.MidRow
import Derived.BigQuiet
section
namespace Go.Proofs.Ytbfhfnbhfeedbaa
set_option maxRecDepth 100000
open Go.RowKit

/-- Bit i of an id, the most significant one of its first byte being 0. -/
def bitL (xs : List UInt8) (i : Nat) : Bool := (xs.getD (i / 8) 0).toNat.testBit (7 - i % 8)
def xorL (xs ys : List UInt8) : List UInt8 := List.zipWith (· ^^^ ·) xs ys
/-- The zeros ahead of a byte's first one. -/
def lz8 (z : UInt8) : Nat :=
  if 128 ≤ z.toNat then 0 else if 64 ≤ z.toNat then 1 else if 32 ≤ z.toNat then 2 else if 16 ≤ z.toNat then 3
  else if 8 ≤ z.toNat then 4 else if 4 ≤ z.toNat then 5 else if 2 ≤ z.toNat then 6 else if 1 ≤ z.toNat then 7 else 8
/-- The bits that two ids have in common. -/
def pfxN : List UInt8 → List UInt8 → Nat
  | x :: xs, y :: ys => if x = y then 8 + pfxN xs ys else lz8 (x ^^^ y)
  | _, _ => 0

theorem lz8_fin : ∀ z : Fin 256, z.val ≠ 0 → lz8 (UInt8.ofNat z.val) < 8 ∧ (∀ i : Fin 8, i.val < lz8 (UInt8.ofNat z.val) → z.val.testBit (7 - i.val) = false) ∧ z.val.testBit (7 - lz8 (UInt8.ofNat z.val)) = true := by decide +kernel
theorem lz8_spec (z : UInt8) (h : z ≠ 0) : lz8 z < 8 ∧ (∀ i, i < lz8 z → z.toNat.testBit (7 - i) = false) ∧ z.toNat.testBit (7 - lz8 z) = true := by
  have hz : z.toNat ≠ 0 := fun e => h (UInt8.toNat.inj (by simpa using e))
  have hl := z.toNat_lt
  obtain ⟨h1, h2, h3⟩ := lz8_fin ⟨z.toNat, hl⟩ hz
  simp only [UInt8.ofNat_toNat] at h1 h2 h3
  exact ⟨h1, fun i hi => h2 ⟨i, by omega⟩ hi, h3⟩

theorem xor_eq_zero {x y : UInt8} (h : x ^^^ y = 0) : x = y := UInt8.xor_eq_zero_iff.1 h

theorem byte_diff {x y : UInt8} (h : x ≠ y) : lz8 (x ^^^ y) < 8 ∧ (∀ i, i < lz8 (x ^^^ y) → x.toNat.testBit (7 - i) = y.toNat.testBit (7 - i)) ∧ x.toNat.testBit (7 - lz8 (x ^^^ y)) ≠ y.toNat.testBit (7 - lz8 (x ^^^ y)) := by
  obtain ⟨h1, h2, h3⟩ := lz8_spec (x ^^^ y) (fun e => h (xor_eq_zero e))
  refine ⟨h1, fun i hi => ?_, ?_⟩
  · have := h2 i hi
    rw [UInt8.toNat_xor, Nat.testBit_xor] at this
    simpa using this
  · rw [UInt8.toNat_xor, Nat.testBit_xor] at h3
    simpa using h3

theorem bitL_head (x : UInt8) (xs : List UInt8) (i : Nat) (h : i < 8) : bitL (x :: xs) i = x.toNat.testBit (7 - i) := by
  unfold bitL
  rw [Nat.div_eq_of_lt h, Nat.mod_eq_of_lt h]
  rfl
theorem bitL_tail (x : UInt8) (xs : List UInt8) (i : Nat) : bitL (x :: xs) (8 + i) = bitL xs i := by
  unfold bitL
  have e1 : (8 + i) / 8 = i / 8 + 1 := by omega
  have e2 : (8 + i) % 8 = i % 8 := by omega
  rw [e1, e2]
  rfl

theorem pfxN_spec : ∀ (xs ys : List UInt8), xs.length = ys.length →
    pfxN xs ys ≤ 8 * xs.length ∧ (∀ i, i < pfxN xs ys → bitL xs i = bitL ys i) ∧ (xs ≠ ys → pfxN xs ys < 8 * xs.length ∧ bitL xs (pfxN xs ys) ≠ bitL ys (pfxN xs ys)) ∧ (xs = ys → pfxN xs ys = 8 * xs.length)
  | [], [], _ => ⟨by simp [pfxN], fun i hi => by simp [pfxN] at hi, fun h => absurd rfl h, fun _ => rfl⟩
  | x :: xs, y :: ys, h => by
    have hl : xs.length = ys.length := by simpa using h
    obtain ⟨i1, i2, i3, i4⟩ := pfxN_spec xs ys hl
    unfold pfxN
    by_cases hxy : x = y
    · subst hxy
      rw [if_pos rfl]
      refine ⟨by rw [List.length_cons]; omega, fun i hi => ?_, fun hne => ?_, fun he => ?_⟩
      · by_cases h8 : i < 8
        · rw [bitL_head _ _ _ h8, bitL_head _ _ _ h8]
        · have e : i = 8 + (i - 8) := by omega
          rw [e, bitL_tail, bitL_tail]
          exact i2 _ (by omega)
      · obtain ⟨j1, j2⟩ := i3 (fun e => hne (by rw [e]))
        refine ⟨by rw [List.length_cons]; omega, ?_⟩
        rw [bitL_tail, bitL_tail]
        exact j2
      · rw [List.length_cons, i4 (by injection he)]
        omega
    · rw [if_neg hxy]
      obtain ⟨j1, j2, j3⟩ := byte_diff hxy
      refine ⟨by rw [List.length_cons]; omega, fun i hi => ?_, fun _ => ⟨by rw [List.length_cons]; omega, ?_⟩, fun he => absurd (by injection he) hxy⟩
      · rw [bitL_head _ _ _ (by omega), bitL_head _ _ _ (by omega)]
        exact j2 i hi
      · rw [bitL_head _ _ _ j1, bitL_head _ _ _ j1]
        exact j3

/-- A prefix is told by where the bits are the same. -/
theorem pfxN_unique {xs ys : List UInt8} (h : xs.length = ys.length) (n : Nat) (h1 : n ≤ 8 * xs.length) (h2 : ∀ i, i < n → bitL xs i = bitL ys i) (h3 : n < 8 * xs.length → bitL xs n ≠ bitL ys n) : pfxN xs ys = n := by
  obtain ⟨i1, i2, i3, i4⟩ := pfxN_spec xs ys h
  by_cases he : xs = ys
  · have := i4 he
    by_cases hn : n < 8 * xs.length
    · exact absurd (by rw [he]) (h3 hn)
    · omega
  · obtain ⟨j1, j2⟩ := i3 he
    by_cases hlt : n < pfxN xs ys
    · exact absurd (i2 n hlt) (h3 (by omega))
    · by_cases hgt : pfxN xs ys < n
      · exact absurd (h2 _ hgt) j2
      · omega
theorem pfxN_comm (xs ys : List UInt8) (h : xs.length = ys.length) : pfxN xs ys = pfxN ys xs := by
  obtain ⟨i1, i2, i3, i4⟩ := pfxN_spec ys xs h.symm
  refine pfxN_unique h _ (by omega) (fun i hi => (i2 i hi).symm) (fun hlt => ?_)
  by_cases he : xs = ys
  · have := i4 he.symm
    omega
  · exact (i3 (Ne.symm he)).2.symm

theorem xorL_length {xs ys : List UInt8} (h : xs.length = ys.length) : (xorL xs ys).length = xs.length := by simp [xorL, h]
/-- Which one of two ids is below. -/
def cmpL (xs ys : List UInt8) : Int := if xs = ys then 0 else if bitL xs (pfxN xs ys) then 1 else -1
theorem cmpL_neg (xs ys : List UInt8) (h : xs.length = ys.length) : cmpL xs ys = -cmpL ys xs := by
  unfold cmpL
  by_cases he : xs = ys
  · rw [if_pos he, if_pos he.symm]
    rfl
  · rw [if_neg he, if_neg (Ne.symm he), pfxN_comm ys xs h.symm]
    have := ((pfxN_spec xs ys h).2.2.1 he).2
    cases e1 : bitL xs (pfxN xs ys) <;> cases e2 : bitL ys (pfxN xs ys) <;> simp_all
end Go.Proofs.Ytbfhfnbhfeedbaa
end
section
namespace Go.Proofs.Ytbfhfnbhfeedbaa
set_option maxRecDepth 100000
open Go.RowKit

theorem isPlace_yes (i : Int) (w : World) (h1 : 0 ≤ i) (h2 : i < 160) : Calls Try.prog 115 #[.int .i64 i] w fun e w' => e = .returned (.bool true) ∧ w = w' := by
  go_enter Try.func115, Try.ntmps115
  go_wp2
  go_ret
  exact ⟨rfl, rfl⟩
theorem pow_mask (j : Nat) : ((2 : Int) ^ (7 - j % 8) % 256) = ((2 ^ (7 - j % 8) : Nat) : Int) := by
  have h : j % 8 = 0 ∨ j % 8 = 1 ∨ j % 8 = 2 ∨ j % 8 = 3 ∨ j % 8 = 4 ∨ j % 8 = 5 ∨ j % 8 = 6 ∨ j % 8 = 7 := by omega
  rcases h with h | h | h | h | h | h | h | h <;> rw [h] <;> rfl
theorem mask_any (j : Nat) (w : World) (h : j < 160) : Calls Try.prog 116 #[.int .i64 (j : Int)] w fun e w' => e = .returned (.int .u8 ((2 ^ (7 - j % 8) : Nat) : Int)) ∧ w = w' := by
  go_enter Try.func116, Try.ntmps116
  go_wp2
  go_ret
  exact ⟨congrArg (fun x => Ending.returned (.int .u8 x)) (pow_mask j), rfl⟩
theorem ba_get (t : ByteArray) (n : Nat) (h : n < t.size) : t[n] = t.data.toList.getD n 0 := by
  have h' : n < t.data.toList.length := h
  rw [List.getD_eq_getElem?_getD, List.getElem?_eq_getElem h']
  rfl
theorem len8_any (z : UInt8) (w : World) : Calls Try.prog 119 #[.int .u8 (z.toNat : Int)] w fun e w' => e = .returned (.int .i64 ((8 - lz8 z : Nat) : Int)) ∧ w = w' := by
  have hz : (z.toNat : Int) < 256 := by have := z.toNat_lt; omega
  have hsz : Lib.len8tab.size = 256 := by decide +kernel
  go_enter Try.func119, Try.ntmps119
  go_wp2
  go_ret
  refine ⟨congrArg (fun x => Ending.returned (.int .i64 x)) ?_, rfl⟩
  rw [ba_get]
  clear hz hsz
  obtain ⟨⟨⟨n, hn⟩⟩⟩ := z
  revert n
  decide +kernel
theorem lz_any (z : UInt8) (w : World) : Calls Try.prog 117 #[.int .u8 (z.toNat : Int)] w fun e w' => e = .returned (.int .i64 (lz8 z : Int)) ∧ w = w' := by
  have h8 : lz8 z ≤ 8 := by unfold lz8; repeat (first | omega | split)
  have HL := Lib.hid (len8_any z)
  have e1 : ((8 - lz8 z : Nat) : Int) = 8 - (lz8 z : Int) := by omega
  rw [e1] at HL
  generalize hn : (lz8 z : Int) = n at HL ⊢
  have h0 : 0 ≤ n ∧ n ≤ 8 := by omega
  clear hn e1 h8
  go_enter Try.func117, Try.ntmps117
  go_wp2_with (go_at_call 119; refine (HL.out _).mono ?_; rintro e w1 ⟨rfl, rfl⟩)
  go_ret
  refine ⟨congrArg (fun x => Ending.returned (.int .i64 x)) ?_, rfl⟩
  omega
end Go.Proofs.Ytbfhfnbhfeedbaa
end
section
namespace Go.Proofs.Ytbfhfnbhfeedbaa
set_option maxRecDepth 100000
set_option maxHeartbeats 1000000
open Go.RowKit

theorem and_mask : ∀ (z : Fin 256) (k : Fin 8), bits .and .u8 (z.val : Int) ((2 ^ k.val : Nat) : Int) = if z.val.testBit k.val then ((2 ^ k.val : Nat) : Int) else 0 := by decide +kernel
theorem and_mask' (z : UInt8) (k : Nat) (h : k < 8) : bits .and .u8 (z.toNat : Int) ((2 ^ k : Nat) : Int) = if z.toNat.testBit k then ((2 ^ k : Nat) : Int) else 0 := and_mask ⟨z.toNat, z.toNat_lt⟩ ⟨k, h⟩

theorem quiet_l {P : Program} {f : FuncId} {args : Array Value} {w : World} {n : Nat} {v : Value} (h : ∀ W, Calls P f args W fun e w' => e = .returned v ∧ W = w') : Calls P f args (w.drewN n) fun e w' => e = .returned v ∧ ∃ m, w' = w.drewN m :=
  (h _).mono (by rintro e w' ⟨rfl, rfl⟩; exact ⟨rfl, n, rfl⟩)
theorem below_drewN {B : Nat} {a w : World} (h : Below B a w) (n : Nat) : Below B a (w.drewN n) := ⟨h.os, h.tape, h.output, h.size, h.block⟩
end Go.Proofs.Ytbfhfnbhfeedbaa
end
