/- The order of ids is that of the numbers that they are: plain lemmas without a program. No condition. Contract of slices.SortFunc at ids, with the closure of ident.Sort. Conditions: fewer than 2^62 ids. -/
import Derived.Test.YtbfhfnbhfeedbaaXMGra
import Derived.WalkKit
import Derived.Deep.AppendSrc
import Derived.Laws.BytesString
import Derived.Laws.CopyOwn
import Derived.Deep.AppendLies
import Derived.Deep.Draws
import Derived.WalkSpells
import Derived.Test.YtbfhfnbhfeedbaaRows
import Derived.WalkLawsBesides
import Derived.Lib.Hide
import Derived.Outline
import Derived.Laws.BitsAllLaws
import Derived.Laws.BitsLemmas
import Derived.Laws.Bits64
import Derived.LoopTactic
import Derived.Test.YtbfhfnbhfeedbaaXCsg
section
namespace Go.Proofs.Ytbfhfnbhfeedbaa
set_option maxRecDepth 100000
open Go.RowKit

theorem fold_acc : ∀ (xs : List UInt8) (n : Nat), xs.foldl (fun n b => n * 256 + b.toNat) n = n * 256 ^ xs.length + getN xs
  | [], n => by simp [getN]
  | x :: xs, n => by
    have h1 := fold_acc xs (n * 256 + x.toNat)
    have h2 := fold_acc xs (0 * 256 + x.toNat)
    have e : getN (x :: xs) = xs.foldl (fun n b => n * 256 + b.toNat) (0 * 256 + x.toNat) := rfl
    rw [List.foldl_cons, h1, e, h2, List.length_cons, Nat.pow_succ, Nat.zero_mul, Nat.zero_add, Nat.add_mul, Nat.mul_assoc, Nat.mul_comm 256, Nat.add_assoc]
theorem getN_cons (x : UInt8) (xs : List UInt8) : getN (x :: xs) = x.toNat * 256 ^ xs.length + getN xs := by
  have e : getN (x :: xs) = xs.foldl (fun n b => n * 256 + b.toNat) (0 * 256 + x.toNat) := rfl
  rw [e, fold_acc, Nat.zero_mul, Nat.zero_add]
theorem byte_fin : ∀ x y : Fin 256, x.val ≠ y.val → (x.val.testBit (7 - lz8 (UInt8.ofNat (x.val ^^^ y.val))) = false ↔ x.val < y.val) := by decide +kernel
theorem byte_lt {x y : UInt8} (h : x ≠ y) : x.toNat.testBit (7 - lz8 (x ^^^ y)) = false ↔ x.toNat < y.toNat := by
  have := byte_fin ⟨x.toNat, x.toNat_lt⟩ ⟨y.toNat, y.toNat_lt⟩ (fun e => h (UInt8.toNat.inj e))
  have e : UInt8.ofNat (x.toNat ^^^ y.toNat) = x ^^^ y := by
    apply UInt8.toNat.inj
    rw [← UInt8.toNat_xor]
    simp
  simp only [e] at this
  exact this
theorem cmpL_cons (x : UInt8) (xs ys : List UInt8) : cmpL (x :: xs) (x :: ys) = cmpL xs ys := by
  unfold cmpL
  by_cases h : xs = ys
  · rw [if_pos h, if_pos (by rw [h])]
  · rw [if_neg h, if_neg (fun e => h (by injection e))]
    have e : pfxN (x :: xs) (x :: ys) = 8 + pfxN xs ys := by
      show (if x = x then 8 + pfxN xs ys else lz8 (x ^^^ x)) = _
      rw [if_pos rfl]
    rw [e, bitL_tail]
theorem cmpL_head {x y : UInt8} (h : x ≠ y) (xs ys : List UInt8) : cmpL (x :: xs) (y :: ys) = if x.toNat.testBit (7 - lz8 (x ^^^ y)) then 1 else -1 := by
  unfold cmpL
  rw [if_neg (fun e => h (by injection e))]
  have e : pfxN (x :: xs) (y :: ys) = lz8 (x ^^^ y) := by
    show (if x = y then 8 + pfxN xs ys else lz8 (x ^^^ y)) = _
    rw [if_neg h]
  rw [e, bitL_head _ _ _ (byte_diff h).1]
/-- An id is below another one just if the number is. -/
theorem cmpL_lt : ∀ (xs ys : List UInt8), xs.length = ys.length → (cmpL xs ys < 0 ↔ getN xs < getN ys)
  | [], [], _ => by simp [cmpL, getN]
  | x :: xs, y :: ys, h => by
    have hl : xs.length = ys.length := by simpa using h
    rw [getN_cons, getN_cons, ← hl]
    have b1 := getN_lt xs
    have b2 := getN_lt ys
    rw [← hl] at b2
    by_cases hxy : x = y
    · subst hxy
      rw [cmpL_cons, cmpL_lt xs ys hl]
      omega
    · rw [cmpL_head hxy]
      have hb := byte_lt hxy
      cases hv : x.toNat.testBit (7 - lz8 (x ^^^ y))
      · have hlt := hb.1 hv
        have : x.toNat * 256 ^ xs.length + 256 ^ xs.length ≤ y.toNat * 256 ^ xs.length := by
          have := Nat.mul_le_mul_right (256 ^ xs.length) (show x.toNat + 1 ≤ y.toNat by omega)
          rw [Nat.add_mul, Nat.one_mul] at this
          exact this
        simp only [Bool.false_eq_true, if_false]
        constructor
        · intro _; omega
        · intro _; decide
      · have hnl : ¬ x.toNat < y.toNat := fun e => by have := hb.2 e; rw [hv] at this; cases this
        have hne : x.toNat ≠ y.toNat := fun e => hxy (UInt8.toNat.inj e)
        have : y.toNat * 256 ^ xs.length + 256 ^ xs.length ≤ x.toNat * 256 ^ xs.length := by
          have := Nat.mul_le_mul_right (256 ^ xs.length) (show y.toNat + 1 ≤ x.toNat by omega)
          rw [Nat.add_mul, Nat.one_mul] at this
          exact this
        simp only [if_true]
        constructor
        · intro h; omega
        · intro h; omega
theorem getN_inj {xs ys : List UInt8} (h : xs.length = ys.length) (e : getN xs = getN ys) : xs = ys := by
  apply Decidable.byContradiction
  intro hne
  have h1 := (cmpL_lt xs ys h)
  have h2 := (cmpL_lt ys xs h.symm)
  have hn := cmpL_neg xs ys h
  have h0 : cmpL xs ys ≠ 0 := by
    unfold cmpL
    rw [if_neg hne]
    split <;> decide
  omega
end Go.Proofs.Ytbfhfnbhfeedbaa
end
section
namespace Go.Proofs.Ytbfhfnbhfeedbaa
open Go.Shelf Go.RowKit Go.Lib Go.Sort
set_option maxRecDepth 100000

/-- An id. -/
def IDv : Type := { xs : List UInt8 // xs.length = 20 }
instance : Inhabited IDv := ⟨⟨List.replicate 20 0, by simp⟩⟩
def encID (x : IDv) : List Value := bcells x.val
def cfID (x y : IDv) : Int := cmpL x.val y.val
def nID (x : IDv) : Nat := getN x.val
theorem ltID (x y : IDv) : ltOf cfID x y = decide (nID x < nID y) := by
  unfold ltOf cfID nID
  have := cmpL_lt x.val y.val (x.property.trans y.property.symm)
  by_cases h : getN x.val < getN y.val
  · rw [decide_eq_true h, decide_eq_true (this.2 h)]
  · rw [decide_eq_false h, decide_eq_false (fun e => h (this.1 e))]
end Go.Proofs.Ytbfhfnbhfeedbaa
end
