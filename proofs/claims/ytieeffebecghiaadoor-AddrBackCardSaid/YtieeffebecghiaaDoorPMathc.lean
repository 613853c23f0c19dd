/- Numbers and texts that are put and read again: plain lemmas without a program. No condition. -/
import Derived.Test.YtieeffebecghiaaDoorPPair
namespace Go.Proofs.YtieeffebecghiaaDoor
set_option maxRecDepth 100000

theorem putB_succ (N k : Nat) : putB N (k + 1) = putB (N / 256) k ++ [UInt8.ofNat N] := by
  unfold putB
  rw [List.range_succ, List.map_append]
  congr 1
  · apply List.map_congr_left
    intro i hi
    have hi : i < k := by simpa using hi
    congr 1
    rw [Nat.div_div_eq_div_mul, show (256 : Nat) = 2 ^ 8 from rfl, ← Nat.pow_add]
    congr 2
    omega
  · simp

theorem getN_putB (k : Nat) : ∀ N : Nat, getN (putB N k) = N % 256 ^ k := by
  induction k with
  | zero => intro N; simp [putB, getN, Nat.mod_one]
  | succ k ih =>
    intro N
    rw [putB_succ, getN_snoc, ih]
    have h1 : (UInt8.ofNat N).toNat = N % 256 := by simp
    rw [h1, Nat.pow_succ, Nat.mul_comm (256 ^ k) 256, Nat.mod_mul]
    omega

theorem putB_getN (k : Nat) : ∀ ys : List UInt8, ys.length = k → putB (getN ys) k = ys := by
  induction k with
  | zero => intro ys h; have := List.eq_nil_of_length_eq_zero h; subst this; rfl
  | succ k ih =>
    intro ys h
    have hne : ys ≠ [] := by intro e; subst e; simp at h
    have hy := List.dropLast_concat_getLast hne
    rw [putB_succ]
    rw [← hy, getN_snoc]
    have hb := (ys.getLast hne).toNat_lt
    have e1 : (getN ys.dropLast * 256 + (ys.getLast hne).toNat) / 256 = getN ys.dropLast := by omega
    rw [e1, ih _ (by rw [List.length_dropLast]; omega)]
    congr 2
    apply UInt8.toNat.inj
    simp

/-- Parts that are put one behind the other. -/
def cat (f : Nat → List UInt8) (j : Nat) : List UInt8 := (List.range j).flatMap f
theorem cat_succ (f : Nat → List UInt8) (j : Nat) : cat f (j + 1) = cat f j ++ f j := by simp [cat, List.range_succ]
theorem cat_length (f : Nat → List UInt8) (B : Nat) (h : ∀ i, (f i).length ≤ B) (j : Nat) : (cat f j).length ≤ B * j := by
  induction j with
  | zero => simp [cat]
  | succ j ih =>
    rw [cat_succ, List.length_append, Nat.mul_succ]
    have := h j
    omega

/-- A number shifted to the left and back again. -/
theorem shift_back (N k : Nat) (h1 : 1 ≤ k) (h8 : k ≤ 8) : N * 2 ^ (64 - 8 * k) % 18446744073709551616 / 2 ^ (64 - 8 * k) = N % 256 ^ k := by
  have e1 : (18446744073709551616 : Nat) = 2 ^ (64 - 8 * k) * 256 ^ k := by
    rw [show (256 : Nat) = 2 ^ 8 from rfl, ← Nat.pow_mul, ← Nat.pow_add, show 64 - 8 * k + 8 * k = 64 from by omega]
  rw [e1, Nat.mul_comm N, Nat.mul_mod_mul_left, Nat.mul_div_cancel_left _ (Nat.two_pow_pos _)]
end Go.Proofs.YtieeffebecghiaaDoor
