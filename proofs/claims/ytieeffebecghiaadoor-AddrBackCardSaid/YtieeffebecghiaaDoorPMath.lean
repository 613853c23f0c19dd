/- Numbers as bytes: plain lemmas without a program. No condition. -/
import Derived.Test.YtieeffebecghiaaDoorPWords
import Derived.WalkKit
namespace Go.Proofs.YtieeffebecghiaaDoor
set_option maxRecDepth 100000

/-- The lowest k bytes of N, the most significant one first. -/
def putB (N k : Nat) : List UInt8 := (List.range k).map fun i => UInt8.ofNat (N / 2 ^ (8 * (k - 1 - i)))
/-- The same of any width: nothing where there is no such width. -/
def putI (N : Nat) (wd : Int) : List UInt8 := if 1 ≤ wd ∧ wd ≤ 8 then putB N wd.toNat else []

theorem putB_length (N k : Nat) : (putB N k).length = k := by simp [putB]
theorem putI_length (N : Nat) (wd : Int) : (putI N wd).length ≤ 8 := by
  unfold putI
  split
  · rw [putB_length]; omega
  · simp
theorem putB_take (N k i : Nat) (h : i < k) : (putB N k).take (i + 1) = (putB N k).take i ++ [UInt8.ofNat (N / 2 ^ (8 * (k - 1 - i)))] := by
  rw [List.take_succ_eq_append_getElem (by rw [putB_length]; exact h)]
  congr 2
  simp [putB]
theorem putB_all (N k : Nat) : (putB N k).take k = putB N k := List.take_of_length_le (by rw [putB_length]; exact Nat.le_refl _)

theorem wrap_u8_div (N j : Nat) : IntKind.u8.wrap ((N : Int) / 2 ^ j) = ((UInt8.ofNat (N / 2 ^ j)).toNat : Int) := by
  have h : ((N : Int) / 2 ^ j) = ((N / 2 ^ j : Nat) : Int) := by
    rw [Int.natCast_ediv]; congr 1
  rw [h]
  simp [IntKind.wrap, IntKind.bits, IntKind.signed]

theorem byte_div (N j : Nat) : (N : Int) / 2 ^ j % 256 = ((UInt8.ofNat (N / 2 ^ j)).toNat : Int) := by
  have h : ((N : Int) / 2 ^ j) = ((N / 2 ^ j : Nat) : Int) := by
    rw [Int.natCast_ediv]; congr 1
  rw [h]
  simp

end Go.Proofs.YtieeffebecghiaaDoor
