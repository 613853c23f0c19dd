/- Numbers as bytes: plain lemmas without a program. No condition. -/
import Derived.Test.YtjiiignbejbiiaaPWords
import Derived.WalkKit
namespace Go.Proofs.Ytjiiignbejbiiaa
set_option maxRecDepth 100000

/-- The lowest k bytes of N, the most significant one first. -/
def putB (N k : Nat) : List UInt8 := (List.range k).map fun i => UInt8.ofNat (N / 2 ^ (8 * (k - 1 - i)))
theorem putB_length (N k : Nat) : (putB N k).length = k := by simp [putB]
theorem putB_take (N k i : Nat) (h : i < k) : (putB N k).take (i + 1) = (putB N k).take i ++ [UInt8.ofNat (N / 2 ^ (8 * (k - 1 - i)))] := by
  rw [List.take_succ_eq_append_getElem (by rw [putB_length]; exact h)]
  congr 2
  simp [putB]
theorem putB_all (N k : Nat) : (putB N k).take k = putB N k := List.take_of_length_le (by rw [putB_length]; exact Nat.le_refl _)

theorem byte_div (N j : Nat) : (N : Int) / 2 ^ j % 256 = ((UInt8.ofNat (N / 2 ^ j)).toNat : Int) := by
  have h : ((N : Int) / 2 ^ j) = ((N / 2 ^ j : Nat) : Int) := by
    rw [Int.natCast_ediv]; congr 1
  rw [h]
  simp

end Go.Proofs.Ytjiiignbejbiiaa
