/- Bytes as numbers: plain lemmas without a program. No condition. -/
import Derived.Test.YtjiiignbejbiiaaPOcta
import Derived.Laws.BitsAllLaws
import Derived.Laws.BitsLemmas
import Derived.Laws.Bits64
namespace Go.Proofs.Ytjiiignbejbiiaa
set_option maxRecDepth 100000

/-- The number that bytes are. -/
def getN (xs : List UInt8) : Nat := xs.foldl (fun n b => n * 256 + b.toNat) 0
theorem getN_snoc (xs : List UInt8) (b : UInt8) : getN (xs ++ [b]) = getN xs * 256 + b.toNat := by simp [getN]
theorem foldN_lt (xs : List UInt8) : ∀ n : Nat, xs.foldl (fun n b => n * 256 + b.toNat) n < (n + 1) * 256 ^ xs.length := by
  induction xs with
  | nil => intro n; simp
  | cons b xs ih =>
    intro n
    have h := ih (n * 256 + b.toNat)
    have hb := b.toNat_lt
    rw [List.foldl_cons, List.length_cons, Nat.pow_succ]
    have h2 : (n * 256 + b.toNat + 1) * 256 ^ xs.length ≤ (n + 1) * 256 * 256 ^ xs.length := Nat.mul_le_mul_right _ (by omega)
    have h3 : (n + 1) * 256 * 256 ^ xs.length = (n + 1) * (256 ^ xs.length * 256) := by rw [Nat.mul_assoc, Nat.mul_comm 256]
    omega
theorem getN_lt (xs : List UInt8) : getN xs < 256 ^ xs.length := by
  have := foldN_lt xs 0
  simpa [getN] using this
theorem getN_take_lt' (xs : List UInt8) (j : Nat) (h : j < 8) : getN (xs.take j) < 72057594037927936 := by
  have h1 := getN_lt (xs.take j)
  have h2 : 256 ^ (xs.take j).length ≤ 256 ^ 7 := Nat.pow_le_pow_right (by omega) (by rw [List.length_take]; omega)
  have h3 : (256 : Nat) ^ 7 = 72057594037927936 := by decide
  omega
theorem getN_take_succ (xs : List UInt8) (j : Nat) (h : j < xs.length) : getN (xs.take (j + 1)) = getN (xs.take j) * 256 + (xs[j]).toNat := by
  rw [List.take_succ_eq_append_getElem h, getN_snoc]

theorem or_byte (n b : Nat) (hn : n < 72057594037927936) (hb : b < 256) :
    bits BinOp.or IntKind.u64 (IntKind.u64.wrap ((n : Int) * 256)) (IntKind.u64.wrap (b : Int)) = ((n * 256 + b : Nat) : Int) := by
  have h1 : IntKind.u64.wrap ((n : Int) * 256) = ((n * 256 : Nat) : Int) := by rw [IntKind.wrap_u64]; omega
  have h2 : IntKind.u64.wrap (b : Int) = (b : Int) := by rw [IntKind.wrap_u64]; omega
  rw [h1, h2, u64_or_nat _ _ (by omega) (by omega)]
  congr 1
  have := Nat.shiftLeft_add_eq_or_of_lt (i := 8) (b := b) (by omega) n
  rw [Nat.shiftLeft_eq, show (2 : Nat) ^ 8 = 256 from rfl] at this
  exact this.symm
theorem add_byte (n b : Nat) (hn : n < 72057594037927936) (hb : b < 256) :
    IntKind.u64.wrap (IntKind.u64.wrap ((n : Int) * 256) + IntKind.u64.wrap (b : Int)) = ((n * 256 + b : Nat) : Int) := by
  simp only [IntKind.wrap_u64]
  omega

end Go.Proofs.Ytjiiignbejbiiaa
