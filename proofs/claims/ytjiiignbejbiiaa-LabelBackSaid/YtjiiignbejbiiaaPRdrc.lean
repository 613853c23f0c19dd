/- Contracts of Take and Text of a reader of package octet that was opened, and of Open. Conditions: the bytes that are left are fewer than 900,000; a number that comes in is an int. -/
import Derived.Test.YtjiiignbejbiiaaPRdra
namespace Go.Proofs.Ytjiiignbejbiiaa
set_option maxRecDepth 100000
open Go.RowKit
set_option linter.unusedVariables false

section
variable {w w' : World} {g : Nat}
theorem grownBy_trans {a b c : World} {row : Option Nat} (h : a.grownBy b row) (k : b.grownBy c row) : a.grownBy c row :=
  ⟨k.os.trans h.os, k.tape.trans h.tape, k.output.trans h.output, Nat.le_trans h.size k.size, fun i hi hn => (k.block i (Nat.lt_of_lt_of_le hi h.size) hn).trans (h.block i hi hn)⟩

end
end Go.Proofs.Ytjiiignbejbiiaa
