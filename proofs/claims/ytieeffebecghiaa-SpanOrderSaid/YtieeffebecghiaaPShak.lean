/- A hash that no call made has nothing: for every text. Every call of a nil hash, and of one that is a plain Hash, answers its zero value. No condition. -/
import Derived.Test.YtieeffebecghiaaPIde
import Derived.Lib.SlBytesConst
import Derived.LoopTactic
import Derived.Stop.BytesEq
namespace Go.Proofs.Ytieeffebecghiaa
set_option maxRecDepth 100000
open Go.RowKit Go.Great
set_option linter.unusedVariables false
set_option linter.unusedSimpArgs false

theorem eq61 (xs ys : List UInt8) (hx : xs.length = 20) (hy : ys.length = 20) (W : World) : (Op.equalIn 10000 23 (.agg (bcells xs).toArray) (.agg (bcells ys).toArray)).run Try.prog W = .ok (xs == ys) W :=
  run_equalIn_bytes W 9998 23 5 20 Try.underlying23 Try.underlying5 (fun w => by
    obtain ⟨i0, hi, hz0, hz1, hz2⟩ := info_parts info5
    simp [sizeOf, typeInfo, hi, hz1]) xs ys hx hy
end Go.Proofs.Ytieeffebecghiaa
