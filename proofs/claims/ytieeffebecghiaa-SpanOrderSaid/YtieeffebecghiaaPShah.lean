/- Contracts of firstWords, New, isMade and id of package sha. No condition. -/
import Derived.Test.YtieeffebecghiaaPShae
import Derived.LoopTactic
import Derived.Great.BuildSlice
namespace Go.Proofs.Ytieeffebecghiaa
set_option maxRecDepth 100000
open Go.RowKit Go.Great
set_option linter.unusedVariables false
set_option linter.unusedSimpArgs false

theorem size61 : (Try.prog.info? 23).map (·.size) = some 20 := by kernel_rfl
set_option maxRecDepth 100000 in
theorem zero61 (W : World) : (zeroValue 23).run Try.prog W = .ok (.agg (bcells (List.replicate 20 0)).toArray) W := by
  have hi : (Try.prog.info? 23).bind (·.zero) = some (.agg (bcells (List.replicate 20 0)).toArray) := by kernel_rfl
  cases h : Try.prog.info? 23 with
  | none => simp [h] at hi
  | some i =>
    rw [h] at hi
    simp only [Option.bind_some] at hi
    simp [zeroValue, typeInfo, h, hi]
end Go.Proofs.Ytieeffebecghiaa
