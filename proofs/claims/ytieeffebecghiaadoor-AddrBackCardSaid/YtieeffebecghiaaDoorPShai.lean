/- Contracts of the hash's Sum and of Sum of package sha. Conditions: at most 900,000 bytes. -/
import Derived.Test.YtieeffebecghiaaDoorPShae
import Derived.LoopTactic
import Derived.Great.BuildSlice
namespace Go.Proofs.YtieeffebecghiaaDoor
set_option maxRecDepth 100000
open Go.RowKit Go.Great
set_option linter.unusedVariables false
set_option linter.unusedSimpArgs false

theorem below_setRow {a w : World} {B g : Nat} (h : Below B a w) (hg : B ≤ g) (cs : Array Value) : Below B a (w.setRow g cs) :=
  ⟨h.os, h.tape, h.output, by have := h.size; simpa [World.setRow] using this, fun k hk => (setRow_other w g k cs (by omega)).trans (h.block k hk)⟩

end Go.Proofs.YtieeffebecghiaaDoor
