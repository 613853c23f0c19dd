/- A reader of the program and one of the reference side by side in memory. Conditions: the bytes are fewer than 900,000; a number that comes in is an int. -/
import Derived.Test.YtjiiignbejbiiaaPTakeh
import Derived.Deep.QuietTactic
import Derived.BigQuiet
import Derived.Deep.RegionHeld3
namespace Go.Proofs.Ytjiiignbejbiiaa
set_option maxRecDepth 100000
open Go.RowKit
set_option linter.unusedVariables false

section
variable {w w' : World} {g h : Nat} {A : Option Addr} {c : Nat} {xs : List UInt8}

theorem BAt.grown {B x : Nat} {ys : List UInt8} (hx : BAt w B A ys) (hB : B ≤ w.heap.size) (hg : w.grownBy w' (some x)) (hne : ∀ g' off, A = some ⟨g', off, none⟩ → ys ≠ [] → g' ≠ x) : BAt w' B A ys := by
  by_cases hy : ys = []
  · exact .inl hy
  · obtain ⟨g', off, rfl, hlt, hc⟩ := hx.some_ (List.length_pos_iff.2 hy)
    exact .inr ⟨g', off, rfl, hlt, fun j hj => hg.cell (hc j hj) (fun e => hne g' off rfl hy (by injection e))⟩

variable {w0 : World}
end
end Go.Proofs.Ytjiiignbejbiiaa
