/- What stays while pieces are written into a hash: plain lemmas on memory. No condition. -/
import Derived.Test.YtjiiignbejbiiaaXPBla
namespace Go.Proofs.Ytjiiignbejbiiaa
set_option maxRecDepth 100000
open Go.RowKit Go.Great
set_option linter.unusedVariables false

theorem HashOf.grown {w w' : World} {g : Nat} {row : Option Nat} {m : List UInt8} (h : HashOf w g m) (hg : w.grownBy w' row) (hne : some g ≠ row) : HashOf w' g m := by
  have hlt := h.lt
  obtain ⟨t, hh, hT⟩ := h
  exact ⟨t, ⟨(hg.block g hlt hne).trans hh.1, hh.2⟩, hT⟩
section
variable {w W W' : World} {b1 g : Nat} {m k : List UInt8} {v : Value}
end
theorem src_own {W : World} {b c : Nat} {A : Option Addr} {m : List UInt8} (h : W.ownsRow b 5 1 (.slice A m.length c) m.length (bcells m)) : Src Try.prog 1 29 (.slice A m.length c) m.length (bcells m) W :=
  (BAt.of_own h (Nat.le_refl _)).src Try.underlying29 c
end Go.Proofs.Ytjiiignbejbiiaa
