/- Contracts of With of package ident and of its reference. Conditions: an id has 20 bytes. Ids in order, each once: plain lemmas on lists. No condition. -/
import Derived.Test.YtjiiignbejbiiaaXPShan
import Derived.StillTailTactics
import Derived.Shelf.SlicesE.Clone
section
namespace Go.Proofs.Ytjiiignbejbiiaa
set_option maxRecDepth 100000
set_option maxHeartbeats 400000
open Go.RowKit Go.Great

theorem region_tail {P : Program} {id : Nat} {Q : Exit → Act → World → Prop} {a : Act} {w : World} {l : List Oper} (n : Nat) (W1 : World) (hW : W1 = { w with drawn := w.drawn + 1 }) (hm : P.follows .mixedOrders = true) (hB : Region.lexTailB .any l.toArray n = true)
    (h : wpStill P l.toArray W1 (fun a' => wpList P l.toArray Q (l.drop n) a' W1) (l.take n) a) : (Code.region id l.toArray true).wp P Q a w := by
  subst hW
  exact wp_region_still_tail n hm hB h

end Go.Proofs.Ytjiiignbejbiiaa
end
section
namespace Go.Proofs.Ytjiiignbejbiiaa
open Go.Shelf Go.Lib Go.Sort

instance : DecidableEq IDv := fun a b => decidable_of_iff (a.val = b.val) Subtype.ext_iff.symm
section
variable {key : IDv → Nat}
end

/-- The first m of L, without those that equal the one ahead of them. -/
def dd (L : List IDv) : Nat → List IDv
  | 0 => []
  | m + 1 => match L[m]? with
    | none => dd L m
    | some x => if 0 < m ∧ L[m - 1]? = some x then dd L m else dd L m ++ [x]
end Go.Proofs.Ytjiiignbejbiiaa
end
