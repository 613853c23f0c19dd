/- Contract of slices.BinarySearchFunc at ids, with the closure of package metric. Conditions: fewer than 100000 ids, sorted. -/
import Derived.Test.YtbfhfnbhfeedbaaPPPRwa
import Derived.Deep.AppendSrc
import Derived.Laws.BitsAllLaws
import Derived.Laws.BitsLemmas
import Derived.Laws.Bits64
import Derived.LoopTactic
import Derived.Shelf.SlicesE.Clone
import Derived.Lib.OwnBridge
import Derived.Lib.SliceRun
namespace Go.Proofs.Ytbfhfnbhfeedbaa
set_option maxRecDepth 100000
set_option maxHeartbeats 1000000
open Go.RowKit Go.Lib Go.Great

theorem kept_ofS {P : Program} {f : FuncId} {args : Array Value} {v : Value} {B : Nat} {W0 : World} (hB : B ≤ W0.heap.size) (h : ∀ n : Kept B W0, Calls P f args n.val fun e w' => e = .returned v ∧ Below n.val.heap.size n.val w') (n : Kept B W0) :
    Calls P f args n.val fun e w' => e = .returned v ∧ ∃ m : Kept B W0, w' = m.val :=
  (h n).mono (by rintro e w' ⟨rfl, hb⟩; exact ⟨rfl, ⟨w', n.property.trans (hb.mono (Nat.le_trans hB n.property.size))⟩, rfl⟩)
end Go.Proofs.Ytbfhfnbhfeedbaa
