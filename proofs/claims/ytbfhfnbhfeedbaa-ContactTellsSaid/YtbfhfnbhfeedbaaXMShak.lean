/- A hash that no call made has nothing: for every text. Every call of a nil hash, and of one that is a plain Hash, answers its zero value. No condition. Regions that draw their order and whose calls only make memory of their own: one walk, in every world that keeps what lay below a bound. No condition. The walk of the statement IdentFar of this seat: it answers true for every three ids. No condition. -/
import Derived.Test.YtbfhfnbhfeedbaaXMShab
import Derived.Lib.SlBytesConst
import Derived.LoopTactic
import Derived.Stop.BytesEq
import Derived.BigQuiet
import Derived.Lib.ConvBytes
section
namespace Go.Proofs.Ytbfhfnbhfeedbaa
set_option maxRecDepth 100000
open Go.RowKit Go.Great
set_option linter.unusedVariables false
set_option linter.unusedSimpArgs false

theorem eq61 (xs ys : List UInt8) (hx : xs.length = 20) (hy : ys.length = 20) (W : World) : (Op.equalIn 10000 55 (.agg (bcells xs).toArray) (.agg (bcells ys).toArray)).run Try.prog W = .ok (xs == ys) W :=
  run_equalIn_bytes W 9998 55 5 20 Try.underlying55 Try.underlying5 (fun w => by
    obtain ⟨i0, hi, hz0, hz1, hz2⟩ := info_parts info5
    simp [sizeOf, typeInfo, hi, hz1]) xs ys hx hy
end Go.Proofs.Ytbfhfnbhfeedbaa
end
section
namespace Go.Proofs.Ytbfhfnbhfeedbaa
set_option maxRecDepth 100000
open Go.RowKit

theorem kept_row {B g : Nat} {W0 : World} {o : Obj} (h : W0.heap[g]? = some o) (hg : g < B) (n : Kept B W0) : n.val.heap[g]? = some o := (n.property.block g hg).trans h
theorem load26 {w : World} {g : Nat} {xs : List UInt8} (hx : xs.length = 20) (h : w.heap[g]? = some (.cells (bcells xs).toArray 55 (0, 0))) : (loadVar 55 ⟨g, 0, none⟩).run Try.prog w = .ok (.agg (bcells xs).toArray) w :=
  run_loadVar_mid w g 0 55 (bcells xs) _ (row_range h) Try.underlying55 rfl (by rw [bcells_length, hx]; exact size26)

end Go.Proofs.Ytbfhfnbhfeedbaa
end
section
namespace Go.Proofs.Ytbfhfnbhfeedbaa
set_option maxRecDepth 100000
set_option maxHeartbeats 400000
open Go.RowKit Go.Great

theorem xor_len {a b : List UInt8} (ha : a.length = 20) (hb : b.length = 20) : (xorL a b).length = 20 := (xorL_length (ha.trans hb.symm)).trans ha

end Go.Proofs.Ytbfhfnbhfeedbaa
end
