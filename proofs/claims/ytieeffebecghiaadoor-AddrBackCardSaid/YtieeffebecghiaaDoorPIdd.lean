/- Contract of Xor of package ident. Conditions: an id has 20 bytes. -/
import Derived.Test.YtieeffebecghiaaDoorPShai
import Derived.Laws.BitsAllLaws
namespace Go.Proofs.YtieeffebecghiaaDoor
set_option maxRecDepth 100000
set_option maxHeartbeats 1000000
open Go.RowKit

theorem row_range {w : World} {g : Nat} {cs : List Value} {ty : TypeId} (h : w.heap[g]? = some (.cells cs.toArray ty (0, 0))) : w.rangeAt g 0 cs := fun i v hv => by
  rw [Nat.zero_add, cell_of_row w _ i _ ty (0, 0) h]
  simpa using hv
theorem heap3 (w : World) (a b x : Obj) :
    (((w.alloc a).alloc b).alloc x).heap[w.heap.size]? = some a ∧ (((w.alloc a).alloc b).alloc x).heap[w.heap.size + 1]? = some b ∧ (((w.alloc a).alloc b).alloc x).heap[w.heap.size + 1 + 1]? = some x ∧ Below w.heap.size w (((w.alloc a).alloc b).alloc x) := by
  refine ⟨?_, ?_, ?_, ((((Below.refl _ w).alloc (Nat.le_refl _) _).alloc (by simp) _).alloc (by simp; omega) _)⟩
  all_goals
    show (((w.heap.push a).push b).push x)[_]? = _
    simp only [Array.getElem?_push, Array.size_push]
    repeat (first | rw [if_pos trivial] | rw [if_pos (by omega)] | rw [if_neg (by omega)])

end Go.Proofs.YtieeffebecghiaaDoor
