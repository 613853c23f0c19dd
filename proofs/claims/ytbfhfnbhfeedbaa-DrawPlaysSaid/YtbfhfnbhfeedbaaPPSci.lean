/- Plain facts for the walks of SpanDraws and SpanOrder. Conditions: an id has 20 bytes. -/
import Derived.Test.YtbfhfnbhfeedbaaPPSch
namespace Go.Proofs.Ytbfhfnbhfeedbaa
set_option maxRecDepth 100000
set_option maxHeartbeats 1000000
open Go.RowKit Go.Lib Go.Great

theorem looseR_alloc {P : Program} {o : Oper} {a : Act} {w : World} {S : World → Prop} (t : TypeId) (ho : o.op = .alloc t) (Z : Array Value) (hz : ∀ W, (zeroValue t).run P W = .ok (.agg Z) W) (hS : S (w.alloc (.cells Z t))) :
    LooseR P w S (fun v w' => v = .pointer (some ⟨w.heap.size, 0, none⟩) ∧ w' = w.alloc (.cells Z t)) ((execOp a.eval o).run P w) := by
  rw [alloc_run t ho Z hz]
  exact ⟨hS, (Below.refl _ w).alloc (Nat.le_refl _) _, rfl, rfl⟩
/-- An operation that is wanted and yields a value. -/
theorem wpList_valG {P : Program} {ops : Array Oper} {rest : List Oper} {op : Oper} {a : Act} {w : World} {Q : Exit → Act → World → Prop} (hw : Region.wanted op (yielded ops a.tmps) = true) (v : Value) (hl : (execOp a.eval op).run P w = .ok (.value v) w)
    (h : wpList P ops Q rest (a.put op.dst v) w) : wpList P ops Q (op :: rest) a w :=
  wpList_step fun _ hK => by
    rw [if_pos hw]
    unfold Oper.wp
    rw [hl]
    exact hK _ _ h
end Go.Proofs.Ytbfhfnbhfeedbaa
