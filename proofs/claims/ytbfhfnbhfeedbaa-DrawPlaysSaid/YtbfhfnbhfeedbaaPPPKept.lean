/- Regions that draw their order and whose calls only make memory of their own: one walk, in every world that keeps what lay below a bound. No condition. -/
import Derived.Test.YtbfhfnbhfeedbaaPPPIde
import Derived.Lib.SlBytesConst
import Derived.LoopTactic
import Derived.Stop.BytesEq
import Derived.BigQuiet
namespace Go.Proofs.Ytbfhfnbhfeedbaa
set_option maxRecDepth 100000
open Go.RowKit

/-- A world that keeps what lay below B in W0. -/
structure Kept (B : Nat) (W0 : World) where
  val : World
  property : Below B W0 val
instance (B : Nat) (W0 : World) : Nonempty (Kept B W0) := ⟨⟨W0, Below.refl _ _⟩⟩
theorem wp_region_kept {P : Program} {id : Nat} {Q : Exit → Act → World → Prop} {a : Act} {w : World} {l : List Oper} (B : Nat) (W0 : World) (hW : Below B W0 w) (hm : P.follows .mixedOrders = true) (hB : Region.lexB .any l.toArray = true)
    (h : wpQuiet P l.toArray (fun w' => ∃ n : Kept B W0, w' = n.val) (fun a' => ∀ w', (∃ n : Kept B W0, w' = n.val) → Q .normal a' w') l a) : (Code.region id l.toArray true).wp P Q a w :=
  wp_region_quiet (C := fun w' => ∃ n : Kept B W0, w' = n.val) hm hB ⟨⟨{ w with drawn := w.drawn + 1 }, ⟨hW.os, hW.tape, hW.output, hW.size, hW.block⟩⟩, rfl⟩ (by simpa using h)
theorem kept_of {P : Program} {f : FuncId} {args : Array Value} {v : Value} {B : Nat} {W0 : World} (hB : B ≤ W0.heap.size) (h : ∀ W, Calls P f args W fun e w' => e = .returned v ∧ Below W.heap.size W w') (n : Kept B W0) :
    Calls P f args n.val fun e w' => e = .returned v ∧ ∃ m : Kept B W0, w' = m.val :=
  (h n.val).mono (by rintro e w' ⟨rfl, hb⟩; exact ⟨rfl, ⟨w', n.property.trans (hb.mono (Nat.le_trans hB n.property.size))⟩, rfl⟩)
theorem wp_loadV {P : Program} {op : Oper} {a : Act} {w : World} {K : Act → World → Prop} {Q : Exit → Act → World → Prop} (ty : TypeId) (x : Operand) (ho : op.op = .load ty x) (p : Addr) (hx : a.eval x = .pointer (some p)) (v : Value) (hl : (loadVar ty p).run P w = .ok v w)
    (h : K (a.put op.dst v) w) : op.wp P a w K Q := by
  unfold Oper.wp execOp
  simp only [ho, hx, Instr.loadAt, Instr.sureAddr, Sem.run_bind, Sem.run_pure, Result.andThen_ok, hl]
  exact h
theorem quiet_loadV {P : Program} {B : Nat} {W0 : World} {o : Oper} {a : Act} {K : Act → Prop} (ty : TypeId) (x : Operand) (ho : o.op = .load ty x) (p : Addr) (hx : a.eval x = .pointer (some p)) (v : Value) (hl : ∀ n : Kept B W0, (loadVar ty p).run P n.val = .ok v n.val)
    (hk : K (a.put o.dst v)) : o.quiet P a (fun w' => ∃ n : Kept B W0, w' = n.val) K :=
  ⟨v, fun w ⟨n, hn⟩ => by
    subst hn
    unfold Oper.quietAt execOp
    simp only [ho, hx, Instr.loadAt, Instr.sureAddr, Sem.run_bind, Sem.run_pure, Result.andThen_ok, hl n]
    exact ⟨rfl, rfl⟩, hk⟩

end Go.Proofs.Ytbfhfnbhfeedbaa
