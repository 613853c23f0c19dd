/- Regions that draw their order and whose calls only make memory of their own: one walk, in every world that keeps what lay below a bound. No condition. Contract of slices.SortFunc at ids, with the closure of ident.Sort. Conditions: fewer than 2^62 ids. -/
import Derived.Test.YtjiiignbejbiiaaXPShag
import Derived.Lib.SlBytesConst
import Derived.LoopTactic
import Derived.Stop.BytesEq
import Derived.BigQuiet
import Derived.Shelf.Abstract
import Derived.Sort.Grow
import Derived.Deep.AppendSrc
section
namespace Go.Proofs.Ytjiiignbejbiiaa
set_option maxRecDepth 100000
open Go.RowKit

theorem wp_loadV {P : Program} {op : Oper} {a : Act} {w : World} {K : Act → World → Prop} {Q : Exit → Act → World → Prop} (ty : TypeId) (x : Operand) (ho : op.op = .load ty x) (p : Addr) (hx : a.eval x = .pointer (some p)) (v : Value) (hl : (loadVar ty p).run P w = .ok v w)
    (h : K (a.put op.dst v) w) : op.wp P a w K Q := by
  unfold Oper.wp execOp
  simp only [ho, hx, Instr.loadAt, Instr.sureAddr, Sem.run_bind, Sem.run_pure, Result.andThen_ok, hl]
  exact h
theorem wpList_loadV {P : Program} {ops : Array Oper} {rest : List Oper} {op : Oper} {a : Act} {w : World} {Q : Exit → Act → World → Prop} (hgd : op.guard = none) (ty : TypeId) (x : Operand) (ho : op.op = .load ty x) (p : Addr) (hx : a.eval x = .pointer (some p)) (v : Value) (hl : (loadVar ty p).run P w = .ok v w)
    (h : wpList P ops Q rest (a.put op.dst v) w) : wpList P ops Q (op :: rest) a w :=
  wpList_plain hgd fun _ hK => wp_loadV ty x ho p hx v hl (hK _ _ h)
end Go.Proofs.Ytjiiignbejbiiaa
end
section
namespace Go.Proofs.Ytjiiignbejbiiaa
open Go.Shelf Go.RowKit Go.Lib Go.Sort
set_option maxRecDepth 100000

/-- An id. -/
def IDv : Type := { xs : List UInt8 // xs.length = 20 }
instance : Inhabited IDv := ⟨⟨List.replicate 20 0, by simp⟩⟩
end Go.Proofs.Ytjiiignbejbiiaa
end
