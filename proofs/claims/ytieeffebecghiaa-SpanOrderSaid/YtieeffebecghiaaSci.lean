/- Plain facts for the walks of SpanDraws and SpanOrder. Conditions: an id has 20 bytes. -/
import Derived.Test.YtieeffebecghiaaSwa
namespace Go.Proofs.Ytieeffebecghiaa
set_option maxRecDepth 100000
set_option maxHeartbeats 1000000
open Go.RowKit Go.Lib Go.Great

theorem looseR_alloc {P : Program} {o : Oper} {a : Act} {w : World} {S : World → Prop} (t : TypeId) (ho : o.op = .alloc t) (Z : Array Value) (hz : ∀ W, (zeroValue t).run P W = .ok (.agg Z) W) (hS : S (w.alloc (.cells Z t))) :
    LooseR P w S (fun v w' => v = .pointer (some ⟨w.heap.size, 0, none⟩) ∧ w' = w.alloc (.cells Z t)) ((execOp a.eval o).run P w) := by
  rw [alloc_run t ho Z hz]
  exact ⟨hS, (Below.refl _ w).alloc (Nat.le_refl _) _, rfl, rfl⟩
/-- An operation that is wanted and yields a value. -/
theorem wpList_valG {P : Program} {ops : Array Oper} {rest : List Oper} {op : Oper} {a : Act} {w : World} {Q : Exit → Act → World → Prop} (hw : Region.wanted op (yielded ops a.tmps) = true) (v : Value) (hl : (execOp a.eval op).run P w = .ok (.value v) w)
    (h : wpList P ops Q rest (a.put op.dst v) w) : wpList P ops Q (op :: rest) a w :=
  wpList_step fun _ hK => by
    rw [if_pos hw]
    unfold Oper.wp
    rw [hl]
    exact hK _ _ h
theorem idx_laid {o f x : List UInt8} {k : Nat} (ho : o.length = 20) (hk : k < 160) (h : Laid o k f x) : idxB o x = true ∧ idxN o x = k := by
  have hp := h.pfx ho hk
  unfold idxB idxN
  rw [hp]
  exact ⟨by simp; omega, by rw [if_neg (by omega)]⟩
theorem bat_row {W : World} {g : Nat} {x : List UInt8} {t : TypeId} (h : W.heap[g]? = some (.cells (bcells x).toArray t (0, 0))) : BAt W W.heap.size (some ⟨g, 0, none⟩) x :=
  .inr ⟨g, 0, rfl, (Array.getElem?_eq_some_iff.1 h).1, fun j hj => by
    rw [Nat.zero_add, row_byte h j hj, List.getD_eq_getElem?_getD, List.getElem?_eq_getElem hj]
    rfl⟩
theorem cmp_zero_le {o f x y : List UInt8} {k : Nat} (h : Laid o k (List.replicate 20 0) x) (h' : Laid o k f y) : cmpL x y ≤ 0 := h.le h' (fun m _ hm => by rw [bitL_zeros] at hm; cases hm)
theorem cmp_le_full {o f x y : List UInt8} {k : Nat} (h : Laid o k f x) (h' : Laid o k (List.replicate 20 255) y) : cmpL x y ≤ 0 := h.le h' (fun m hm _ => bitL_full m hm)
theorem idx_facts {o x : List UInt8} (ho : o.length = 20) (hx : x.length = 20) : (idxB o x = false ∧ o = x) ∨ (idxB o x = true ∧ o ≠ x ∧ idxN o x = pfxN o x ∧ pfxN o x < 160) := by
  have hs := pfx_self ho hx
  have hle : pfxN o x ≤ 160 := by have := (pfxN_spec o x (ho.trans hx.symm)).1; omega
  unfold idxB idxN
  by_cases h : pfxN o x = 160
  · left
    exact ⟨by simp [h], hs.1 h⟩
  · right
    rw [if_neg h]
    exact ⟨by simp [h], fun e => h (hs.2 e), rfl, by omega⟩
end Go.Proofs.Ytieeffebecghiaa
