/- Regions that draw their order and whose calls only make memory of their own: one walk, in every world that keeps what lay below a bound. No condition. -/
import Derived.Test.YtieeffebecghiaaPShak
import Derived.BigQuiet
namespace Go.Proofs.Ytieeffebecghiaa
set_option maxRecDepth 100000
open Go.RowKit

/-- A world that keeps what lay below B in W0. -/
structure Kept (B : Nat) (W0 : World) where
  val : World
  property : Below B W0 val
instance (B : Nat) (W0 : World) : Nonempty (Kept B W0) := ⟨⟨W0, Below.refl _ _⟩⟩
theorem wp_region_kept {P : Program} {id : Nat} {Q : Exit → Act → World → Prop} {a : Act} {w : World} {l : List Oper} (B : Nat) (W0 : World) (hW : Below B W0 w) (hm : P.follows .mixedOrders = true) (hB : Region.lexB .any l.toArray = true)
    (h : wpQuiet P l.toArray (fun w' => ∃ n : Kept B W0, w' = n.val) (fun a' => ∀ w', (∃ n : Kept B W0, w' = n.val) → Q .normal a' w') l a) : (Code.region id l.toArray true).wp P Q a w :=
  wp_region_quiet (C := fun w' => ∃ n : Kept B W0, w' = n.val) hm hB ⟨⟨{ w with drawn := w.drawn + 1 }, ⟨hW.os, hW.tape, hW.output, hW.size, hW.block⟩⟩, rfl⟩ (by simpa using h)
theorem kept_of {P : Program} {f : FuncId} {args : Array Value} {v : Value} {B : Nat} {W0 : World} (hB : B ≤ W0.heap.size) (h : ∀ W, Calls P f args W fun e w' => e = .returned v ∧ Below W.heap.size W w') (n : Kept B W0) :
    Calls P f args n.val fun e w' => e = .returned v ∧ ∃ m : Kept B W0, w' = m.val :=
  (h n.val).mono (by rintro e w' ⟨rfl, hb⟩; exact ⟨rfl, ⟨w', n.property.trans (hb.mono (Nat.le_trans hB n.property.size))⟩, rfl⟩)
theorem kept_row {B g : Nat} {W0 : World} {o : Obj} (h : W0.heap[g]? = some o) (hg : g < B) (n : Kept B W0) : n.val.heap[g]? = some o := (n.property.block g hg).trans h
theorem load26 {w : World} {g : Nat} {xs : List UInt8} (hx : xs.length = 20) (h : w.heap[g]? = some (.cells (bcells xs).toArray 23 (0, 0))) : (loadVar 23 ⟨g, 0, none⟩).run Try.prog w = .ok (.agg (bcells xs).toArray) w :=
  run_loadVar_mid w g 0 23 (bcells xs) _ (row_range h) Try.underlying23 rfl (by rw [bcells_length, hx]; exact size26)

theorem wp_loadV {P : Program} {op : Oper} {a : Act} {w : World} {K : Act → World → Prop} {Q : Exit → Act → World → Prop} (ty : TypeId) (x : Operand) (ho : op.op = .load ty x) (p : Addr) (hx : a.eval x = .pointer (some p)) (v : Value) (hl : (loadVar ty p).run P w = .ok v w)
    (h : K (a.put op.dst v) w) : op.wp P a w K Q := by
  unfold Oper.wp execOp
  simp only [ho, hx, Instr.loadAt, Instr.sureAddr, Sem.run_bind, Sem.run_pure, Result.andThen_ok, hl]
  exact h
theorem wpList_loadV {P : Program} {ops : Array Oper} {rest : List Oper} {op : Oper} {a : Act} {w : World} {Q : Exit → Act → World → Prop} (hgd : op.guard = none) (ty : TypeId) (x : Operand) (ho : op.op = .load ty x) (p : Addr) (hx : a.eval x = .pointer (some p)) (v : Value) (hl : (loadVar ty p).run P w = .ok v w)
    (h : wpList P ops Q rest (a.put op.dst v) w) : wpList P ops Q (op :: rest) a w :=
  wpList_plain hgd fun _ hK => wp_loadV ty x ho p hx v hl (hK _ _ h)
theorem quiet_loadV {P : Program} {B : Nat} {W0 : World} {o : Oper} {a : Act} {K : Act → Prop} (ty : TypeId) (x : Operand) (ho : o.op = .load ty x) (p : Addr) (hx : a.eval x = .pointer (some p)) (v : Value) (hl : ∀ n : Kept B W0, (loadVar ty p).run P n.val = .ok v n.val)
    (hk : K (a.put o.dst v)) : o.quiet P a (fun w' => ∃ n : Kept B W0, w' = n.val) K :=
  ⟨v, fun w ⟨n, hn⟩ => by
    subst hn
    unfold Oper.quietAt execOp
    simp only [ho, hx, Instr.loadAt, Instr.sureAddr, Sem.run_bind, Sem.run_pure, Result.andThen_ok, hl n]
    exact ⟨rfl, rfl⟩, hk⟩

theorem cmp_any (xs ys : List UInt8) (hx : xs.length = 20) (hy : ys.length = 20) (w : World) :
    Calls Try.prog 20 #[.agg (bcells xs).toArray, .agg (bcells ys).toArray] w fun e w' => e = .returned (.int .i64 (cmpL xs ys)) ∧ Below w.heap.size w w' := by
  have hP := fun W => prefix_any xs ys hx hy W
  have hBt := fun (p : Nat) (hp : p < 160) W => bit_yes xs hx p hp W
  have he : ∀ W, (Op.equalIn 10000 23 (.agg (bcells xs).toArray) (.agg (bcells ys).toArray)).run Try.prog W = .ok (xs == ys) W := fun W => eq61 xs ys hx hy W
  obtain ⟨X, hX⟩ : ∃ X, X = (bcells xs).toArray := ⟨_, rfl⟩
  obtain ⟨Y, hY⟩ : ∃ Y, Y = (bcells ys).toArray := ⟨_, rfl⟩
  obtain ⟨W0, hW0⟩ : ∃ W0, W0 = (w.alloc (.cells X 23)).alloc (.cells Y 23) := ⟨_, rfl⟩
  obtain ⟨h1, h2, h4⟩ := heap2 w (.cells X 23) (.cells Y 23)
  rw [← hW0] at h1 h2 h4
  have hs0 : W0.heap.size = w.heap.size + 2 := by rw [hW0]; simp
  have l1 : ∀ n : Kept W0.heap.size W0, (loadVar 23 ⟨w.heap.size, 0, none⟩).run Try.prog n.val = .ok (.agg X) n.val := fun n => by
    rw [hX] at h1 ⊢
    exact load26 hx (kept_row h1 (by omega) n)
  have l2 : ∀ n : Kept W0.heap.size W0, (loadVar 23 ⟨w.heap.size + 1, 0, none⟩).run Try.prog n.val = .ok (.agg Y) n.val := fun n => by
    rw [hY] at h2 ⊢
    exact load26 hy (kept_row h2 (by omega) n)
  have HL1 := Lib.hid l1
  have HL2 := Lib.hid l2
  have HK1 : Hid ((loadVar 23 ⟨w.heap.size, 0, none⟩).run Try.prog ((w.alloc (.cells X 23)).alloc (.cells Y 23)) = .ok (.agg X) ((w.alloc (.cells X 23)).alloc (.cells Y 23))) := Lib.hid (by rw [← hW0]; exact l1 ⟨W0, Below.refl _ _⟩)
  have HK2 : Hid ((loadVar 23 ⟨w.heap.size + 1, 0, none⟩).run Try.prog ((w.alloc (.cells X 23)).alloc (.cells Y 23)) = .ok (.agg Y) ((w.alloc (.cells X 23)).alloc (.cells Y 23))) := Lib.hid (by rw [← hW0]; exact l2 ⟨W0, Below.refl _ _⟩)
  simp only [← hX, ← hY] at hP he ⊢
  simp only [← hX] at hBt
  have HP := Lib.hid hP
  have HB := Lib.hid hBt
  have HW := Lib.hid hW0
  have HBL := Lib.hid h4
  clear hP hBt h1 h2 h4 hX hY l1 l2 hW0 hs0
  by_cases hxy : xs = ys
  · have he' : ∀ W, (Op.equalIn 10000 23 (.agg X) (.agg Y)).run Try.prog W = .ok true W := fun W => by rw [he, hxy]; simp
    have hc : cmpL xs ys = 0 := by unfold cmpL; rw [if_pos hxy]
    rw [hc]
    clear he hc hxy
    go_enter Try.func20, Try.ntmps20
    go_wp2_with (first
      | ((with_reducible refine wpList_loadV (op := ⟨some 5, _, _, _, _, _⟩) rfl 23 (.tmp 2) rfl _ ?_ _ HK1.out ?_); rfl)
      | ((with_reducible refine wpList_loadV (op := ⟨some 6, _, _, _, _, _⟩) rfl 23 (.tmp 3) rfl _ ?_ _ HK2.out ?_); rfl))
    go_ret
    exact ⟨rfl, by rw [← HW.out]; exact HBL.out⟩
  · have he' : ∀ W, (Op.equalIn 10000 23 (.agg X) (.agg Y)).run Try.prog W = .ok false W := fun W => by rw [he]; simp [hxy]
    have hp := ((pfxN_spec xs ys (hx.trans hy.symm)).2.2.1 hxy).1
    rw [hx] at hp
    have hc : cmpL xs ys = if bitL xs (pfxN xs ys) then 1 else -1 := by unfold cmpL; rw [if_neg hxy]
    have HB2 := Lib.hid (fun W => HB.out (pfxN xs ys) (by omega) W)
    rw [hc]
    generalize pfxN xs ys = p at HB2 HP ⊢
    clear he hc hxy HB hp hx hy
    cases hb : bitL xs p
    all_goals
      rw [hb] at HB2
      simp only [Bool.false_eq_true, if_false, if_true] at HB2 ⊢
      clear hb
      go_enter Try.func20, Try.ntmps20
      go_wp2_with (first
        | ((with_reducible refine wpList_loadV (op := ⟨some 5, _, _, _, _, _⟩) rfl 23 (.tmp 2) rfl _ ?_ _ HK1.out ?_); rfl)
        | ((with_reducible refine wpList_loadV (op := ⟨some 6, _, _, _, _, _⟩) rfl 23 (.tmp 3) rfl _ ?_ _ HK2.out ?_); rfl))
      rw [← HW.out]
      refine wp_region_kept W0.heap.size W0 (Below.refl _ _) (by kernel_rfl) (by kernel_rfl) ?_
      repeat (first
        | (go_big_quiet_want; (with_reducible refine quiet_loadV 23 (.tmp 2) rfl _ ?_ _ HL1.out ?_); rfl; simp only [Act.put, List.setIfInBounds_toArray, List.set_cons_zero, List.set_cons_succ]; go_big_quiet_on)
        | (go_big_quiet_want; (with_reducible refine quiet_loadV 23 (.tmp 3) rfl _ ?_ _ HL2.out ?_); rfl; simp only [Act.put, List.setIfInBounds_toArray, List.set_cons_zero, List.set_cons_succ]; go_big_quiet_on)
        | go_big_quiet_step (first | (go_at_call 22; exact kept_of (Nat.le_refl _) HP.out _) | (go_at_call 29; exact kept_of (Nat.le_refl _) HB2.out _)))
      refine wpQuiet_nil ?_
      rintro _ ⟨⟨wk, hwk⟩, rfl⟩
      go_wp2
      go_ret
      exact ⟨rfl, HBL.out.trans (hwk.mono HBL.out.size)⟩
end Go.Proofs.Ytieeffebecghiaa
