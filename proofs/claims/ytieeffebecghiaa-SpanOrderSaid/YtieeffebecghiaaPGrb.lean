/- Contracts of Cmp of package ident and of the closure that sorts, that say how memory grows. Conditions: an id has 20 bytes. -/
import Derived.Test.YtieeffebecghiaaPGra
import Derived.BigQuiet
namespace Go.Proofs.Ytieeffebecghiaa
set_option maxRecDepth 100000
set_option maxHeartbeats 1000000
open Go.RowKit

structure KeptD (W0 : World) where
  val : World
  property : Grows W0 val
instance (W0 : World) : Nonempty (KeptD W0) := ⟨⟨W0, Grows.refl _⟩⟩
theorem wp_region_keptD {P : Program} {id : Nat} {Q : Exit → Act → World → Prop} {a : Act} {w : World} {l : List Oper} (W0 : World) (hW : Grows W0 w) (hm : P.follows .mixedOrders = true) (hB : Region.lexB .any l.toArray = true)
    (h : wpQuiet P l.toArray (fun w' => ∃ n : KeptD W0, w' = n.val) (fun a' => ∀ w', (∃ n : KeptD W0, w' = n.val) → Q .normal a' w') l a) : (Code.region id l.toArray true).wp P Q a w :=
  wp_region_quiet (C := fun w' => ∃ n : KeptD W0, w' = n.val) hm hB ⟨⟨w.drewN 1, hW.trans (Grows.drewN _ _)⟩, rfl⟩ (by simpa using h)
theorem keptD_of {P : Program} {f : FuncId} {args : Array Value} {v : Value} {W0 : World} (h : ∀ W, Calls P f args W fun e w' => e = .returned v ∧ Grows W w') (n : KeptD W0) :
    Calls P f args n.val fun e w' => e = .returned v ∧ ∃ m : KeptD W0, w' = m.val :=
  (h n.val).mono (by rintro e w' ⟨rfl, hb⟩; exact ⟨rfl, ⟨w', n.property.trans hb⟩, rfl⟩)
theorem keptD_row {g : Nat} {W0 : World} {o : Obj} (h : W0.heap[g]? = some o) (hg : g < W0.heap.size) (n : KeptD W0) : n.val.heap[g]? = some o := (n.property.1.block g hg).trans h
theorem quiet_loadD {P : Program} {W0 : World} {o : Oper} {a : Act} {K : Act → Prop} (ty : TypeId) (x : Operand) (ho : o.op = .load ty x) (p : Addr) (hx : a.eval x = .pointer (some p)) (v : Value) (hl : ∀ n : KeptD W0, (loadVar ty p).run P n.val = .ok v n.val)
    (hk : K (a.put o.dst v)) : o.quiet P a (fun w' => ∃ n : KeptD W0, w' = n.val) K :=
  ⟨v, fun w ⟨n, hn⟩ => by
    subst hn
    unfold Oper.quietAt execOp
    simp only [ho, hx, Instr.loadAt, Instr.sureAddr, Sem.run_bind, Sem.run_pure, Result.andThen_ok, hl n]
    exact ⟨rfl, rfl⟩, hk⟩

theorem cmp_g (xs ys : List UInt8) (hx : xs.length = 20) (hy : ys.length = 20) (w : World) :
    Calls Try.prog 20 #[.agg (bcells xs).toArray, .agg (bcells ys).toArray] w fun e w' => e = .returned (.int .i64 (cmpL xs ys)) ∧ Grows w w' := by
  have hP := fun W => prefix_g xs ys hx hy W
  have hBt := fun (p : Nat) (hp : p < 160) W => bit_g xs hx p hp W
  have he : ∀ W, (Op.equalIn 10000 23 (.agg (bcells xs).toArray) (.agg (bcells ys).toArray)).run Try.prog W = .ok (xs == ys) W := fun W => eq61 xs ys hx hy W
  obtain ⟨X, hX⟩ : ∃ X, X = (bcells xs).toArray := ⟨_, rfl⟩
  obtain ⟨Y, hY⟩ : ∃ Y, Y = (bcells ys).toArray := ⟨_, rfl⟩
  obtain ⟨W0, hW0⟩ : ∃ W0, W0 = (w.alloc (.cells X 23)).alloc (.cells Y 23) := ⟨_, rfl⟩
  obtain ⟨h1, h2, _⟩ := heap2 w (.cells X 23) (.cells Y 23)
  have h4 := (Grows.alloc w (.cells X 23)).trans (Grows.alloc _ (.cells Y 23))
  rw [← hW0] at h1 h2 h4
  have hs0 : W0.heap.size = w.heap.size + 2 := by rw [hW0]; simp
  have l1 : ∀ n : KeptD W0, (loadVar 23 ⟨w.heap.size, 0, none⟩).run Try.prog n.val = .ok (.agg X) n.val := fun n => by
    rw [hX] at h1 ⊢
    exact load26 hx (keptD_row h1 (by omega) n)
  have l2 : ∀ n : KeptD W0, (loadVar 23 ⟨w.heap.size + 1, 0, none⟩).run Try.prog n.val = .ok (.agg Y) n.val := fun n => by
    rw [hY] at h2 ⊢
    exact load26 hy (keptD_row h2 (by omega) n)
  have HL1 := Lib.hid l1
  have HL2 := Lib.hid l2
  have HK1 : Hid ((loadVar 23 ⟨w.heap.size, 0, none⟩).run Try.prog ((w.alloc (.cells X 23)).alloc (.cells Y 23)) = .ok (.agg X) ((w.alloc (.cells X 23)).alloc (.cells Y 23))) := Lib.hid (by rw [← hW0]; exact l1 ⟨W0, Grows.refl _⟩)
  have HK2 : Hid ((loadVar 23 ⟨w.heap.size + 1, 0, none⟩).run Try.prog ((w.alloc (.cells X 23)).alloc (.cells Y 23)) = .ok (.agg Y) ((w.alloc (.cells X 23)).alloc (.cells Y 23))) := Lib.hid (by rw [← hW0]; exact l2 ⟨W0, Grows.refl _⟩)
  simp only [← hX, ← hY] at hP he ⊢
  simp only [← hX] at hBt
  have HP := Lib.hid hP
  have HB := Lib.hid hBt
  have HW := Lib.hid hW0
  have HBL := Lib.hid h4
  clear hP hBt h1 h2 h4 hX hY l1 l2 hW0 hs0
  by_cases hxy : xs = ys
  · have he' : ∀ W, (Op.equalIn 10000 23 (.agg X) (.agg Y)).run Try.prog W = .ok true W := fun W => by rw [he, hxy]; simp
    have hc : cmpL xs ys = 0 := by unfold cmpL; rw [if_pos hxy]
    rw [hc]
    clear he hc hxy
    go_enter Try.func20, Try.ntmps20
    go_wp2_with (first
      | ((with_reducible refine wpList_loadV (op := ⟨some 5, _, _, _, _, _⟩) rfl 23 (.tmp 2) rfl _ ?_ _ HK1.out ?_); rfl)
      | ((with_reducible refine wpList_loadV (op := ⟨some 6, _, _, _, _, _⟩) rfl 23 (.tmp 3) rfl _ ?_ _ HK2.out ?_); rfl))
    go_ret
    exact ⟨rfl, by rw [← HW.out]; exact HBL.out⟩
  · have he' : ∀ W, (Op.equalIn 10000 23 (.agg X) (.agg Y)).run Try.prog W = .ok false W := fun W => by rw [he]; simp [hxy]
    have hp := ((pfxN_spec xs ys (hx.trans hy.symm)).2.2.1 hxy).1
    rw [hx] at hp
    have hc : cmpL xs ys = if bitL xs (pfxN xs ys) then 1 else -1 := by unfold cmpL; rw [if_neg hxy]
    have HB2 := Lib.hid (fun W => HB.out (pfxN xs ys) (by omega) W)
    rw [hc]
    generalize pfxN xs ys = p at HB2 HP ⊢
    clear he hc hxy HB hp hx hy
    cases hb : bitL xs p
    all_goals
      rw [hb] at HB2
      simp only [Bool.false_eq_true, if_false, if_true] at HB2 ⊢
      clear hb
      go_enter Try.func20, Try.ntmps20
      go_wp2_with (first
        | ((with_reducible refine wpList_loadV (op := ⟨some 5, _, _, _, _, _⟩) rfl 23 (.tmp 2) rfl _ ?_ _ HK1.out ?_); rfl)
        | ((with_reducible refine wpList_loadV (op := ⟨some 6, _, _, _, _, _⟩) rfl 23 (.tmp 3) rfl _ ?_ _ HK2.out ?_); rfl))
      rw [← HW.out]
      refine wp_region_keptD W0 (Grows.refl _) (by kernel_rfl) (by kernel_rfl) ?_
      repeat (first
        | (go_big_quiet_want; (with_reducible refine quiet_loadD 23 (.tmp 2) rfl _ ?_ _ HL1.out ?_); rfl; simp only [Act.put, List.setIfInBounds_toArray, List.set_cons_zero, List.set_cons_succ]; go_big_quiet_on)
        | (go_big_quiet_want; (with_reducible refine quiet_loadD 23 (.tmp 3) rfl _ ?_ _ HL2.out ?_); rfl; simp only [Act.put, List.setIfInBounds_toArray, List.set_cons_zero, List.set_cons_succ]; go_big_quiet_on)
        | go_big_quiet_step (first | (go_at_call 22; exact keptD_of HP.out _) | (go_at_call 29; exact keptD_of HB2.out _)))
      refine wpQuiet_nil ?_
      rintro _ ⟨⟨wk, hwk⟩, rfl⟩
      go_wp2
      go_ret
      exact ⟨rfl, HBL.out.trans hwk⟩

end Go.Proofs.Ytieeffebecghiaa
