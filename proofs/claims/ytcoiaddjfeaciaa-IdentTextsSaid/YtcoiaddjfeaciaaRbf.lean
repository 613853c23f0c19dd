/- Contracts of the reference's Cmp and Xor. Conditions: an id has 20 bytes. -/
import Derived.Test.YtcoiaddjfeaciaaRbe
namespace Go.Proofs.Ytcoiaddjfeaciaa
set_option maxRecDepth 100000
set_option maxHeartbeats 400000
open Go.RowKit Go.Great

theorem rcmp_any (xs ys : List UInt8) (hx : xs.length = 20) (hy : ys.length = 20) (w : World) :
    Calls Try.prog 31 #[.agg (bcells xs).toArray, .agg (bcells ys).toArray] w fun e w' => e = .returned (.int .i64 (cmpL xs ys)) ∧ Below w.heap.size w w' := by
  obtain ⟨h1, h2, h4⟩ := heap2 w (.cells (bcells xs).toArray 42) (.cells (bcells ys).toArray 42)
  have hP := fun W => rprefix_any xs ys hx hy W
  have hspec := pfxN_spec xs ys (hx.trans hy.symm)
  rw [hx] at hspec
  have hB1 := fun (hk : pfxN xs ys < 160) W => rbit_yes xs hx (pfxN xs ys) hk W
  have hB2 := fun (hk : pfxN xs ys < 160) W => rbit_yes ys hy (pfxN xs ys) hk W
  obtain ⟨W0, hW0⟩ : ∃ W0, W0 = (w.alloc (.cells (bcells xs).toArray 42)).alloc (.cells (bcells ys).toArray 42) := ⟨_, rfl⟩
  rw [← hW0] at h1 h2 h4
  have L1 := kept_load42 hx h1
  have L2 := kept_load42 hy h2
  have HK1 : Hid ((loadVar 42 ⟨w.heap.size, 0, none⟩).run Try.prog ((w.alloc (.cells (bcells xs).toArray 42)).alloc (.cells (bcells ys).toArray 42)) = .ok (.agg (bcells xs).toArray) ((w.alloc (.cells (bcells xs).toArray 42)).alloc (.cells (bcells ys).toArray 42))) := Lib.hid (by rw [← hW0]; exact L1 ⟨W0, Below.refl _ _⟩)
  have HK2 : Hid ((loadVar 42 ⟨w.heap.size + 1, 0, none⟩).run Try.prog ((w.alloc (.cells (bcells xs).toArray 42)).alloc (.cells (bcells ys).toArray 42)) = .ok (.agg (bcells ys).toArray) ((w.alloc (.cells (bcells xs).toArray 42)).alloc (.cells (bcells ys).toArray 42))) := Lib.hid (by rw [← hW0]; exact L2 ⟨W0, Below.refl _ _⟩)
  have HW := Lib.hid hW0
  have HBL := Lib.hid h4
  have HL1 := Lib.hid L1
  have HL2 := Lib.hid L2
  have HP := Lib.hid hP
  generalize (bcells xs).toArray = X at HK1 HK2 HW HL1 HP hB1 ⊢
  generalize (bcells ys).toArray = Y at HK1 HK2 HW HL2 HP hB2 ⊢
  clear h1 h2 h4 hP hW0 L1 L2
  by_cases he : xs = ys
  · have hp : pfxN xs ys = 160 := hspec.2.2.2 he
    have hc : cmpL xs ys = 0 := by unfold cmpL; rw [if_pos he]
    rw [hc]
    rw [hp] at HP
    clear hspec hB1 hB2 hx hy he hp hc
    go_enter Try.func31, Try.ntmps31
    go_wp2_with (first
      | (go_at_call 33; refine (HP.out _).mono ?_; rintro e w2 ⟨rfl, hb2⟩)
      | ((with_reducible refine wpList_loadV (op := ⟨some 6, _, _, _, _, _⟩) rfl 42 (.tmp 2) rfl _ ?_ _ HK1.out ?_); rfl)
      | ((with_reducible refine wpList_loadV (op := ⟨some 7, _, _, _, _, _⟩) rfl 42 (.tmp 3) rfl _ ?_ _ HK2.out ?_); rfl))
    go_ret
    rw [← HW.out] at hb2
    exact ⟨rfl, HBL.out.trans (hb2.mono HBL.out.size)⟩
  · obtain ⟨hp, hne⟩ := hspec.2.2.1 he
    have B1 := hB1 (by omega)
    have B2 := hB2 (by omega)
    have hc : cmpL xs ys = if bitL xs (pfxN xs ys) then 1 else -1 := by unfold cmpL; rw [if_neg he]
    have e2 : bitL ys (pfxN xs ys) = !bitL xs (pfxN xs ys) := by cases h1 : bitL xs (pfxN xs ys) <;> cases h2 : bitL ys (pfxN xs ys) <;> simp_all
    rw [e2] at B2
    rw [hc]
    generalize bitL xs (pfxN xs ys) = bt at B1 B2 ⊢
    generalize pfxN xs ys = p at HP hp B1 B2
    have np : ¬ (p : Int) = 160 := by omega
    have np2 : ¬ p = 160 := by omega
    have C1 := Lib.hid B1
    have C2 := Lib.hid B2
    clear hspec hB1 hB2 B1 B2 hx hy he hp hc hne e2
    cases bt
    all_goals
      simp only [Bool.not_false, Bool.not_true, Bool.false_eq_true, if_false, if_true] at C1 C2 ⊢
      go_enter Try.func31, Try.ntmps31
      go_upto_region 4 with (first
        | (go_at_call 33; refine (HP.out _).mono ?_; rintro e w2 ⟨rfl, hb2⟩)
        | ((with_reducible refine wpList_loadV (op := ⟨some 6, _, _, _, _, _⟩) rfl 42 (.tmp 2) rfl _ ?_ _ HK1.out ?_); rfl)
        | ((with_reducible refine wpList_loadV (op := ⟨some 7, _, _, _, _, _⟩) rfl 42 (.tmp 3) rfl _ ?_ _ HK2.out ?_); rfl))
      rw [← HW.out] at hb2
      refine wp_region_kept W0.heap.size W0 hb2 (by kernel_rfl) (by kernel_rfl) ?_
      repeat (first
        | (go_big_quiet_want; (with_reducible refine quiet_loadV 42 (.tmp 2) rfl _ ?_ _ HL1.out ?_); rfl; simp only [Act.put, List.setIfInBounds_toArray, List.set_cons_zero, List.set_cons_succ]; go_big_quiet_on)
        | (go_big_quiet_want; (with_reducible refine quiet_loadV 42 (.tmp 3) rfl _ ?_ _ HL2.out ?_); rfl; simp only [Act.put, List.setIfInBounds_toArray, List.set_cons_zero, List.set_cons_succ]; go_big_quiet_on)
        | go_big_quiet_step (first | (go_at_call 25; with_reducible exact kept_of (Nat.le_refl _) C1.out _) | (go_at_call 25; with_reducible exact kept_of (Nat.le_refl _) C2.out _)))
      refine wpQuiet_nil ?_
      rintro _ ⟨⟨wk, hwk⟩, rfl⟩
      go_wp2
      go_ret
      exact ⟨rfl, HBL.out.trans (hwk.mono HBL.out.size)⟩

def RXorRel (w : World) (xs ys : List UInt8) (i : Value) (wr : World) : Prop :=
  ∃ j : Nat, j ≤ 160 ∧ i = .int .i64 (j : Int) ∧ wr.heap[w.heap.size]? = some (.cells (bcells xs).toArray 42 (0, 0)) ∧ wr.heap[w.heap.size + 1]? = some (.cells (bcells ys).toArray 42 (0, 0)) ∧ wr.heap[w.heap.size + 1 + 1]? = some (.cells (bcells (List.replicate 20 0)).toArray 42 (0, 0)) ∧ wr.heap[w.heap.size + 1 + 1 + 1]? = some (.cells (bcells (xorR xs ys j)).toArray 42 (0, 0)) ∧ Below w.heap.size w wr
theorem heap4 (w : World) (a b x y : Obj) :
    ((((w.alloc a).alloc b).alloc x).alloc y).heap[w.heap.size]? = some a ∧ ((((w.alloc a).alloc b).alloc x).alloc y).heap[w.heap.size + 1]? = some b ∧ ((((w.alloc a).alloc b).alloc x).alloc y).heap[w.heap.size + 1 + 1]? = some x ∧ ((((w.alloc a).alloc b).alloc x).alloc y).heap[w.heap.size + 1 + 1 + 1]? = some y ∧ Below w.heap.size w ((((w.alloc a).alloc b).alloc x).alloc y) := by
  refine ⟨?_, ?_, ?_, ?_, (((((Below.refl _ w).alloc (Nat.le_refl _) _).alloc (by simp) _).alloc (by simp; omega) _).alloc (by simp; omega) _)⟩
  all_goals
    show ((((w.heap.push a).push b).push x).push y)[_]? = _
    simp only [Array.getElem?_push, Array.size_push]
    repeat (first | rw [if_pos trivial] | rw [if_pos (by omega)] | rw [if_neg (by omega)])
end Go.Proofs.Ytcoiaddjfeaciaa
