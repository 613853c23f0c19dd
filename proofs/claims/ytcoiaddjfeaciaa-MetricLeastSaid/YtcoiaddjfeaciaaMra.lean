/- Contracts of the reference's Cmp and Has of layer metric, and of same. Conditions: fewer than 100000 ids. -/
import Derived.Test.YtcoiaddjfeaciaaGp
import Derived.Test.YtcoiaddjfeaciaaRsa
import Derived.Test.YtcoiaddjfeaciaaRbg
import Derived.Test.YtcoiaddjfeaciaaGm
namespace Go.Proofs.Ytcoiaddjfeaciaa
set_option maxRecDepth 100000
set_option maxHeartbeats 1000000
open Go.RowKit Go.Lib Go.Great

theorem rmcmp_any (t x y : IDv) (w : World) :
    Calls Try.prog 54 #[.agg (encID t).toArray, .agg (encID x).toArray, .agg (encID y).toArray] w fun e w' => e = .returned (.int .i64 (cfM t x y)) ∧ Below w.heap.size w w' := by
  have x1 : ∀ W, Calls Try.prog 29 #[.agg (encID t).toArray, .agg (encID x).toArray] W fun e w' => e = .returned (.agg (encID (xorI t x)).toArray) ∧ Below W.heap.size W w' := fun W => rxor_any t.val x.val t.property x.property W
  have x2 : ∀ W, Calls Try.prog 29 #[.agg (encID t).toArray, .agg (encID y).toArray] W fun e w' => e = .returned (.agg (encID (xorI t y)).toArray) ∧ Below W.heap.size W w' := fun W => rxor_any t.val y.val t.property y.property W
  have c1 : ∀ W, Calls Try.prog 31 #[.agg (encID (xorI t x)).toArray, .agg (encID (xorI t y)).toArray] W fun e w' => e = .returned (.int .i64 (cfM t x y)) ∧ Below W.heap.size W w' := fun W => rcmp_any (xorI t x).val (xorI t y).val (xorI t x).property (xorI t y).property W
  obtain ⟨W0, hW0⟩ : ∃ W0, W0 = ((w.alloc (.cells (encID t).toArray 42)).alloc (.cells (encID x).toArray 42)).alloc (.cells (encID y).toArray 42) := ⟨_, rfl⟩
  obtain ⟨h1, h2, h3, h4⟩ := heap3 w (.cells (encID t).toArray 42) (.cells (encID x).toArray 42) (.cells (encID y).toArray 42)
  rw [← hW0] at h1 h2 h3 h4
  have HL1 := Lib.hid (kept_range (Array.getElem?_eq_some_iff.1 h1).1 (row_range h1))
  have HL2 := Lib.hid (kept_range (Array.getElem?_eq_some_iff.1 h2).1 (row_range h2))
  have HL3 := Lib.hid (kept_range (Array.getElem?_eq_some_iff.1 h3).1 (row_range h3))
  have X1' := Lib.hid x1
  have X2' := Lib.hid x2
  have C1 := Lib.hid c1
  have HW := Lib.hid hW0
  have HBL := Lib.hid h4
  generalize (encID t).toArray = A at HL1 X1' X2' HW ⊢
  generalize (encID x).toArray = B at HL2 X1' HW ⊢
  generalize (encID y).toArray = C at HL3 X2' HW ⊢
  generalize (encID (xorI t x)).toArray = X1 at X1' C1
  generalize (encID (xorI t y)).toArray = X2 at X2' C1
  generalize cfM t x y = k at C1 ⊢
  clear x1 x2 c1 h1 h2 h3 h4 hW0
  go_enter Try.func54, Try.ntmps54
  go_upto_region 1 with fail
  rw [← HW.out]
  refine wp_region_kept W0.heap.size W0 (Below.refl _ _) (by kernel_rfl) (by kernel_rfl) ?_
  repeat (first
    | (go_big_quiet_want; (with_reducible refine quiet_loadV 42 (.tmp 3) rfl _ ?_ _ HL1.out ?_); rfl; simp only [Act.put, List.setIfInBounds_toArray, List.set_cons_zero, List.set_cons_succ]; go_big_quiet_on)
    | (go_big_quiet_want; (with_reducible refine quiet_loadV 42 (.tmp 4) rfl _ ?_ _ HL2.out ?_); rfl; simp only [Act.put, List.setIfInBounds_toArray, List.set_cons_zero, List.set_cons_succ]; go_big_quiet_on)
    | (go_big_quiet_want; (with_reducible refine quiet_loadV 42 (.tmp 5) rfl _ ?_ _ HL3.out ?_); rfl; simp only [Act.put, List.setIfInBounds_toArray, List.set_cons_zero, List.set_cons_succ]; go_big_quiet_on)
    | go_big_quiet_step (first
      | (go_at_call 29; with_reducible exact kept_of (Nat.le_refl _) X1'.out _)
      | (go_at_call 29; with_reducible exact kept_of (Nat.le_refl _) X2'.out _)
      | (go_at_call 31; with_reducible exact kept_of (Nat.le_refl _) C1.out _)))
  refine wpQuiet_nil ?_
  rintro _ ⟨⟨wk, hwk⟩, rfl⟩
  go_wp2
  go_ret
  exact ⟨rfl, HBL.out.trans (hwk.mono HBL.out.size)⟩

def HsRel (W : World) (L : List IDv) (x : IDv) (i : Value) (wr : World) : Prop := ∃ j : Nat, j ≤ L.length ∧ i = .int .i64 (j : Int) ∧ (∀ q, q < j → L[q]? ≠ some x) ∧ Below W.heap.size W wr
theorem rhas_any (A : Option Addr) (c : Nat) (L : List IDv) (x : IDv) (w : World) (hL : L.length ≤ 100000) (hA : IAt w w.heap.size A L) :
    Calls Try.prog 74 #[.slice A L.length c, .agg (encID x).toArray] w fun e w' => e = .returned (.bool (decide (x ∈ L))) ∧ Below w.heap.size w w' := by
  obtain ⟨X, hX⟩ : ∃ X, X = (encID x).toArray := ⟨_, rfl⟩
  rw [← hX]
  have hb0 : Below w.heap.size w (w.alloc (.cells X 42)) := (Below.refl _ w).alloc (Nat.le_refl _) _
  obtain ⟨W0, hW0⟩ : ∃ W0, W0 = w.alloc (.cells X 42) := ⟨_, rfl⟩
  have h0 := heap_alloc_new w (.cells X 42)
  rw [← hW0] at hb0 h0
  have HA := Lib.hid ((hA.below hb0).more hb0.size)
  have HB0 := Lib.hid hb0
  have HW := Lib.hid hW0
  have HH : Hid (W0.heap[w.heap.size]? = some (.cells (encID x).toArray 42 (0, 0))) := Lib.hid (by rw [← hX]; exact h0)
  have HX := Lib.hid hX
  have R0 : Hid (HsRel W0 L x (.int .i64 0) W0) := Lib.hid ⟨0, by omega, rfl, fun q hq => by omega, Below.refl _ _⟩
  obtain ⟨n, hn⟩ : ∃ n, n = L.length := ⟨_, rfl⟩
  rw [← hn] at hL ⊢
  have HN := Lib.hid hn
  obtain ⟨D, hD⟩ : ∃ D, D = decide (x ∈ L) := ⟨_, rfl⟩
  rw [← hD]
  have HD := Lib.hid hD
  clear hA hX hb0 h0 hW0 hn hD
  go_enter Try.func74, Try.ntmps74
  go_upto_region 2 with fail
  rw [← HW.out]
  go_loopw [5] (HsRel W0 L x) (fun i _ => n - (intOf i).toNat)
  case atStart => exact R0.out
  case round =>
    obtain ⟨j, hj, rfl, hq, hb⟩ := hrel
    clear R0
    have HQ := Lib.hid hq
    have HB := Lib.hid hb
    by_cases hlt : j < n
    · obtain ⟨y, hy⟩ : ∃ y, L[j]? = some y := ⟨L[j]'(by have := HN.out; omega), List.getElem?_eq_getElem _⟩
      obtain ⟨g, off, rfl, hg, hr⟩ := (HA.out.below hb).some_ (by have := HN.out; omega)
      have HLY := Lib.hid (kept_range (Nat.lt_of_lt_of_le hg hb.size) (range_part hr hy))
      have hgx : w.heap.size < W0.heap.size := (Array.getElem?_eq_some_iff.1 HH.out).1
      have hLX := kept_range (Nat.lt_of_lt_of_le hgx hb.size) (range_keep (row_range HH.out) (hb.block _ hgx))
      rw [← HX.out] at hLX
      have HLX := Lib.hid hLX
      have HY := Lib.hid hy
      have hE := fun W => eq42 y.val x.val y.property x.property W
      change ∀ W, (Op.equalIn 10000 42 (.agg (encID y).toArray) (.agg (encID x).toArray)).run Try.prog W = .ok (y.val == x.val) W at hE
      rw [← HX.out] at hE
      clear hr hg hgx hLX hb hq hy
      by_cases hxy : y = x
      · have hE2 : ∀ W, (Op.equalIn 10000 42 (.agg (encID y).toArray) (.agg X)).run Try.prog W = .ok true W := fun W => by rw [hE, hxy]; simp
        have HP : Hid (D = true) := Lib.hid (by
          rw [HD.out, ← hxy]
          exact decide_eq_true (List.mem_iff_getElem?.2 ⟨j, HY.out⟩))
        clear hE hxy
        go_upto_region 4 with fail
        refine wp_region_kept wr.heap.size wr (Below.refl _ _) (by kernel_rfl) (by kernel_rfl) ?_
        repeat (first
          | (go_big_quiet_want; (with_reducible refine quiet_loadV 42 (.tmp 3) rfl _ ?_ _ HLX.out ?_); rfl; simp only [Act.put, List.setIfInBounds_toArray, List.set_cons_zero, List.set_cons_succ]; go_big_quiet_on)
          | (go_big_quiet_want; (with_reducible refine quiet_loadV 42 (.tmp 14) rfl _ ?_ _ HLY.out ?_); rfl; simp only [Act.put, List.setIfInBounds_toArray, List.set_cons_zero, List.set_cons_succ]; go_big_quiet_on)
          | go_big_quiet_step (fail))
        refine wpQuiet_nil ?_
        rintro wk ⟨⟨_, hwk⟩, rfl⟩
        have HF := Lib.hid (HB0.out.trans ((HB.out.trans (hwk.mono HB.out.size)).mono HB0.out.size))
        clear hwk HLX HLY
        go_wp2
        go_ret
        exact ⟨by rw [HP.out]; rfl, HF.out⟩
      · have hE2 : ∀ W, (Op.equalIn 10000 42 (.agg (encID y).toArray) (.agg X)).run Try.prog W = .ok false W := fun W => by
          rw [hE, beq_eq_false_iff_ne.2 (fun e => hxy (Subtype.ext e))]
        have HXY := Lib.hid hxy
        clear hE hxy
        go_upto_region 4 with fail
        refine wp_region_kept wr.heap.size wr (Below.refl _ _) (by kernel_rfl) (by kernel_rfl) ?_
        repeat (first
          | (go_big_quiet_want; (with_reducible refine quiet_loadV 42 (.tmp 3) rfl _ ?_ _ HLX.out ?_); rfl; simp only [Act.put, List.setIfInBounds_toArray, List.set_cons_zero, List.set_cons_succ]; go_big_quiet_on)
          | (go_big_quiet_want; (with_reducible refine quiet_loadV 42 (.tmp 14) rfl _ ?_ _ HLY.out ?_); rfl; simp only [Act.put, List.setIfInBounds_toArray, List.set_cons_zero, List.set_cons_succ]; go_big_quiet_on)
          | go_big_quiet_step (fail))
        refine wpQuiet_nil ?_
        rintro wk ⟨⟨_, hwk⟩, rfl⟩
        have HREL : Hid (HsRel W0 L x (.int .i64 ((j : Int) + 1)) wk) := Lib.hid ⟨j + 1, by have := HN.out; omega, by go_num, fun q hq => by
          by_cases e : q = j
          · subst e
            rw [HY.out]
            intro e2
            injection e2 with e2
            exact HXY.out e2
          · exact HQ.out q (by omega), HB.out.trans (hwk.mono HB.out.size)⟩
        clear hwk HLX HLY HQ HB HY
        go_wp2
        go_roundw
        case rel => exact HREL.out
        case measure => simp [intOf]; omega
    · have HP : Hid (D = false) := Lib.hid (by
        rw [HD.out]
        refine decide_eq_false (fun h => ?_)
        obtain ⟨q, hq⟩ := List.mem_iff_getElem?.1 h
        have := (List.getElem?_eq_some_iff.1 hq).1
        exact absurd hq (HQ.out q (by have := HN.out; omega)))
      have HF := Lib.hid (HB0.out.trans (HB.out.mono HB0.out.size))
      clear hb hq HB HQ
      go_wp2
      go_ret
      exact ⟨by rw [HP.out]; rfl, HF.out⟩
end Go.Proofs.Ytcoiaddjfeaciaa
