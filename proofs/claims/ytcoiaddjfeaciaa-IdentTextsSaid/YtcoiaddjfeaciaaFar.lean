/- The walk of the statement IdentFar of this seat: it answers true for every three ids. No condition. -/
import Derived.Test.YtcoiaddjfeaciaaTexc
namespace Go.Proofs.Ytcoiaddjfeaciaa
set_option maxRecDepth 100000
set_option maxHeartbeats 400000
open Go.RowKit Go.Great

theorem cmpL_vals (xs ys : List UInt8) : cmpL xs ys = 0 ∨ cmpL xs ys = 1 ∨ cmpL xs ys = -1 := by
  unfold cmpL
  repeat (first | split | simp)
theorem xor_len {a b : List UInt8} (ha : a.length = 20) (hb : b.length = 20) : (xorL a b).length = 20 := (xorL_length (ha.trans hb.symm)).trans ha

theorem quiet_buildV {P : Program} {B : Nat} {W0 : World} {o : Oper} {a : Act} {K : Act → Prop} (t : TypeId) (parts : Array (Nat × Operand)) (ho : o.op = .build t parts) (vs : Array (Nat × Value)) (hv : (parts.map fun (i, x) => (i, a.eval x)) = vs) (v : Value) (hr : ∀ W, (Instr.build t vs).run P W = .ok v W)
    (hk : K (a.put o.dst v)) : o.quiet P a (fun w' => ∃ n : Kept B W0, w' = n.val) K :=
  ⟨v, fun w ⟨n, hn⟩ => by
    subst hn
    unfold Oper.quietAt execOp
    simp only [ho, hv, Sem.run_bind, hr, Result.andThen_ok]
    exact ⟨rfl, rfl⟩, hk⟩

theorem far_walk (a b c : List UInt8) (ha : a.length = 20) (hb : b.length = 20) (hc : c.length = 20) (w : World) :
    Calls Try.prog 8 #[.agg (bcells a).toArray, .agg (bcells b).toArray, .agg (bcells c).toArray] w fun e w' => e = .returned (.bool true) ∧ Below w.heap.size w w' := by
  have p1 := fun W => prefix_any a b ha hb W
  have p2 := fun W => prefix_any b c hb hc W
  have p3 := fun W => prefix_any a c ha hc W
  have hthree := pfxN_three a b c (ha.trans hb.symm) (hb.trans hc.symm)
  have x1 := fun W => xor_any a b ha hb W
  have x2 := fun W => xor_any b a hb ha W
  have x3 := fun W => xor_any b c hb hc W
  have x4 := fun W => xor_any (xorL a b) (xorL b c) (xor_len ha hb) (xor_len hb hc) W
  have x5 := fun W => xor_any a c ha hc W
  rw [xorL_comm b a] at x2
  rw [xorL_three a b c (ha.trans hb.symm) (hb.trans hc.symm)] at x4
  have c1 := fun W => cmp_any a b ha hb W
  have c2 := fun W => cmp_any b a hb ha W
  have hneg := cmpL_neg a b (ha.trans hb.symm)
  have hv := cmpL_vals b a
  have hbz : ∀ W, (Instr.build 26 #[]).run Try.prog W = .ok (.agg (bcells (List.replicate 20 0)).toArray) W := fun W => built61 W
  have e1 := fun W => eq61 (xorL a b) (List.replicate 20 0) (xor_len ha hb) (by simp) W
  have e2 := fun W => eq61 a b ha hb W
  have e3 := fun W => eq61 (xorL a b) (xorL a b) (xor_len ha hb) (xor_len ha hb) W
  have e4 := fun W => eq61 (xorL a c) (xorL a c) (xor_len ha hc) (xor_len ha hc) W
  have hxz := xorL_zero 20 a b ha hb
  have hxe : (xorL a b == List.replicate 20 0) = (a == b) := by
    by_cases h : a = b
    · rw [beq_iff_eq.2 h, beq_iff_eq.2 (hxz.2 h)]
    · rw [beq_eq_false_iff_ne.2 h, beq_eq_false_iff_ne.2 (fun e => h (hxz.1 e))]
  simp only [hxe, beq_self_eq_true] at e1 e3 e4
  generalize (a == b) = eab at e1 e2
  obtain ⟨A, hA⟩ : ∃ A, A = (bcells a).toArray := ⟨_, rfl⟩
  obtain ⟨B, hB⟩ : ∃ B, B = (bcells b).toArray := ⟨_, rfl⟩
  obtain ⟨C, hC⟩ : ∃ C, C = (bcells c).toArray := ⟨_, rfl⟩
  obtain ⟨W0, hW0⟩ : ∃ W0, W0 = ((w.alloc (.cells A 26)).alloc (.cells B 26)).alloc (.cells C 26) := ⟨_, rfl⟩
  obtain ⟨h1, h2, h3, h4⟩ := heap3 w (.cells A 26) (.cells B 26) (.cells C 26)
  rw [← hW0] at h1 h2 h3 h4
  have hs0 : W0.heap.size = w.heap.size + 3 := by rw [hW0]; simp
  have HL1 : Hid (∀ n : Kept W0.heap.size W0, (loadVar 26 ⟨w.heap.size, 0, none⟩).run Try.prog n.val = .ok (.agg A) n.val) := Lib.hid (fun n => by
    rw [hA] at h1 ⊢
    exact load26 ha (kept_row h1 (by omega) n))
  have HL2 : Hid (∀ n : Kept W0.heap.size W0, (loadVar 26 ⟨w.heap.size + 1, 0, none⟩).run Try.prog n.val = .ok (.agg B) n.val) := Lib.hid (fun n => by
    rw [hB] at h2 ⊢
    exact load26 hb (kept_row h2 (by omega) n))
  have HL3 : Hid (∀ n : Kept W0.heap.size W0, (loadVar 26 ⟨w.heap.size + 1 + 1, 0, none⟩).run Try.prog n.val = .ok (.agg C) n.val) := Lib.hid (fun n => by
    rw [hC] at h3 ⊢
    exact load26 hc (kept_row h3 (by omega) n))
  simp only [← hA, ← hB, ← hC] at p1 p2 p3 x1 x2 x3 x5 c1 c2 e2 ⊢
  generalize (bcells (xorL a b)).toArray = X1 at x1 x2 x4 e1 e3
  generalize (bcells (xorL b c)).toArray = X2 at x3 x4
  generalize (bcells (xorL a c)).toArray = X3 at x4 x5 e4
  generalize (bcells (List.replicate 20 0)).toArray = Z at hbz e1
  rw [hneg] at c1
  generalize cmpL b a = k at c1 c2 hv
  generalize pfxN a b = m1 at p1 hthree
  generalize pfxN b c = m2 at p2 hthree
  generalize pfxN a c = m3 at p3 hthree
  have P1 := Lib.hid p1
  have P2 := Lib.hid p2
  have P3 := Lib.hid p3
  have X1' := Lib.hid x1
  have X2' := Lib.hid x2
  have X3' := Lib.hid x3
  have X4' := Lib.hid x4
  have X5' := Lib.hid x5
  have C1 := Lib.hid c1
  have C2 := Lib.hid c2
  have HW := Lib.hid hW0
  have HBL := Lib.hid h4
  have HZ := Lib.hid hbz
  have hk : k ≤ 1 ∧ -1 ≤ k := by omega
  have hk1 := hk.1
  have hk2 := hk.2
  clear p1 p2 p3 x1 x2 x3 x4 x5 c1 c2 h1 h2 h3 h4 hW0 hs0 hA hB hC hxz hxe hneg hbz ha hb hc hv hk
  go_enter Try.func8, Try.ntmps8
  go_upto_region 1 with fail
  rw [← HW.out]
  refine wp_region_kept W0.heap.size W0 (Below.refl _ _) (by kernel_rfl) (by kernel_rfl) ?_
  repeat (first
    | (go_big_quiet_want; (with_reducible refine quiet_loadV 26 (.tmp 3) rfl _ ?_ _ HL1.out ?_); rfl; simp only [Act.put, List.setIfInBounds_toArray, List.set_cons_zero, List.set_cons_succ]; go_big_quiet_on)
    | (go_big_quiet_want; (with_reducible refine quiet_loadV 26 (.tmp 4) rfl _ ?_ _ HL2.out ?_); rfl; simp only [Act.put, List.setIfInBounds_toArray, List.set_cons_zero, List.set_cons_succ]; go_big_quiet_on)
    | (go_big_quiet_want; (with_reducible refine quiet_loadV 26 (.tmp 5) rfl _ ?_ _ HL3.out ?_); rfl; simp only [Act.put, List.setIfInBounds_toArray, List.set_cons_zero, List.set_cons_succ]; go_big_quiet_on)
    | go_big_quiet_step (first | (go_at_call 32; with_reducible exact kept_of (Nat.le_refl _) P1.out _) | (go_at_call 32; with_reducible exact kept_of (Nat.le_refl _) P2.out _) | (go_at_call 32; with_reducible exact kept_of (Nat.le_refl _) P3.out _)))
  refine wpQuiet_nil ?_
  rintro _ ⟨⟨wk, hwk⟩, rfl⟩
  have HWK := Lib.hid hwk
  clear hwk P1 P2 P3
  have hcase : (m1 = m2 ∧ ¬ m3 < m1) ∨ (m2 = m3 ∧ m2 < m1) ∨ (m1 = m3 ∧ m1 < m2) := by omega
  clear hthree
  rcases hcase with ⟨rfl, n1⟩ | ⟨rfl, n1⟩ | ⟨rfl, n1⟩
  all_goals
    have n2 : ¬ m1 < m1 := by omega
    try (have n3 : ¬ m2 < m2 := by omega)
    try (have n4 : ¬ m2 = m1 := by omega)
    try (have n5 : ¬ m1 = m2 := by omega)
    try (have n6 : ¬ m2 < m1 := by omega)
    go_upto_region 4 with fail
    refine wp_region_kept W0.heap.size W0 HWK.out (by kernel_rfl) (by kernel_rfl) ?_
    repeat (first
      | (go_big_quiet_want; (with_reducible refine quiet_loadV 26 (.tmp 3) rfl _ ?_ _ HL1.out ?_); rfl; simp only [Act.put, List.setIfInBounds_toArray, List.set_cons_zero, List.set_cons_succ]; go_big_quiet_on)
      | (go_big_quiet_want; (with_reducible refine quiet_loadV 26 (.tmp 4) rfl _ ?_ _ HL2.out ?_); rfl; simp only [Act.put, List.setIfInBounds_toArray, List.set_cons_zero, List.set_cons_succ]; go_big_quiet_on)
      | (go_big_quiet_want; (with_reducible refine quiet_loadV 26 (.tmp 5) rfl _ ?_ _ HL3.out ?_); rfl; simp only [Act.put, List.setIfInBounds_toArray, List.set_cons_zero, List.set_cons_succ]; go_big_quiet_on)
      | (go_big_quiet_want; (with_reducible refine quiet_buildV 26 _ rfl _ ?_ _ HZ.out ?_); (simp only [List.map_toArray, List.map_nil]); simp only [Act.put, List.setIfInBounds_toArray, List.set_cons_zero, List.set_cons_succ]; go_big_quiet_on)
      | go_big_quiet_step (first
        | (go_at_call 28; with_reducible exact kept_of (Nat.le_refl _) X1'.out _)
        | (go_at_call 28; with_reducible exact kept_of (Nat.le_refl _) X2'.out _)
        | (go_at_call 28; with_reducible exact kept_of (Nat.le_refl _) X3'.out _)
        | (go_at_call 28; with_reducible exact kept_of (Nat.le_refl _) X4'.out _)
        | (go_at_call 28; with_reducible exact kept_of (Nat.le_refl _) X5'.out _)
        | (go_at_call 30; with_reducible exact kept_of (Nat.le_refl _) C1.out _)
        | (go_at_call 30; with_reducible exact kept_of (Nat.le_refl _) C2.out _)
        | (go_at_call 34; exact kept_of (Nat.le_refl _) ilives_any _)))
    refine wpQuiet_nil ?_
    rintro _ ⟨⟨wz, hwz⟩, rfl⟩
    go_wp2
    go_ret
    exact ⟨rfl, HBL.out.trans (hwz.mono HBL.out.size)⟩
end Go.Proofs.Ytcoiaddjfeaciaa
