/- The walk of the statement MetricOrder of this seat: it answers true for any four ids. No condition. -/
import Derived.Test.YtcoiaddjfeaciaaMlj
import Derived.Test.YtcoiaddjfeaciaaMra
namespace Go.Proofs.Ytcoiaddjfeaciaa
set_option maxRecDepth 100000
set_option maxHeartbeats 4000000
open Go.RowKit Go.Lib Go.Great

theorem cfM_zero (t a b : IDv) : cfM t a b = 0 ↔ a = b := by
  unfold cfM cmpL
  constructor
  · intro h
    by_cases e : xorL t.val a.val = xorL t.val b.val
    · exact xorI_inj t a b (Subtype.ext e)
    · rw [if_neg e] at h
      split at h <;> omega
  · rintro rfl
    rw [if_pos rfl]
theorem cfM_cases (t a b : IDv) : (cfM t a b = 0 ∧ a = b) ∨ (cfM t a b = -1 ∧ a ≠ b) ∨ (cfM t a b = 1 ∧ a ≠ b) := by
  have h0 := cfM_zero t a b
  rcases cmpL_vals (xorL t.val a.val) (xorL t.val b.val) with h | h | h
  · exact .inl ⟨h, h0.1 h⟩
  · exact .inr (.inr ⟨h, fun e => by have := h0.2 e; unfold cfM at this; omega⟩)
  · exact .inr (.inl ⟨h, fun e => by have := h0.2 e; unfold cfM at this; omega⟩)
theorem cfM_neg (t a b : IDv) : cfM t a b = -cfM t b a := cmpL_neg _ _ ((xorI t a).property.trans (xorI t b).property.symm)
/-- One that has more bits in common is nearer. -/
theorem cfM_pfx (t a b : IDv) (h : pfxN t.val b.val < pfxN t.val a.val) : cfM t a b = -1 := by
  have lta : t.val.length = a.val.length := t.property.trans a.property.symm
  have ltb : t.val.length = b.val.length := t.property.trans b.property.symm
  obtain ⟨a1, a2, _, _⟩ := pfxN_spec t.val a.val lta
  obtain ⟨b1, b2, b3, b4⟩ := pfxN_spec t.val b.val ltb
  have hne : t.val ≠ b.val := fun e => by have := b4 e; omega
  obtain ⟨_, b6⟩ := b3 hne
  have la : (xorL t.val a.val).length = 20 := (xorI t a).property
  have lb : (xorL t.val b.val).length = 20 := (xorI t b).property
  have ht := t.property
  have xa : ∀ i, i ≤ pfxN t.val b.val → bitL (xorL t.val a.val) i = false := fun i hi => by
    rw [xorL_bit _ _ _ lta, a2 i (by omega)]
    simp
  have xb : ∀ i, i < pfxN t.val b.val → bitL (xorL t.val b.val) i = false := fun i hi => by
    rw [xorL_bit _ _ _ ltb, b2 i hi]
    simp
  have xc : bitL (xorL t.val b.val) (pfxN t.val b.val) = true := by
    rw [xorL_bit _ _ _ ltb]
    simpa using b6
  have hp : pfxN (xorL t.val a.val) (xorL t.val b.val) = pfxN t.val b.val := pfxN_unique (la.trans lb.symm) _ (by omega) (fun i hi => by rw [xa i (by omega), xb i hi]) (fun _ => by rw [xa _ (Nat.le_refl _), xc]; simp)
  unfold cfM cmpL
  rw [if_neg, hp, xa _ (Nat.le_refl _)]
  · rfl
  · intro e
    rw [← e, xa _ (Nat.le_refl _)] at xc
    cases xc
theorem heap4m (w : World) (a b x y : Obj) :
    ((((w.alloc a).alloc b).alloc x).alloc y).heap[w.heap.size]? = some a ∧ ((((w.alloc a).alloc b).alloc x).alloc y).heap[w.heap.size + 1]? = some b ∧ ((((w.alloc a).alloc b).alloc x).alloc y).heap[w.heap.size + 1 + 1]? = some x ∧ ((((w.alloc a).alloc b).alloc x).alloc y).heap[w.heap.size + 1 + 1 + 1]? = some y ∧ Below w.heap.size w ((((w.alloc a).alloc b).alloc x).alloc y) := by
  refine ⟨?_, ?_, ?_, ?_, (((((Below.refl _ w).alloc (Nat.le_refl _) _).alloc (by simp) _).alloc (by simp; omega) _).alloc (by simp; omega) _)⟩
  all_goals
    show ((((w.heap.push a).push b).push x).push y)[_]? = _
    simp only [Array.getElem?_push, Array.size_push]
    repeat (first | rw [if_pos trivial] | rw [if_pos (by omega)] | rw [if_neg (by omega)])

theorem order_walk (t a b c : IDv) (w : World) :
    Calls Try.prog 10 #[.agg (encID t).toArray, .agg (encID a).toArray, .agg (encID b).toArray, .agg (encID c).toArray] w fun e w' => e = .returned (.bool true) ∧ Below w.heap.size w w' := by
  have cm : ∀ x y : IDv, Hid (∀ W, Calls Try.prog 53 #[.agg (encID t).toArray, .agg (encID x).toArray, .agg (encID y).toArray] W fun e w' => e = .returned (.int .i64 (cfM t x y)) ∧ Below W.heap.size W w') := fun x y => Lib.hid (fun W => (mcmp_g t.val x.val y.val t.property x.property y.property W).mono (by rintro e w' ⟨he, hg⟩; exact ⟨he, hg.1⟩))
  have C1 := cm a b
  have C2 := cm b c
  have C3 := cm a c
  have C4 := cm b a
  have C5 : Hid (∀ W, Calls Try.prog 54 #[.agg (encID t).toArray, .agg (encID a).toArray, .agg (encID b).toArray] W fun e w' => e = .returned (.int .i64 (cfM t a b)) ∧ Below W.heap.size W w') := Lib.hid (fun W => rmcmp_any t a b W)
  have P1 : Hid (∀ W, Calls Try.prog 32 #[.agg (encID t).toArray, .agg (encID a).toArray] W fun e w' => e = .returned (.int .i64 (pfxN t.val a.val : Int)) ∧ Below W.heap.size W w') := Lib.hid (fun W => prefix_any t.val a.val t.property a.property W)
  have P2 : Hid (∀ W, Calls Try.prog 32 #[.agg (encID t).toArray, .agg (encID b).toArray] W fun e w' => e = .returned (.int .i64 (pfxN t.val b.val : Int)) ∧ Below W.heap.size W w') := Lib.hid (fun W => prefix_any t.val b.val t.property b.property W)
  have hE : ∀ W, (Op.equalIn 10000 26 (.agg (encID a).toArray) (.agg (encID b).toArray)).run Try.prog W = .ok (a.val == b.val) W := fun W => eq61 a.val b.val a.property b.property W
  have HX := Lib.hid (cfM_cases t a b)
  have hng := cfM_neg t b a
  have HT : Hid (cfM t a b < 0 → cfM t b c < 0 → cfM t a c < 0) := Lib.hid (fun h1 h2 => (cfM_lt t a c).2 (Nat.lt_trans ((cfM_lt t a b).1 h1) ((cfM_lt t b c).1 h2)))
  have HP : Hid (pfxN t.val a.val ≤ pfxN t.val b.val ∨ cfM t a b = -1) := Lib.hid (by
    by_cases h : pfxN t.val a.val ≤ pfxN t.val b.val
    · exact .inl h
    · exact .inr (cfM_pfx t a b (by omega)))
  rw [hng] at C4
  clear hng cm
  obtain ⟨h1, h2, h3, h3', h4⟩ := heap4m w (.cells (encID t).toArray 26) (.cells (encID a).toArray 26) (.cells (encID b).toArray 26) (.cells (encID c).toArray 26)
  obtain ⟨W0, hW0⟩ : ∃ W0, W0 = (((w.alloc (.cells (encID t).toArray 26)).alloc (.cells (encID a).toArray 26)).alloc (.cells (encID b).toArray 26)).alloc (.cells (encID c).toArray 26) := ⟨_, rfl⟩
  rw [← hW0] at h1 h2 h3 h3' h4
  have ld : ∀ (g : Nat) (x : IDv), W0.heap[g]? = some (.cells (encID x).toArray 26 (0, 0)) → Hid (∀ W, Below W0.heap.size W0 W → (loadVar 26 ⟨g, 0, none⟩).run Try.prog W = .ok (.agg (encID x).toArray) W) := fun g x h => Lib.hid (fun W hW => range_load26 (range_keep (row_range h) (hW.block _ (Array.getElem?_eq_some_iff.1 h).1)))
  have lk : ∀ (g : Nat) (x : IDv), W0.heap[g]? = some (.cells (encID x).toArray 26 (0, 0)) → Hid (∀ n : Kept W0.heap.size W0, (loadVar 26 ⟨g, 0, none⟩).run Try.prog n.val = .ok (.agg (encID x).toArray) n.val) := fun g x h => Lib.hid (kept_range26 (Array.getElem?_eq_some_iff.1 h).1 (row_range h))
  have L1 := ld _ t h1
  have L2 := ld _ a h2
  have L3 := ld _ b h3
  have K1 := lk _ t h1
  have K2 := lk _ a h2
  have K3 := lk _ b h3
  have K4 := lk _ c h3'
  have HW := Lib.hid hW0
  have HBL := Lib.hid h4
  generalize (encID t).toArray = T at L1 K1 C1 C2 C3 C4 C5 P1 P2 HW ⊢
  generalize (encID a).toArray = A at L2 K2 C1 C3 C4 C5 P1 HW hE ⊢
  generalize (encID b).toArray = B at L3 K3 C1 C2 C4 C5 P2 HW hE ⊢
  generalize (encID c).toArray = C at K4 C2 C3 HW ⊢
  generalize cfM t b c = y at C2 HT
  generalize cfM t a c = z at C3 HT
  generalize pfxN t.val a.val = p1 at P1 HP
  generalize pfxN t.val b.val = p2 at P2 HP
  clear h1 h2 h3 h3' h4 hW0 ld lk
  go_enter Try.func10, Try.ntmps10
  go_upto_region 1 with fail
  rw [← HW.out]
  refine wp_region_kept W0.heap.size W0 (Below.refl _ _) (by kernel_rfl) (by kernel_rfl) ?_
  repeat (first
    | (go_big_quiet_want; (with_reducible refine quiet_loadV 26 (.tmp 4) rfl _ ?_ _ K1.out ?_); rfl; simp only [Act.put, List.setIfInBounds_toArray, List.set_cons_zero, List.set_cons_succ]; go_big_quiet_on)
    | (go_big_quiet_want; (with_reducible refine quiet_loadV 26 (.tmp 5) rfl _ ?_ _ K2.out ?_); rfl; simp only [Act.put, List.setIfInBounds_toArray, List.set_cons_zero, List.set_cons_succ]; go_big_quiet_on)
    | (go_big_quiet_want; (with_reducible refine quiet_loadV 26 (.tmp 6) rfl _ ?_ _ K3.out ?_); rfl; simp only [Act.put, List.setIfInBounds_toArray, List.set_cons_zero, List.set_cons_succ]; go_big_quiet_on)
    | (go_big_quiet_want; (with_reducible refine quiet_loadV 26 (.tmp 7) rfl _ ?_ _ K4.out ?_); rfl; simp only [Act.put, List.setIfInBounds_toArray, List.set_cons_zero, List.set_cons_succ]; go_big_quiet_on)
    | go_big_quiet_step (first
      | (go_at_call 53; with_reducible exact kept_of (Nat.le_refl _) C1.out _)
      | (go_at_call 53; with_reducible exact kept_of (Nat.le_refl _) C2.out _)
      | (go_at_call 53; with_reducible exact kept_of (Nat.le_refl _) C3.out _)))
  refine wpQuiet_nil ?_
  rintro _ ⟨⟨wk, HB⟩, rfl⟩
  clear C1 C2 C3 K4
  have hx := HX.out
  generalize cfM t a b = x at *
  have hq : (x = 0 ∧ a = b ∧ p1 ≤ p2) ∨ (x = 1 ∧ a ≠ b ∧ p1 ≤ p2) ∨ (x = -1 ∧ a ≠ b ∧ y < 0 ∧ z < 0 ∧ p1 ≤ p2) ∨ (x = -1 ∧ a ≠ b ∧ y < 0 ∧ z < 0 ∧ ¬ p1 ≤ p2) ∨ (x = -1 ∧ a ≠ b ∧ ¬ y < 0 ∧ p1 ≤ p2) ∨ (x = -1 ∧ a ≠ b ∧ ¬ y < 0 ∧ ¬ p1 ≤ p2) := by
    have h1 := HT.out
    have h2 := HP.out
    rcases hx with ⟨e, n⟩ | ⟨e, n⟩ | ⟨e, n⟩
    · exact .inl ⟨e, n, by omega⟩
    · have h3 := h1 (by omega)
      by_cases hy : y < 0
      · by_cases hp : p1 ≤ p2
        · exact .inr (.inr (.inl ⟨e, n, hy, h3 hy, hp⟩))
        · exact .inr (.inr (.inr (.inl ⟨e, n, hy, h3 hy, hp⟩)))
      · by_cases hp : p1 ≤ p2
        · exact .inr (.inr (.inr (.inr (.inl ⟨e, n, hy, hp⟩))))
        · exact .inr (.inr (.inr (.inr (.inr ⟨e, n, hy, hp⟩))))
    · exact .inr (.inl ⟨e, n, by omega⟩)
  clear hx HX HT HP
  rcases hq with ⟨rfl, hab, hp⟩ | ⟨rfl, hab, hp⟩ | ⟨rfl, hab, hy, hz, hp⟩ | ⟨rfl, hab, hy, hz, hp⟩ | ⟨rfl, hab, hy, hp⟩ | ⟨rfl, hab, hy, hp⟩
  all_goals
    have hE2 : ∀ W, (Op.equalIn 10000 26 (.agg A) (.agg B)).run Try.prog W = .ok (decide (a = b)) W := fun W => by
      rw [hE]
      congr 1
      by_cases e : a = b
      · simp [e]
      · rw [decide_eq_false e, beq_eq_false_iff_ne.2 (fun h => e (Subtype.ext h))]
    simp only [hab, decide_true, decide_false] at hE2
    clear hE hab
    go_upto_region 6 with (first
      | ((with_reducible refine wpList_loadV (op := ⟨some 25, _, _, _, _, _⟩) rfl 26 (.tmp 4) rfl _ ?_ _ (L1.out _ HB) ?_); rfl)
      | ((with_reducible refine wpList_loadV (op := ⟨some 26, _, _, _, _, _⟩) rfl 26 (.tmp 5) rfl _ ?_ _ (L2.out _ HB) ?_); rfl)
      | ((with_reducible refine wpList_loadV (op := ⟨some 27, _, _, _, _, _⟩) rfl 26 (.tmp 6) rfl _ ?_ _ (L3.out _ HB) ?_); rfl)
      | ((with_reducible refine wpList_loadG (op := ⟨some 33, _, _, _, _, _⟩) rfl 26 (.tmp 5) rfl _ ?_ _ (L2.out _ HB) ?_); rfl)
      | ((with_reducible refine wpList_loadG (op := ⟨some 34, _, _, _, _, _⟩) rfl 26 (.tmp 6) rfl _ ?_ _ (L3.out _ HB) ?_); rfl)
      | ((with_reducible refine wpList_loadG (op := ⟨some 40, _, _, _, _, _⟩) rfl 26 (.tmp 4) rfl _ ?_ _ (L1.out _ HB) ?_); rfl)
      | ((with_reducible refine wpList_loadG (op := ⟨some 41, _, _, _, _, _⟩) rfl 26 (.tmp 6) rfl _ ?_ _ (L3.out _ HB) ?_); rfl)
      | ((with_reducible refine wpList_loadG (op := ⟨some 42, _, _, _, _, _⟩) rfl 26 (.tmp 5) rfl _ ?_ _ (L2.out _ HB) ?_); rfl)
      | (go_at_call 54; (with_reducible refine (C5.out _).mono ?_); rintro e wn ⟨rfl, hbn⟩; replace HB := HB.trans (hbn.mono HB.size); clear hbn)
      | (go_at_call 53; (with_reducible refine (C4.out _).mono ?_); rintro e wn ⟨rfl, hbn⟩; replace HB := HB.trans (hbn.mono HB.size); clear hbn))
    refine wp_region_kept W0.heap.size W0 HB (by kernel_rfl) (by kernel_rfl) ?_
    repeat (first
      | (go_big_quiet_want; (with_reducible refine quiet_loadV 26 (.tmp 4) rfl _ ?_ _ K1.out ?_); rfl; simp only [Act.put, List.setIfInBounds_toArray, List.set_cons_zero, List.set_cons_succ]; go_big_quiet_on)
      | (go_big_quiet_want; (with_reducible refine quiet_loadV 26 (.tmp 5) rfl _ ?_ _ K2.out ?_); rfl; simp only [Act.put, List.setIfInBounds_toArray, List.set_cons_zero, List.set_cons_succ]; go_big_quiet_on)
      | (go_big_quiet_want; (with_reducible refine quiet_loadV 26 (.tmp 6) rfl _ ?_ _ K3.out ?_); rfl; simp only [Act.put, List.setIfInBounds_toArray, List.set_cons_zero, List.set_cons_succ]; go_big_quiet_on)
      | go_big_quiet_step (first
        | (go_at_call 32; with_reducible exact kept_of (Nat.le_refl _) P1.out _)
        | (go_at_call 32; with_reducible exact kept_of (Nat.le_refl _) P2.out _)
        | (go_at_call 43; exact kept_of (Nat.le_refl _) mlives_any _)))
    refine wpQuiet_nil ?_
    rintro _ ⟨⟨wz, hwz⟩, rfl⟩
    go_wp2
    go_ret
    exact ⟨rfl, HBL.out.trans (hwz.mono HBL.out.size)⟩
end Go.Proofs.Ytcoiaddjfeaciaa
