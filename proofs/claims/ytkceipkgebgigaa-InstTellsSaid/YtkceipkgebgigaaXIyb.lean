/- Walk of InstTells. Conditions: the two targets together of at most 4611686018427387904 bytes. -/
import Derived.Test.YtkceipkgebgigaaXIya
import Derived.Test.YtkceipkgebgigaaXKCdk
namespace Go.Proofs.Ytkceipkgebgigaa
open Go.Shelf Go.RowKit Go.Lib Go.Great
set_option maxRecDepth 100000
set_option maxHeartbeats 4000000
theorem itells_big (a b : Ins) (n : Nat) (hz : a.tgt.length + b.tgt.length ≤ 4611686018427387904) (h : 3000 < a.tgt.length + b.tgt.length) (w : World) : Calls Try.prog 3 #[.agg (encI a).toArray, .agg (encI b).toArray, .int .u64 (n : Int)] w fun e w' => e = .returned (.bool true) ∧ Below w.heap.size w w' := by
  obtain ⟨h1, h2, hb⟩ := heap2 w (.cells (encI a).toArray 28) (.cells (encI b).toArray 28)
  have HB := Lib.hid hb
  have c1 := (fldB h1).tgt
  have c2 := (fldB h2).tgt
  have s1 := bstr_size a.tgt
  have s2 := bstr_size b.tgt
  have HLI := Lib.hid lives_any
  have hs : (3000 : Int) < (a.tgt.length : Int) + (b.tgt.length : Int) := by omega
  have hw : IntKind.i64.wrap ((a.tgt.length : Int) + (b.tgt.length : Int)) = (a.tgt.length : Int) + (b.tgt.length : Int) := by rw [IntKind.wrap]; simp [IntKind.signed, IntKind.bits]; omega
  clear h
  generalize bstr a.tgt = S at *
  generalize bstr b.tgt = T at *
  generalize a.tgt.length = la at *
  generalize b.tgt.length = lb at *
  generalize (encI a).toArray = X at *
  generalize (encI b).toArray = Y at *
  clear h1 h2 hb
  go_enter Try.func3, Try.ntmps3
  go_wp2_with (go_at_call 11; (with_reducible refine (HLI.out _).mono ?_); rintro e w1 ⟨rfl, hb1⟩)
  go_ret
  exact ⟨rfl, HB.out.trans (hb1.mono HB.out.size)⟩
theorem itells_small (a b : Ins) (n : Nat) (hn : n < 18446744073709551616) (h : a.tgt.length + b.tgt.length ≤ 3000) (w : World) : Calls Try.prog 3 #[.agg (encI a).toArray, .agg (encI b).toArray, .int .u64 (n : Int)] w fun e w' => e = .returned (.bool true) ∧ Below w.heap.size w w' := by
  obtain ⟨h1, h2, hb⟩ := heap2 w (.cells (encI a).toArray 28) (.cells (encI b).toArray 28)
  obtain ⟨W0, hW0⟩ : ∃ W0, W0 = (w.alloc (.cells (encI a).toArray 28)).alloc (.cells (encI b).toArray 28) := ⟨_, rfl⟩
  have HW0 := Lib.hid hW0
  rw [← hW0] at h1 h2 hb
  have l2 := (Array.getElem?_eq_some_iff.1 h2).1
  have HB := Lib.hid hb
  have c1 := (fldB h1).tgt
  have c2 := (fldB h2).tgt
  have s1 := bstr_size a.tgt
  have s2 := bstr_size b.tgt
  have hs : ¬ (3000 : Int) < (a.tgt.length : Int) + (b.tgt.length : Int) := by omega
  have hw : IntKind.i64.wrap ((a.tgt.length : Int) + (b.tgt.length : Int)) = (a.tgt.length : Int) + (b.tgt.length : Int) := by rw [IntKind.wrap]; simp [IntKind.signed, IntKind.bits]; omega
  have H3 : Hid (∀ W, Below (w.heap.size + 2) W0 W → (loadVar 28 ⟨w.heap.size, 0, none⟩).run Try.prog W = .ok (.agg (encI a).toArray) W) := Lib.hid (fun W hW => (fld_below h1 hW (by omega)).all)
  have H4 : Hid (∀ W, Below (w.heap.size + 2) W0 W → (loadVar 28 ⟨w.heap.size + 1, 0, none⟩).run Try.prog W = .ok (.agg (encI b).toArray) W) := Lib.hid (fun W hW => (fld_below h2 hW (by omega)).all)
  have L2 : Hid (w.heap.size + 2 ≤ W0.heap.size) := Lib.hid (by omega)
  have C12 : Hid (∀ W, Below (w.heap.size + 2) W0 W → Calls Try.prog 12 #[.agg (encI a).toArray] W fun e w' => ∃ A c, e = .returned (.tuple #[.slice A (byI a).length c, .int .i64 (errI a)]) ∧ IsB (.slice A (byI a).length c) (byI a) w' ∧ Below (w.heap.size + 2) W0 w') := Lib.hid (fun W hW => (ibytes_any a (by omega) W).mono (by
    rintro e w' ⟨v, rfl, ⟨A, c, rfl, hc, hA⟩, hb⟩
    exact ⟨A, c, rfl, ⟨A, c, rfl, hc, hA⟩, hW.trans (hb.mono (by have := hW.size; omega))⟩))
  have C13 : Hid (∀ W, Below (w.heap.size + 2) W0 W → Calls Try.prog 13 #[.agg (encI a).toArray] W fun e w' => ∃ A c, e = .returned (.tuple #[.slice A (byI a).length c, .int .i64 (errI a)]) ∧ IsB (.slice A (byI a).length c) (byI a) w' ∧ Below (w.heap.size + 2) W0 w' ∧ Below W.heap.size W w') := Lib.hid (fun W hW => (ribytes_any a (by omega) W).mono (by
    rintro e w' ⟨v, rfl, ⟨A, c, rfl, hc, hA⟩, hb⟩
    exact ⟨A, c, rfl, ⟨A, c, rfl, hc, hA⟩, hW.trans (hb.mono (by have := hW.size; omega)), hb⟩))
  have C14 : Hid (∀ W, Calls Try.prog 14 #[.agg (encI a).toArray] W fun e w' => e = .returned (.bool (goodI a)) ∧ Below W.heap.size W w') := Lib.hid (igood_any a (by omega))
  have C15 : Hid (∀ W, Calls Try.prog 15 #[.agg (encI a).toArray] W fun e w' => e = .returned (.bool (goodI a)) ∧ Below W.heap.size W w') := Lib.hid (rgoodI_any a (by omega))
  have C16 : Hid (∀ W, Calls Try.prog 16 #[.agg (encI a).toArray] W fun e w' => e = .returned (.int .u64 (endI a : Int)) ∧ Below W.heap.size W w') := Lib.hid (fun W => (end_any a W).mono (by rintro e w' ⟨rfl, rfl⟩; exact ⟨rfl, (Below.refl _ W).alloc (Nat.le_refl _) _⟩))
  have C17 : Hid (∀ W, Calls Try.prog 17 #[.agg (encI a).toArray] W fun e w' => e = .returned (.int .u64 (endI a : Int)) ∧ Below W.heap.size W w') := Lib.hid (fun W => (rend_any a W).mono (by rintro e w' ⟨rfl, rfl⟩; exact ⟨rfl, (Below.refl _ W).alloc (Nat.le_refl _) _⟩))
  have C18 := Lib.hid (alive_any a n)
  have C19 := Lib.hid (ralive_any a n)
  have C20 := Lib.hid (left_anyI a n hn)
  have C21 := Lib.hid (rleft_anyI a n hn)
  have C22 := Lib.hid (over_any a n)
  have C23 := Lib.hid (rover_any a n)
  have C24 := Lib.hid (icmp_any a b)
  have C25 := Lib.hid (rcmp_any a b)
  have C26 := Lib.hid (stone_any a)
  have C27 := Lib.hid (rstone_any a)
  have HLI := Lib.hid lives_any
  have he := fun W => eqIns (stoneI a) (stoneI a) W
  rw [eqI_self] at he
  clear h hW0 h1 h2 hb l2
  generalize bstr a.tgt = S at *
  generalize bstr b.tgt = T at *
  generalize a.tgt.length = la at *
  generalize b.tgt.length = lb at *
  generalize (encI (stoneI a)).toArray = Z at *
  generalize (encI a).toArray = X at *
  generalize (encI b).toArray = Y at *
  generalize errI a = er at *
  generalize goodI a = gd at *
  generalize endI a = en at *
  generalize aliveI a n = al at *
  generalize leftI a n = lf at *
  generalize overI a n = ov at *
  generalize cmpI a b = cm at *
  obtain ⟨R, hR⟩ : ∃ R, R = byI a := ⟨_, rfl⟩
  rw [← hR] at C12 C13
  clear hR
  go_enter Try.func3, Try.ntmps3
  go_upto_region 1 with fail
  rw [← HW0.out]
  go_upto_region 5 with (first
    | ((with_reducible refine wpList_loadV (op := ⟨some 21, _, _, _, _, _⟩) rfl 28 (.tmp 3) rfl _ ?_ _ (H3.out _ (Below.refl _ _)) ?_); rfl)
    | (go_at_call 12; (with_reducible refine (C12.out _ (Below.refl _ _)).mono ?_); rintro e w1 ⟨A1, k1, rfl, hi1, hb1⟩)
    | ((with_reducible refine wpList_loadV (op := ⟨some 26, _, _, _, _, _⟩) rfl 28 (.tmp 3) rfl _ ?_ _ (H3.out _ hb1) ?_); rfl)
    | (go_at_call 13; (with_reducible refine (C13.out _ hb1).mono ?_); rintro e w2 ⟨A2, k2, rfl, hi2, hb2, hb12⟩))
  have hi1' := hi1.below hb12
  have HV1 : Hid (∀ m : Kept w2.heap.size w2, (convert 30 9 (.slice A1 R.length k1)).run Try.prog m.val = .ok (.string (bstr R)) m.val) := Lib.hid (fun m => (hi1'.below m.property).conv)
  have HV2 : Hid (∀ m : Kept w2.heap.size w2, (convert 30 9 (.slice A2 R.length k2)).run Try.prog m.val = .ok (.string (bstr R)) m.val) := Lib.hid (fun m => (hi2.below m.property).conv)
  have HQ3 : Hid (∀ m : Kept w2.heap.size w2, (loadVar 28 ⟨w.heap.size, 0, none⟩).run Try.prog m.val = .ok (.agg X) m.val) := Lib.hid (fun m => H3.out _ (hb2.trans (m.property.mono (by have := hb2.size; have := L2.out; omega))))
  have HBW := Lib.hid hb2
  clear hi1 hi1' hi2 hb1 hb2 hb12 c1 c2 C12 C13 s1 s2 hw hs
  generalize bstr R = BR at *
  generalize R.length = lr at *
  refine wp_region_kept w2.heap.size w2 (Below.refl _ _) (by kernel_rfl) (by kernel_rfl) ?_
  repeat (first
      | (go_big_quiet_want; (with_reducible refine quiet_convV (o := ⟨some 31, _, _, _, _, _⟩) 30 9 (.tmp 30) rfl _ _ ?_ HV1.out ?_); rfl; simp only [Act.put, List.setIfInBounds_toArray, List.set_cons_zero, List.set_cons_succ]; go_big_quiet_on)
      | (go_big_quiet_want; (with_reducible refine quiet_convV (o := ⟨some 33, _, _, _, _, _⟩) 30 9 (.tmp 32) rfl _ _ ?_ HV2.out ?_); rfl; simp only [Act.put, List.setIfInBounds_toArray, List.set_cons_zero, List.set_cons_succ]; go_big_quiet_on)
      | (go_big_quiet_want; (with_reducible refine quiet_loadV 28 (.tmp 3) rfl _ ?_ _ HQ3.out ?_); rfl; simp only [Act.put, List.setIfInBounds_toArray, List.set_cons_zero, List.set_cons_succ]; go_big_quiet_on)
      | go_big_quiet_step (first | (go_at_call 14; with_reducible exact kept_of (Nat.le_refl _) C14.out _) | (go_at_call 15; with_reducible exact kept_of (Nat.le_refl _) C15.out _) | (go_at_call 16; with_reducible exact kept_of (Nat.le_refl _) C16.out _) | (go_at_call 17; with_reducible exact kept_of (Nat.le_refl _) C17.out _) | (go_at_call 18; with_reducible exact kept_of (Nat.le_refl _) C18.out _) | (go_at_call 19; with_reducible exact kept_of (Nat.le_refl _) C19.out _)))
  refine wpQuiet_nil ?_
  rintro wk ⟨⟨_, hwk⟩, rfl⟩
  have hb3 := HBW.out.trans (hwk.mono (by have := HBW.out.size; have := L2.out; omega))
  have HQ5 : Hid (∀ m : Kept wk.heap.size wk, (loadVar 28 ⟨w.heap.size, 0, none⟩).run Try.prog m.val = .ok (.agg X) m.val) := Lib.hid (fun m => H3.out _ (hb3.trans (m.property.mono (by have := hb3.size; have := L2.out; omega))))
  have HQ6 : Hid (∀ m : Kept wk.heap.size wk, (loadVar 28 ⟨w.heap.size + 1, 0, none⟩).run Try.prog m.val = .ok (.agg Y) m.val) := Lib.hid (fun m => H4.out _ (hb3.trans (m.property.mono (by have := hb3.size; have := L2.out; omega))))
  have HB3 := Lib.hid hb3
  clear hb3 hwk HQ3 HV1 HV2 C14 C15 C16 C17 C18 C19
  go_upto_region 7 with fail
  refine wp_region_kept wk.heap.size wk (Below.refl _ _) (by kernel_rfl) (by kernel_rfl) ?_
  repeat (first
      | (go_big_quiet_want; (with_reducible refine quiet_loadV 28 (.tmp 3) rfl _ ?_ _ HQ5.out ?_); rfl; simp only [Act.put, List.setIfInBounds_toArray, List.set_cons_zero, List.set_cons_succ]; go_big_quiet_on)
      | (go_big_quiet_want; (with_reducible refine quiet_loadV 28 (.tmp 4) rfl _ ?_ _ HQ6.out ?_); rfl; simp only [Act.put, List.setIfInBounds_toArray, List.set_cons_zero, List.set_cons_succ]; go_big_quiet_on)
      | go_big_quiet_step (first | (go_at_call 20; with_reducible exact kept_of (Nat.le_refl _) C20.out _) | (go_at_call 21; with_reducible exact kept_of (Nat.le_refl _) C21.out _) | (go_at_call 22; with_reducible exact kept_of (Nat.le_refl _) C22.out _) | (go_at_call 23; with_reducible exact kept_of (Nat.le_refl _) C23.out _) | (go_at_call 24; with_reducible exact kept_of (Nat.le_refl _) C24.out _) | (go_at_call 25; with_reducible exact kept_of (Nat.le_refl _) C25.out _) | (go_at_call 26; with_reducible exact kept_of (Nat.le_refl _) C26.out _) | (go_at_call 27; with_reducible exact kept_of (Nat.le_refl _) C27.out _) | (go_at_call 11; with_reducible exact kept_of (Nat.le_refl _) HLI.out _)))
  refine wpQuiet_nil ?_
  rintro wm ⟨⟨_, hwm⟩, rfl⟩
  go_wp2
  go_ret
  have hb4 := HB3.out.trans (hwm.mono (by have := HB3.out.size; have := L2.out; omega))
  exact ⟨by simp, HB.out.trans (hb4.mono (by omega))⟩
theorem itells_walk (a b : Ins) (n : Nat) (hn : n < 18446744073709551616) (hz : a.tgt.length + b.tgt.length ≤ 4611686018427387904) (w : World) : Calls Try.prog 3 #[.agg (encI a).toArray, .agg (encI b).toArray, .int .u64 (n : Int)] w fun e w' => e = .returned (.bool true) ∧ Below w.heap.size w w' := by
  by_cases h : 3000 < a.tgt.length + b.tgt.length
  · exact itells_big a b n hz h w
  · exact itells_small a b n hn (by omega) w
end Go.Proofs.Ytkceipkgebgigaa
