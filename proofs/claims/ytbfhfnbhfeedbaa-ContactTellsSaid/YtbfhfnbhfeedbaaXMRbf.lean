/- Contracts of the reference's Cmp and Xor. Conditions: an id has 20 bytes. Contract of the reference's Xor. Conditions: an id has 20 bytes. -/
import Derived.Test.YtbfhfnbhfeedbaaXMRbd
section
namespace Go.Proofs.Ytbfhfnbhfeedbaa
set_option maxRecDepth 100000
set_option maxHeartbeats 400000
open Go.RowKit Go.Great

theorem rcmp_any (xs ys : List UInt8) (hx : xs.length = 20) (hy : ys.length = 20) (w : World) :
    Calls Try.prog 98 #[.agg (bcells xs).toArray, .agg (bcells ys).toArray] w fun e w' => e = .returned (.int .i64 (cmpL xs ys)) ∧ Below w.heap.size w w' := by
  obtain ⟨h1, h2, h4⟩ := heap2 w (.cells (bcells xs).toArray 64) (.cells (bcells ys).toArray 64)
  have hP := fun W => rprefix_any xs ys hx hy W
  have hspec := pfxN_spec xs ys (hx.trans hy.symm)
  rw [hx] at hspec
  have hB1 := fun (hk : pfxN xs ys < 160) W => rbit_yes xs hx (pfxN xs ys) hk W
  have hB2 := fun (hk : pfxN xs ys < 160) W => rbit_yes ys hy (pfxN xs ys) hk W
  obtain ⟨W0, hW0⟩ : ∃ W0, W0 = (w.alloc (.cells (bcells xs).toArray 64)).alloc (.cells (bcells ys).toArray 64) := ⟨_, rfl⟩
  rw [← hW0] at h1 h2 h4
  have L1 := kept_load42 hx h1
  have L2 := kept_load42 hy h2
  have HK1 : Hid ((loadVar 64 ⟨w.heap.size, 0, none⟩).run Try.prog ((w.alloc (.cells (bcells xs).toArray 64)).alloc (.cells (bcells ys).toArray 64)) = .ok (.agg (bcells xs).toArray) ((w.alloc (.cells (bcells xs).toArray 64)).alloc (.cells (bcells ys).toArray 64))) := Lib.hid (by rw [← hW0]; exact L1 ⟨W0, Below.refl _ _⟩)
  have HK2 : Hid ((loadVar 64 ⟨w.heap.size + 1, 0, none⟩).run Try.prog ((w.alloc (.cells (bcells xs).toArray 64)).alloc (.cells (bcells ys).toArray 64)) = .ok (.agg (bcells ys).toArray) ((w.alloc (.cells (bcells xs).toArray 64)).alloc (.cells (bcells ys).toArray 64))) := Lib.hid (by rw [← hW0]; exact L2 ⟨W0, Below.refl _ _⟩)
  have HW := Lib.hid hW0
  have HBL := Lib.hid h4
  have HL1 := Lib.hid L1
  have HL2 := Lib.hid L2
  have HP := Lib.hid hP
  generalize (bcells xs).toArray = X at HK1 HK2 HW HL1 HP hB1 ⊢
  generalize (bcells ys).toArray = Y at HK1 HK2 HW HL2 HP hB2 ⊢
  clear h1 h2 h4 hP hW0 L1 L2
  by_cases he : xs = ys
  · have hp : pfxN xs ys = 160 := hspec.2.2.2 he
    have hc : cmpL xs ys = 0 := by unfold cmpL; rw [if_pos he]
    rw [hc]
    rw [hp] at HP
    clear hspec hB1 hB2 hx hy he hp hc
    go_enter Try.func98, Try.ntmps98
    go_wp2_with (first
      | (go_at_call 110; refine (HP.out _).mono ?_; rintro e w2 ⟨rfl, hb2⟩)
      | ((with_reducible refine wpList_loadV (op := ⟨some 6, _, _, _, _, _⟩) rfl 64 (.tmp 2) rfl _ ?_ _ HK1.out ?_); rfl)
      | ((with_reducible refine wpList_loadV (op := ⟨some 7, _, _, _, _, _⟩) rfl 64 (.tmp 3) rfl _ ?_ _ HK2.out ?_); rfl))
    go_ret
    rw [← HW.out] at hb2
    exact ⟨rfl, HBL.out.trans (hb2.mono HBL.out.size)⟩
  · obtain ⟨hp, hne⟩ := hspec.2.2.1 he
    have B1 := hB1 (by omega)
    have B2 := hB2 (by omega)
    have hc : cmpL xs ys = if bitL xs (pfxN xs ys) then 1 else -1 := by unfold cmpL; rw [if_neg he]
    have e2 : bitL ys (pfxN xs ys) = !bitL xs (pfxN xs ys) := by cases h1 : bitL xs (pfxN xs ys) <;> cases h2 : bitL ys (pfxN xs ys) <;> simp_all
    rw [e2] at B2
    rw [hc]
    generalize bitL xs (pfxN xs ys) = bt at B1 B2 ⊢
    generalize pfxN xs ys = p at HP hp B1 B2
    have np : ¬ (p : Int) = 160 := by omega
    have np2 : ¬ p = 160 := by omega
    have C1 := Lib.hid B1
    have C2 := Lib.hid B2
    clear hspec hB1 hB2 B1 B2 hx hy he hp hc hne e2
    cases bt
    all_goals
      simp only [Bool.not_false, Bool.not_true, Bool.false_eq_true, if_false, if_true] at C1 C2 ⊢
      go_enter Try.func98, Try.ntmps98
      go_upto_region 4 with (first
        | (go_at_call 110; refine (HP.out _).mono ?_; rintro e w2 ⟨rfl, hb2⟩)
        | ((with_reducible refine wpList_loadV (op := ⟨some 6, _, _, _, _, _⟩) rfl 64 (.tmp 2) rfl _ ?_ _ HK1.out ?_); rfl)
        | ((with_reducible refine wpList_loadV (op := ⟨some 7, _, _, _, _, _⟩) rfl 64 (.tmp 3) rfl _ ?_ _ HK2.out ?_); rfl))
      rw [← HW.out] at hb2
      refine wp_region_kept W0.heap.size W0 hb2 (by kernel_rfl) (by kernel_rfl) ?_
      repeat (first
        | (go_big_quiet_want; (with_reducible refine quiet_loadV 64 (.tmp 2) rfl _ ?_ _ HL1.out ?_); rfl; simp only [Act.put, List.setIfInBounds_toArray, List.set_cons_zero, List.set_cons_succ]; go_big_quiet_on)
        | (go_big_quiet_want; (with_reducible refine quiet_loadV 64 (.tmp 3) rfl _ ?_ _ HL2.out ?_); rfl; simp only [Act.put, List.setIfInBounds_toArray, List.set_cons_zero, List.set_cons_succ]; go_big_quiet_on)
        | go_big_quiet_step (first | (go_at_call 111; with_reducible exact kept_of (Nat.le_refl _) C1.out _) | (go_at_call 111; with_reducible exact kept_of (Nat.le_refl _) C2.out _)))
      refine wpQuiet_nil ?_
      rintro _ ⟨⟨wk, hwk⟩, rfl⟩
      go_wp2
      go_ret
      exact ⟨rfl, HBL.out.trans (hwk.mono HBL.out.size)⟩

def RXorRel (w : World) (xs ys : List UInt8) (i : Value) (wr : World) : Prop :=
  ∃ j : Nat, j ≤ 160 ∧ i = .int .i64 (j : Int) ∧ wr.heap[w.heap.size]? = some (.cells (bcells xs).toArray 64 (0, 0)) ∧ wr.heap[w.heap.size + 1]? = some (.cells (bcells ys).toArray 64 (0, 0)) ∧ wr.heap[w.heap.size + 1 + 1]? = some (.cells (bcells (List.replicate 20 0)).toArray 64 (0, 0)) ∧ wr.heap[w.heap.size + 1 + 1 + 1]? = some (.cells (bcells (xorR xs ys j)).toArray 64 (0, 0)) ∧ Below w.heap.size w wr
theorem heap4 (w : World) (a b x y : Obj) :
    ((((w.alloc a).alloc b).alloc x).alloc y).heap[w.heap.size]? = some a ∧ ((((w.alloc a).alloc b).alloc x).alloc y).heap[w.heap.size + 1]? = some b ∧ ((((w.alloc a).alloc b).alloc x).alloc y).heap[w.heap.size + 1 + 1]? = some x ∧ ((((w.alloc a).alloc b).alloc x).alloc y).heap[w.heap.size + 1 + 1 + 1]? = some y ∧ Below w.heap.size w ((((w.alloc a).alloc b).alloc x).alloc y) := by
  refine ⟨?_, ?_, ?_, ?_, (((((Below.refl _ w).alloc (Nat.le_refl _) _).alloc (by simp) _).alloc (by simp; omega) _).alloc (by simp; omega) _)⟩
  all_goals
    show ((((w.heap.push a).push b).push x).push y)[_]? = _
    simp only [Array.getElem?_push, Array.size_push]
    repeat (first | rw [if_pos trivial] | rw [if_pos (by omega)] | rw [if_neg (by omega)])
end Go.Proofs.Ytbfhfnbhfeedbaa
end
section
namespace Go.Proofs.Ytbfhfnbhfeedbaa
set_option maxRecDepth 100000
set_option maxHeartbeats 400000
open Go.RowKit Go.Great

theorem rxor_any (xs ys : List UInt8) (hx : xs.length = 20) (hy : ys.length = 20) (w : World) :
    Calls Try.prog 99 #[.agg (bcells xs).toArray, .agg (bcells ys).toArray] w fun e w' => e = .returned (.agg (bcells (xorL xs ys)).toArray) ∧ Below w.heap.size w w' := by
  obtain ⟨h1, h2, h3, h5, h4⟩ := heap4 w (.cells (bcells xs).toArray 64) (.cells (bcells ys).toArray 64) (.cells (bcells (List.replicate 20 0)).toArray 64) (.cells (bcells (List.replicate 20 0)).toArray 64)
  have HR0 : Hid (RXorRel w xs ys (.int .i64 0) ((((w.alloc (.cells (bcells xs).toArray 64)).alloc (.cells (bcells ys).toArray 64)).alloc (.cells (bcells (List.replicate 20 0)).toArray 64)).alloc (.cells (bcells (List.replicate 20 0)).toArray 64))) := Lib.hid ⟨0, by omega, rfl, h1, h2, h3, h5, h4⟩
  have HX := Lib.hid (And.intro hx hy)
  have HB1 := Lib.hid (fun (k : Nat) (hk : k < 160) W => rbit_yes xs hx k hk W)
  have HB2 := Lib.hid (fun (k : Nat) (hk : k < 160) W => rbit_yes ys hy k hk W)
  have hz := fun W => zero42 W
  clear h1 h2 h3 h4 h5 hx hy
  obtain ⟨X, hX⟩ : ∃ X, X = (bcells xs).toArray := ⟨_, rfl⟩
  obtain ⟨Y, hY⟩ : ∃ Y, Y = (bcells ys).toArray := ⟨_, rfl⟩
  obtain ⟨Z, hZ⟩ : ∃ Z, Z = (bcells (List.replicate 20 0)).toArray := ⟨_, rfl⟩
  rw [← hZ] at hz
  simp only [← hX] at HB1
  simp only [← hY] at HB2
  rw [← hX, ← hY, ← hZ] at HR0
  rw [← hX, ← hY]
  have HXY := Lib.hid (And.intro hX hY)
  clear hX hY hZ
  go_enter Try.func99, Try.ntmps99
  go_wp2
  clear hz
  go_loopw [6] (RXorRel w xs ys) (fun i _ => 160 - (intOf i).toNat)
  case atStart => exact HR0.out
  case round =>
    obtain ⟨j, hj, rfl, hq, hr, ho, hp, hb⟩ := hrel
    clear HR0
    obtain ⟨hx, hy⟩ := HX.out
    obtain ⟨eX, eY⟩ := HXY.out
    have HBB := Lib.hid hb
    by_cases hlt : j < 160
    · have L1 := kept_load42 hx hq
      have L2 := kept_load42 hy hr
      rw [← eX] at L1
      rw [← eY] at L2
      have HL1 := Lib.hid L1
      have HL2 := Lib.hid L2
      have hlt' : (j : Int) < 160 := by omega
      have B1 := HB1.out j hlt
      have B2 := HB2.out j hlt
      have l3 := (Array.getElem?_eq_some_iff.1 hp).1
      have HKEEP : Hid (∀ wk, Below wr.heap.size wr wk → wk.heap[w.heap.size]? = some (.cells (bcells xs).toArray 64 (0, 0)) ∧ wk.heap[w.heap.size + 1]? = some (.cells (bcells ys).toArray 64 (0, 0)) ∧ wk.heap[w.heap.size + 1 + 1]? = some (.cells (bcells (List.replicate 20 0)).toArray 64 (0, 0)) ∧ wk.heap[w.heap.size + 1 + 1 + 1]? = some (.cells (bcells (xorR xs ys j)).toArray 64 (0, 0)) ∧ Below w.heap.size w wk) := Lib.hid (fun wk hwk =>
        ⟨(hwk.block _ (by omega)).trans hq, (hwk.block _ (by omega)).trans hr, (hwk.block _ (by omega)).trans ho, (hwk.block _ l3).trans hp, hb.trans (hwk.mono hb.size)⟩)
      by_cases he : bitL xs j = bitL ys j
      · have hxr : xorR xs ys (j + 1) = xorR xs ys j := by rw [xorR, if_pos he]
        have HR : Hid (∀ wk, Below wr.heap.size wr wk → RXorRel w xs ys (.int .i64 ((j : Int) + 1)) wk) := Lib.hid (fun wk hwk => by
          obtain ⟨k1, k2, k3, k4, k5⟩ := HKEEP.out wk hwk
          exact ⟨j + 1, by omega, by go_num, k1, k2, k3, by rw [hxr]; exact k4, k5⟩)
        rw [← he] at B2
        generalize bitL xs j = bt at B1 B2
        have C1 := Lib.hid B1
        have C2 := Lib.hid B2
        clear B1 B2 hq hr ho hp hb he L1 L2 hx hy eX eY HB1 HB2 HX HXY HKEEP hxr l3
        cases bt
        all_goals
          simp only [Bool.false_eq_true, if_false, if_true] at C1 C2
          go_upto_region 5 with fail
          refine wp_region_kept wr.heap.size wr (Below.refl _ _) (by kernel_rfl) (by kernel_rfl) ?_
          repeat (first
            | (go_big_quiet_want; (with_reducible refine quiet_loadV 64 (.tmp 2) rfl _ ?_ _ HL1.out ?_); rfl; simp only [Act.put, List.setIfInBounds_toArray, List.set_cons_zero, List.set_cons_succ]; go_big_quiet_on)
            | (go_big_quiet_want; (with_reducible refine quiet_loadV 64 (.tmp 3) rfl _ ?_ _ HL2.out ?_); rfl; simp only [Act.put, List.setIfInBounds_toArray, List.set_cons_zero, List.set_cons_succ]; go_big_quiet_on)
            | go_big_quiet_step (first | (go_at_call 111; with_reducible exact kept_of (Nat.le_refl _) C1.out _) | (go_at_call 111; with_reducible exact kept_of (Nat.le_refl _) C2.out _)))
          refine wpQuiet_nil ?_
          rintro wk ⟨⟨_, hwk⟩, rfl⟩
          have HWK := Lib.hid hwk
          clear hwk
          go_wp2
          go_roundw
          case rel => exact HR.out _ HWK.out
          case measure => simp [intOf]; omega
      · have hxr : xorR xs ys (j + 1) = withL (xorR xs ys j) j true := by rw [xorR, if_neg he]
        have hlo : (xorR xs ys j).length = 20 := xorR_length _ _ _
        have hW : withI (xorR xs ys j) (j : Int) 1 = xorR xs ys (j + 1) := by
          unfold withI
          rw [if_pos (by omega), hxr]
          rfl
        have hwith := fun W => rwith_any (xorR xs ys j) hlo (j : Int) 1 W
        rw [hW] at hwith
        have hlo' : (xorR xs ys (j + 1)).length = 20 := xorR_length _ _ _
        have HR : Hid (∀ wk w3, Below wr.heap.size wr wk → Below wk.heap.size wk w3 → (loadVar 64 ⟨w.heap.size + 1 + 1 + 1, 0, none⟩).run Try.prog wk = .ok (.agg (bcells (xorR xs ys j)).toArray) wk ∧ w3.heap[w.heap.size + 1 + 1 + 1]? = some (.cells (bcells (xorR xs ys j)).toArray 64 (0, 0)) ∧ RXorRel w xs ys (.int .i64 ((j : Int) + 1)) (w3.setRow (w.heap.size + 1 + 1 + 1) (bcells (xorR xs ys (j + 1))).toArray)) := Lib.hid (fun wk w3 hwk hw3 => by
          obtain ⟨k1, k2, k3, k4, k5⟩ := HKEEP.out wk hwk
          obtain ⟨m1, m2, m3, m4, m5⟩ := HKEEP.out w3 (hwk.trans (hw3.mono hwk.size))
          refine ⟨load42 hlo k4, m4, j + 1, by omega, by go_num, ?_, ?_, ?_, setRow_heap _ _ _ _ 64 (0, 0) m4, below_setRow m5 (by omega) _⟩
          · rw [setRow_other _ _ _ _ (by omega)]; exact m1
          · rw [setRow_other _ _ _ _ (by omega)]; exact m2
          · rw [setRow_other _ _ _ _ (by omega)]; exact m3)
        have T1 : Hid ((Try.prog.info? 64).map (·.size) = some (bcells (xorR xs ys (j + 1))).toArray.size) := Lib.hid (by rw [List.size_toArray, bcells_length, hlo']; exact size42)
        have T2 : Hid ((bcells (xorR xs ys j)).toArray.size = (bcells (xorR xs ys (j + 1))).toArray.size) := Lib.hid (by rw [List.size_toArray, List.size_toArray, bcells_length, bcells_length, hlo, hlo'])
        have T3 : Hid ((bcells (xorR xs ys (j + 1))).toArray.all (·.oneCell') = true) := Lib.hid (all_oneCell_toArray (bcells_one _))
        have HWI := Lib.hid hwith
        generalize (bcells (xorR xs ys (j + 1))).toArray = N at HR T1 T2 T3 HWI
        generalize (bcells (xorR xs ys j)).toArray = O at HR T2 HWI
        have e2 : bitL ys j = !bitL xs j := by cases h1 : bitL xs j <;> cases h2 : bitL ys j <;> simp_all
        rw [e2] at B2
        generalize bitL xs j = bt at B1 B2
        have C1 := Lib.hid B1
        have C2 := Lib.hid B2
        clear B1 B2 hq hr ho hp hb he L1 L2 hx hy eX eY HB1 HB2 HX HXY HKEEP hxr l3 e2 hlo hlo' hW hwith
        cases bt
        all_goals
          simp only [Bool.not_false, Bool.not_true, Bool.false_eq_true, if_false, if_true] at C1 C2
          go_upto_region 5 with fail
          refine wp_region_kept wr.heap.size wr (Below.refl _ _) (by kernel_rfl) (by kernel_rfl) ?_
          repeat (first
            | (go_big_quiet_want; (with_reducible refine quiet_loadV 64 (.tmp 2) rfl _ ?_ _ HL1.out ?_); rfl; simp only [Act.put, List.setIfInBounds_toArray, List.set_cons_zero, List.set_cons_succ]; go_big_quiet_on)
            | (go_big_quiet_want; (with_reducible refine quiet_loadV 64 (.tmp 3) rfl _ ?_ _ HL2.out ?_); rfl; simp only [Act.put, List.setIfInBounds_toArray, List.set_cons_zero, List.set_cons_succ]; go_big_quiet_on)
            | go_big_quiet_step (first | (go_at_call 111; with_reducible exact kept_of (Nat.le_refl _) C1.out _) | (go_at_call 111; with_reducible exact kept_of (Nat.le_refl _) C2.out _)))
          refine wpQuiet_nil ?_
          rintro wk ⟨⟨_, hwk⟩, rfl⟩
          have HWK := Lib.hid hwk
          clear hwk
          have HLK := Lib.hid (HR.out wk wk HWK.out (Below.refl _ _)).1
          go_wp2_with (first
            | (go_at_call 112; refine (HWI.out _).mono ?_; rintro e w3 ⟨rfl, hb3⟩; have HB3 := Lib.hid hb3; have HST := Lib.hid (HR.out wk w3 HWK.out hb3).2.1; clear hb3)
            | ((with_reducible refine wpList_loadV (op := ⟨some 18, _, _, _, _, _⟩) rfl 64 (.tmp 5) rfl _ ?_ _ HLK.out ?_); rfl)
            | ((with_reducible refine wpList_store_row rfl 64 (.tmp 5) (.tmp 20) rfl (w.heap.size + 1 + 1 + 1) N ?_ ?_ 64 O HST.out T1.out T2.out T3.out ?_); rfl; rfl))
          go_roundw
          case rel => exact (HR.out wk w3 HWK.out HB3.out).2.2
          case measure => simp [intOf]; omega
    · obtain rfl : j = 160 := by omega
      rw [xorR_full xs ys hx hy] at hp
      have hE := idEnd2 (zs := List.replicate 20 0) (xor_len hx hy) (by simp) hp ho
      obtain ⟨L, hL⟩ : ∃ L, L = bcells (xorL xs ys) := ⟨_, rfl⟩
      rw [← hL] at hE
      have HE := Lib.hid hE
      have HL := Lib.hid hL
      clear hq hr ho hp hb hlt hj hx hy eX eY HB1 HB2 HX HXY hE hL
      go_wp2_with ((with_reducible refine wpList_load_mid (op := ⟨some 21, _, _, _, _, _⟩) rfl 64 (.tmp 5) rfl (w.heap.size + 1 + 1 + 1) 0 ?_ L _ HE.out.q1 Try.underlying64 rfl HE.out.hj ?_); rfl; refine wpList_store_mid rfl 64 (.tmp 4) (.tmp 21) rfl (w.heap.size + 1 + 1) 0 L.toArray rfl rfl HE.out.ht HE.out.hi HE.out.hc ?_)
      refine bodyPost_ret (v := .agg L.toArray) ?_ rfl ?_
      · exact results_cell1 (p := 4) (ty := 64) rfl _ _ (w.heap.size + 1 + 1) 0 L _ rfl (by simpa using HE.out.hs) Try.underlying64 rfl HE.out.hj
      · exact ⟨by rw [← HL.out], by simpa using below_cells (by omega) L 0 _ HBB.out⟩
end Go.Proofs.Ytbfhfnbhfeedbaa
end
