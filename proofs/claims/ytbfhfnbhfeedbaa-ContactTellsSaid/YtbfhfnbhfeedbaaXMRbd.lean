/- Contract of the reference's With. Conditions: an id has 20 bytes. Contracts of the reference's Prefix and Cmp. Conditions: an id has 20 bytes. -/
import Derived.Test.YtbfhfnbhfeedbaaXMRbb
section
namespace Go.Proofs.Ytbfhfnbhfeedbaa
set_option maxRecDepth 100000
set_option maxHeartbeats 400000
open Go.RowKit Go.Great

theorem rwith_turn (xs : List UInt8) (hx : xs.length = 20) (j : Nat) (hj : j < 160) (bit : Int) (hne : bitL xs j ≠ decide (bit ≠ 0)) (w : World) :
    Calls Try.prog 112 #[.agg (bcells xs).toArray, .int .i64 (j : Int), .int .i64 bit] w fun e w' => e = .returned (.agg (bcells (withL xs j (decide (bit ≠ 0)))).toArray) ∧ Below w.heap.size w w' := by
  obtain ⟨Z, hZ⟩ : ∃ Z, Z = (bcells (List.replicate 20 0)).toArray := ⟨_, rfl⟩
  have hz := fun W => zero42 W
  rw [← hZ] at hz
  have hBt := fun W => rbit_any xs hx (j : Int) W
  obtain ⟨q, hq⟩ : ∃ q, j / 8 = q := ⟨_, rfl⟩
  have hq2 : q < 20 := by omega
  obtain ⟨h1, h2, h4⟩ := heap2 w (.cells (bcells xs).toArray 64) (.cells Z 64)
  have hk : (loadVar 64 ⟨w.heap.size, 0, none⟩).run Try.prog ((w.alloc (.cells (bcells xs).toArray 64)).alloc (.cells Z 64)) = .ok (.agg (bcells xs).toArray) ((w.alloc (.cells (bcells xs).toArray 64)).alloc (.cells Z 64)) := load42 hx h1
  have HK := Lib.hid hk
  obtain ⟨v, hv⟩ : ∃ v : UInt8, v = xs.getD q 0 ^^^ UInt8.ofNat (2 ^ (7 - j % 8)) := ⟨_, rfl⟩
  obtain ⟨M, hM⟩ : ∃ M : Int, ((2 ^ (7 - j % 8) : Nat) : Int) = M := ⟨_, rfl⟩
  have hM2 : (2 : Int) ^ (7 - j % 8) % 256 = M := (pow_mask j).trans hM
  have hxr : bits .xor .u8 ((xs.getD q 0).toNat : Int) M = (v.toNat : Int) := by
    have hp : (2 : Nat) ^ (7 - j % 8) < 256 := by
      have : (2 : Nat) ^ (7 - j % 8) ≤ 2 ^ 7 := Nat.pow_le_pow_right (by omega) (by omega)
      omega
    rw [← hM, u8_xor_nat _ _ (UInt8.toNat_lt _) hp, hv, UInt8.toNat_xor, two_pow8 ⟨7 - j % 8, by omega⟩]
  have hw : withL xs j (decide (bit ≠ 0)) = xs.set q v := by
    unfold withL withB
    rw [hq, if_neg (by unfold bitL at hne; rw [hq] at hne; exact hne), ← hv]
  have hbit : bitI xs (j : Int) = if bit = 0 then 1 else 0 := by
    rw [bitI_nat xs j hj]
    by_cases hb : bit = 0
    · have : bitL xs j = true := by simpa [hb] using hne
      rw [this, if_pos hb]
      rfl
    · have : bitL xs j = false := by simpa [hb] using hne
      rw [this, if_neg hb]
      rfl
  have hend : ∀ W2, Below (w.heap.size + 2) ((w.alloc (.cells (bcells xs).toArray 64)).alloc (.cells Z 64)) W2 →
      W2.cell? ⟨w.heap.size, q, none⟩ = some (.int .u8 ((xs.getD q 0).toNat : Int)) ∧ W2.frozen? ⟨w.heap.size, q, none⟩ = false ∧
      IdEnd2 (W2.setCell ⟨w.heap.size, q, none⟩ (.int .u8 (v.toNat : Int))) w.heap.size (w.heap.size + 1) (bcells (xs.set q v)) ∧ Below w.heap.size w (W2.setCell ⟨w.heap.size, q, none⟩ (.int .u8 (v.toNat : Int))) := fun W2 hb => by
    have r1 : W2.heap[w.heap.size]? = some (.cells (bcells xs).toArray 64 (0, 0)) := by rw [hb.block _ (by omega), h1]
    have r2 : W2.heap[w.heap.size + 1]? = some (.cells Z 64 (0, 0)) := by rw [hb.block _ (by omega), h2]
    refine ⟨row_byte r1 q (by omega), frozen_of_row _ w.heap.size q _ 64 r1, idEnd2 (t := 64) (t' := 64) (zs := List.replicate 20 0) (by simp [hx]) (by simp) ?_ ?_, (h4.trans (hb.mono (by omega))).setCell (p := ⟨w.heap.size, q, none⟩) (Nat.le_refl _) _⟩
    · have := heap_setCell_same W2 w.heap.size q _ 64 (.int .u8 (v.toNat : Int)) r1
      rw [bcells_set] at this
      exact this
    · rw [Below.heap_setCell _ _ _ _ (by simp), r2, hZ]
  have HEND := Lib.hid hend
  have hs0 : ((w.alloc (.cells (bcells xs).toArray 64)).alloc (.cells Z 64)).heap.size = w.heap.size + 2 := by simp
  have HS0 := Lib.hid hs0
  have hd : (j : Int) / 8 = (q : Int) := by omega
  have hwq : IntKind.i64.wrap (q : Int) = (q : Int) := by rw [IntKind.wrap_i64]; omega
  have hq3 : (q : Int) < 20 := by omega
  have n0 : ¬ (j : Int) < 0 := by omega
  have n1 : ¬ (160 : Int) ≤ (j : Int) := by omega
  rw [hbit] at hBt
  have HBT := Lib.hid hBt
  rw [hw]
  generalize bcells (xs.set q v) = L at HEND ⊢
  generalize bcells xs = X at HEND HK HBT HS0 ⊢
  generalize (xs.getD q 0).toNat = b at hxr HEND
  clear hZ hBt h1 h2 h4 hk hend hs0 hne hbit hw hv hM hq hx hj
  by_cases hb : bit = 0
  all_goals
    first | rw [if_pos hb] at HBT | rw [if_neg hb] at HBT
    try subst hb
    go_enter Try.func112, Try.ntmps112
    go_wp2_with (first
      | (go_at_call 111; refine (HBT.out _).mono ?_; rintro e w2 ⟨rfl, hb2⟩; rw [HS0.out] at hb2; obtain ⟨hc, hf, E, hB⟩ := HEND.out w2 hb2; have HE := Lib.hid E; have HB := Lib.hid hB; clear E hB hb2)
      | ((with_reducible refine wpList_loadG (op := ⟨some 17, _, _, _, _, _⟩) ?_ 64 (.tmp 3) rfl _ ?_ _ HK.out ?_); rfl; rfl)
      | ((with_reducible refine wpList_load_mid (op := ⟨some 37, _, _, _, _, _⟩) rfl 64 (.tmp 3) rfl w.heap.size 0 ?_ L _ HE.out.q1 Try.underlying64 rfl HE.out.hj ?_); rfl; refine wpList_store_mid rfl 64 (.tmp 6) (.tmp 37) rfl (w.heap.size + 1) 0 L.toArray rfl rfl HE.out.ht HE.out.hi HE.out.hc ?_))
    refine bodyPost_ret (v := .agg L.toArray) ?_ rfl ?_
    · exact results_cell1 (p := 6) (ty := 64) rfl _ _ (w.heap.size + 1) 0 L _ rfl (by simpa using HE.out.hs) Try.underlying64 rfl HE.out.hj
    · exact ⟨rfl, by simpa using below_cells (by omega) L 0 _ HB.out⟩
theorem rwith_any (xs : List UInt8) (hx : xs.length = 20) (i bit : Int) (w : World) :
    Calls Try.prog 112 #[.agg (bcells xs).toArray, .int .i64 i, .int .i64 bit] w fun e w' => e = .returned (.agg (bcells (withI xs i bit)).toArray) ∧ Below w.heap.size w w' := by
  unfold withI
  by_cases h : 0 ≤ i ∧ i < 160
  · rw [if_pos h]
    obtain ⟨j, rfl⟩ : ∃ j : Nat, i = j := ⟨i.toNat, by omega⟩
    have e : ((j : Int)).toNat = j := by omega
    rw [e]
    by_cases hs : bitL xs j = decide (bit ≠ 0)
    · rw [withL_same _ _ _ hs]
      refine rwith_same xs hx (j : Int) bit (.inr ?_) w
      rw [bitI_nat xs j (by omega), hs]
      by_cases hb : bit = 0 <;> simp [hb]
    · exact rwith_turn xs hx j (by omega) bit hs w
  · rw [if_neg h]
    exact rwith_same xs hx i bit (.inl h) w
end Go.Proofs.Ytbfhfnbhfeedbaa
end
section
namespace Go.Proofs.Ytbfhfnbhfeedbaa
set_option maxRecDepth 100000
set_option maxHeartbeats 400000
open Go.RowKit Go.Great

theorem kept_load42 {g : Nat} {W : World} {xs : List UInt8} {ty : TypeId} (hx : xs.length = 20) (h : W.heap[g]? = some (.cells (bcells xs).toArray ty (0, 0))) : ∀ n : Kept W.heap.size W, (loadVar 64 ⟨g, 0, none⟩).run Try.prog n.val = .ok (.agg (bcells xs).toArray) n.val :=
  fun n => load42 hx (kept_row h (Array.getElem?_eq_some_iff.1 h).1 n)
def RPfxRel (w : World) (xs ys : List UInt8) (i : Value) (wr : World) : Prop :=
  ∃ j : Nat, j ≤ 160 ∧ i = .int .i64 (j : Int) ∧ (∀ k, k < j → bitL xs k = bitL ys k) ∧ wr.heap[w.heap.size]? = some (.cells (bcells xs).toArray 64 (0, 0)) ∧ wr.heap[w.heap.size + 1]? = some (.cells (bcells ys).toArray 64 (0, 0)) ∧ Below w.heap.size w wr

theorem rprefix_any (xs ys : List UInt8) (hx : xs.length = 20) (hy : ys.length = 20) (w : World) :
    Calls Try.prog 110 #[.agg (bcells xs).toArray, .agg (bcells ys).toArray] w fun e w' => e = .returned (.int .i64 (pfxN xs ys : Int)) ∧ Below w.heap.size w w' := by
  obtain ⟨h1, h2, h4⟩ := heap2 w (.cells (bcells xs).toArray 64) (.cells (bcells ys).toArray 64)
  have HR0 : Hid (RPfxRel w xs ys (.int .i64 0) ((w.alloc (.cells (bcells xs).toArray 64)).alloc (.cells (bcells ys).toArray 64))) := Lib.hid ⟨0, by omega, rfl, fun k hk => by omega, h1, h2, h4⟩
  have HX := Lib.hid (And.intro hx hy)
  have HB1 := Lib.hid (fun (k : Nat) (hk : k < 160) W => rbit_yes xs hx k hk W)
  have HB2 := Lib.hid (fun (k : Nat) (hk : k < 160) W => rbit_yes ys hy k hk W)
  clear h1 h2 h4 hx hy
  obtain ⟨X, hX⟩ : ∃ X, X = (bcells xs).toArray := ⟨_, rfl⟩
  obtain ⟨Y, hY⟩ : ∃ Y, Y = (bcells ys).toArray := ⟨_, rfl⟩
  simp only [← hX] at HB1
  simp only [← hY] at HB2
  rw [← hX, ← hY] at HR0 ⊢
  have HXY := Lib.hid (And.intro hX hY)
  clear hX hY
  go_enter Try.func110, Try.ntmps110
  go_wp2
  go_loopw [5] (RPfxRel w xs ys) (fun i _ => 160 - (intOf i).toNat)
  case atStart => exact HR0.out
  case round =>
    obtain ⟨j, hj, rfl, hk, hq, hr, hb⟩ := hrel
    clear HR0
    obtain ⟨hx, hy⟩ := HX.out
    obtain ⟨eX, eY⟩ := HXY.out
    have L1 := kept_load42 hx hq
    have L2 := kept_load42 hy hr
    rw [← eX] at L1
    rw [← eY] at L2
    have HL1 := Lib.hid L1
    have HL2 := Lib.hid L2
    have HBB := Lib.hid hb
    by_cases hlt : j < 160
    · have hlt' : (j : Int) < 160 := by omega
      have B1 := HB1.out j hlt
      have B2 := HB2.out j hlt
      by_cases he : bitL xs j = bitL ys j
      · rw [← he] at B2
        have HR : Hid (∀ wk, Below wr.heap.size wr wk → RPfxRel w xs ys (.int .i64 ((j : Int) + 1)) wk) := Lib.hid (fun wk hwk => by
          have l2 := (Array.getElem?_eq_some_iff.1 hr).1
          refine ⟨j + 1, by omega, by go_num, fun k hkj => ?_, (hwk.block _ (by omega)).trans hq, (hwk.block _ l2).trans hr, hb.trans (hwk.mono hb.size)⟩
          by_cases hkj' : k = j
          · rw [hkj']
            exact he
          · exact hk k (by omega))
        generalize bitL xs j = bt at B1 B2
        have C1 := Lib.hid B1
        have C2 := Lib.hid B2
        clear B1 B2 hq hr hb hk he L1 L2 hx hy eX eY HB1 HB2 HX HXY
        cases bt
        all_goals
          simp only [Bool.false_eq_true, if_false, if_true] at C1 C2
          go_upto_region 2 with fail
          refine wp_region_kept wr.heap.size wr (Below.refl _ _) (by kernel_rfl) (by kernel_rfl) ?_
          repeat (first
            | (go_big_quiet_want; (with_reducible refine quiet_loadV 64 (.tmp 2) rfl _ ?_ _ HL1.out ?_); rfl; simp only [Act.put, List.setIfInBounds_toArray, List.set_cons_zero, List.set_cons_succ]; go_big_quiet_on)
            | (go_big_quiet_want; (with_reducible refine quiet_loadV 64 (.tmp 3) rfl _ ?_ _ HL2.out ?_); rfl; simp only [Act.put, List.setIfInBounds_toArray, List.set_cons_zero, List.set_cons_succ]; go_big_quiet_on)
            | go_big_quiet_step (first | (go_at_call 111; with_reducible exact kept_of (Nat.le_refl _) C1.out _) | (go_at_call 111; with_reducible exact kept_of (Nat.le_refl _) C2.out _)))
          refine wpQuiet_nil ?_
          rintro _ ⟨⟨wk, hwk⟩, rfl⟩
          have HWK := Lib.hid hwk
          clear hwk
          go_wp2
          go_roundw
          case rel => exact HR.out _ HWK.out
          case measure => simp [intOf]; omega
      · have hp : pfxN xs ys = j := pfxN_unique (hx.trans hy.symm) j (by omega) hk (fun _ => he)
        have e2 : bitL ys j = !bitL xs j := by cases h1 : bitL xs j <;> cases h2 : bitL ys j <;> simp_all
        rw [e2] at B2
        have HP := Lib.hid hp
        generalize bitL xs j = bt at B1 B2
        have C1 := Lib.hid B1
        have C2 := Lib.hid B2
        clear B1 B2 hq hr hb hk he L1 L2 hx hy eX eY HB1 HB2 HX HXY hp e2
        cases bt
        all_goals
          simp only [Bool.not_false, Bool.not_true, Bool.false_eq_true, if_false, if_true] at C1 C2
          go_upto_region 2 with fail
          refine wp_region_kept wr.heap.size wr (Below.refl _ _) (by kernel_rfl) (by kernel_rfl) ?_
          repeat (first
            | (go_big_quiet_want; (with_reducible refine quiet_loadV 64 (.tmp 2) rfl _ ?_ _ HL1.out ?_); rfl; simp only [Act.put, List.setIfInBounds_toArray, List.set_cons_zero, List.set_cons_succ]; go_big_quiet_on)
            | (go_big_quiet_want; (with_reducible refine quiet_loadV 64 (.tmp 3) rfl _ ?_ _ HL2.out ?_); rfl; simp only [Act.put, List.setIfInBounds_toArray, List.set_cons_zero, List.set_cons_succ]; go_big_quiet_on)
            | go_big_quiet_step (first | (go_at_call 111; with_reducible exact kept_of (Nat.le_refl _) C1.out _) | (go_at_call 111; with_reducible exact kept_of (Nat.le_refl _) C2.out _)))
          refine wpQuiet_nil ?_
          rintro _ ⟨⟨wk, hwk⟩, rfl⟩
          have HWK := Lib.hid hwk
          clear hwk
          go_wp2
          go_ret
          exact ⟨by rw [HP.out]; rfl, HBB.out.trans (HWK.out.mono HBB.out.size)⟩
    · obtain rfl : j = 160 := by omega
      have hp : pfxN xs ys = 160 := pfxN_unique (hx.trans hy.symm) 160 (by omega) hk (fun h => by rw [hx] at h; omega)
      have HP := Lib.hid hp
      clear hq hr hb hk L1 L2 hx hy eX eY HB1 HB2 HX HXY hp hlt hj
      go_upto_region 2 with fail
      refine wp_region_kept wr.heap.size wr (Below.refl _ _) (by kernel_rfl) (by kernel_rfl) ?_
      repeat go_big_quiet_step (fail)
      refine wpQuiet_nil ?_
      rintro _ ⟨⟨wk, hwk⟩, rfl⟩
      have HWK := Lib.hid hwk
      clear hwk
      go_wp2
      go_ret
      exact ⟨by rw [HP.out]; rfl, HBB.out.trans (HWK.out.mono HBB.out.size)⟩
end Go.Proofs.Ytbfhfnbhfeedbaa
end
