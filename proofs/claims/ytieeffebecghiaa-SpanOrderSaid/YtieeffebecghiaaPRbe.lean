/- Contracts of the reference's Prefix and Cmp. Conditions: an id has 20 bytes. -/
import Derived.Test.YtieeffebecghiaaPRbd
namespace Go.Proofs.Ytieeffebecghiaa
set_option maxRecDepth 100000
set_option maxHeartbeats 400000
open Go.RowKit Go.Great

theorem kept_load42 {g : Nat} {W : World} {xs : List UInt8} {ty : TypeId} (hx : xs.length = 20) (h : W.heap[g]? = some (.cells (bcells xs).toArray ty (0, 0))) : ∀ n : Kept W.heap.size W, (loadVar 26 ⟨g, 0, none⟩).run Try.prog n.val = .ok (.agg (bcells xs).toArray) n.val :=
  fun n => load42 hx (kept_row h (Array.getElem?_eq_some_iff.1 h).1 n)
def RPfxRel (w : World) (xs ys : List UInt8) (i : Value) (wr : World) : Prop :=
  ∃ j : Nat, j ≤ 160 ∧ i = .int .i64 (j : Int) ∧ (∀ k, k < j → bitL xs k = bitL ys k) ∧ wr.heap[w.heap.size]? = some (.cells (bcells xs).toArray 26 (0, 0)) ∧ wr.heap[w.heap.size + 1]? = some (.cells (bcells ys).toArray 26 (0, 0)) ∧ Below w.heap.size w wr

theorem rprefix_any (xs ys : List UInt8) (hx : xs.length = 20) (hy : ys.length = 20) (w : World) :
    Calls Try.prog 23 #[.agg (bcells xs).toArray, .agg (bcells ys).toArray] w fun e w' => e = .returned (.int .i64 (pfxN xs ys : Int)) ∧ Below w.heap.size w w' := by
  obtain ⟨h1, h2, h4⟩ := heap2 w (.cells (bcells xs).toArray 26) (.cells (bcells ys).toArray 26)
  have HR0 : Hid (RPfxRel w xs ys (.int .i64 0) ((w.alloc (.cells (bcells xs).toArray 26)).alloc (.cells (bcells ys).toArray 26))) := Lib.hid ⟨0, by omega, rfl, fun k hk => by omega, h1, h2, h4⟩
  have HX := Lib.hid (And.intro hx hy)
  have HB1 := Lib.hid (fun (k : Nat) (hk : k < 160) W => rbit_yes xs hx k hk W)
  have HB2 := Lib.hid (fun (k : Nat) (hk : k < 160) W => rbit_yes ys hy k hk W)
  clear h1 h2 h4 hx hy
  obtain ⟨X, hX⟩ : ∃ X, X = (bcells xs).toArray := ⟨_, rfl⟩
  obtain ⟨Y, hY⟩ : ∃ Y, Y = (bcells ys).toArray := ⟨_, rfl⟩
  simp only [← hX] at HB1
  simp only [← hY] at HB2
  rw [← hX, ← hY] at HR0 ⊢
  have HXY := Lib.hid (And.intro hX hY)
  clear hX hY
  go_enter Try.func23, Try.ntmps23
  go_wp2
  go_loopw [5] (RPfxRel w xs ys) (fun i _ => 160 - (intOf i).toNat)
  case atStart => exact HR0.out
  case round =>
    obtain ⟨j, hj, rfl, hk, hq, hr, hb⟩ := hrel
    clear HR0
    obtain ⟨hx, hy⟩ := HX.out
    obtain ⟨eX, eY⟩ := HXY.out
    have L1 := kept_load42 hx hq
    have L2 := kept_load42 hy hr
    rw [← eX] at L1
    rw [← eY] at L2
    have HL1 := Lib.hid L1
    have HL2 := Lib.hid L2
    have HBB := Lib.hid hb
    by_cases hlt : j < 160
    · have hlt' : (j : Int) < 160 := by omega
      have B1 := HB1.out j hlt
      have B2 := HB2.out j hlt
      by_cases he : bitL xs j = bitL ys j
      · rw [← he] at B2
        have HR : Hid (∀ wk, Below wr.heap.size wr wk → RPfxRel w xs ys (.int .i64 ((j : Int) + 1)) wk) := Lib.hid (fun wk hwk => by
          have l2 := (Array.getElem?_eq_some_iff.1 hr).1
          refine ⟨j + 1, by omega, by go_num, fun k hkj => ?_, (hwk.block _ (by omega)).trans hq, (hwk.block _ l2).trans hr, hb.trans (hwk.mono hb.size)⟩
          by_cases hkj' : k = j
          · rw [hkj']
            exact he
          · exact hk k (by omega))
        generalize bitL xs j = bt at B1 B2
        have C1 := Lib.hid B1
        have C2 := Lib.hid B2
        clear B1 B2 hq hr hb hk he L1 L2 hx hy eX eY HB1 HB2 HX HXY
        cases bt
        all_goals
          simp only [Bool.false_eq_true, if_false, if_true] at C1 C2
          go_upto_region 2 with fail
          refine wp_region_kept wr.heap.size wr (Below.refl _ _) (by kernel_rfl) (by kernel_rfl) ?_
          repeat (first
            | (go_big_quiet_want; (with_reducible refine quiet_loadV 26 (.tmp 2) rfl _ ?_ _ HL1.out ?_); rfl; simp only [Act.put, List.setIfInBounds_toArray, List.set_cons_zero, List.set_cons_succ]; go_big_quiet_on)
            | (go_big_quiet_want; (with_reducible refine quiet_loadV 26 (.tmp 3) rfl _ ?_ _ HL2.out ?_); rfl; simp only [Act.put, List.setIfInBounds_toArray, List.set_cons_zero, List.set_cons_succ]; go_big_quiet_on)
            | go_big_quiet_step (first | (go_at_call 31; with_reducible exact kept_of (Nat.le_refl _) C1.out _) | (go_at_call 31; with_reducible exact kept_of (Nat.le_refl _) C2.out _)))
          refine wpQuiet_nil ?_
          rintro _ ⟨⟨wk, hwk⟩, rfl⟩
          have HWK := Lib.hid hwk
          clear hwk
          go_wp2
          go_roundw
          case rel => exact HR.out _ HWK.out
          case measure => simp [intOf]; omega
      · have hp : pfxN xs ys = j := pfxN_unique (hx.trans hy.symm) j (by omega) hk (fun _ => he)
        have e2 : bitL ys j = !bitL xs j := by cases h1 : bitL xs j <;> cases h2 : bitL ys j <;> simp_all
        rw [e2] at B2
        have HP := Lib.hid hp
        generalize bitL xs j = bt at B1 B2
        have C1 := Lib.hid B1
        have C2 := Lib.hid B2
        clear B1 B2 hq hr hb hk he L1 L2 hx hy eX eY HB1 HB2 HX HXY hp e2
        cases bt
        all_goals
          simp only [Bool.not_false, Bool.not_true, Bool.false_eq_true, if_false, if_true] at C1 C2
          go_upto_region 2 with fail
          refine wp_region_kept wr.heap.size wr (Below.refl _ _) (by kernel_rfl) (by kernel_rfl) ?_
          repeat (first
            | (go_big_quiet_want; (with_reducible refine quiet_loadV 26 (.tmp 2) rfl _ ?_ _ HL1.out ?_); rfl; simp only [Act.put, List.setIfInBounds_toArray, List.set_cons_zero, List.set_cons_succ]; go_big_quiet_on)
            | (go_big_quiet_want; (with_reducible refine quiet_loadV 26 (.tmp 3) rfl _ ?_ _ HL2.out ?_); rfl; simp only [Act.put, List.setIfInBounds_toArray, List.set_cons_zero, List.set_cons_succ]; go_big_quiet_on)
            | go_big_quiet_step (first | (go_at_call 31; with_reducible exact kept_of (Nat.le_refl _) C1.out _) | (go_at_call 31; with_reducible exact kept_of (Nat.le_refl _) C2.out _)))
          refine wpQuiet_nil ?_
          rintro _ ⟨⟨wk, hwk⟩, rfl⟩
          have HWK := Lib.hid hwk
          clear hwk
          go_wp2
          go_ret
          exact ⟨by rw [HP.out]; rfl, HBB.out.trans (HWK.out.mono HBB.out.size)⟩
    · obtain rfl : j = 160 := by omega
      have hp : pfxN xs ys = 160 := pfxN_unique (hx.trans hy.symm) 160 (by omega) hk (fun h => by rw [hx] at h; omega)
      have HP := Lib.hid hp
      clear hq hr hb hk L1 L2 hx hy eX eY HB1 HB2 HX HXY hp hlt hj
      go_upto_region 2 with fail
      refine wp_region_kept wr.heap.size wr (Below.refl _ _) (by kernel_rfl) (by kernel_rfl) ?_
      repeat go_big_quiet_step (fail)
      refine wpQuiet_nil ?_
      rintro _ ⟨⟨wk, hwk⟩, rfl⟩
      have HWK := Lib.hid hwk
      clear hwk
      go_wp2
      go_ret
      exact ⟨by rw [HP.out]; rfl, HBB.out.trans (HWK.out.mono HBB.out.size)⟩
end Go.Proofs.Ytieeffebecghiaa
