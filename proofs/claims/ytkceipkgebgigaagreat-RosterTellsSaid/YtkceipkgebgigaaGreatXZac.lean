/- with of the reference. Condition: at most 16 instances. -/
import Derived.Test.YtkceipkgebgigaaGreatXOqb
namespace Go.Proofs.YtkceipkgebgigaaGreat
open Go.Shelf Go.RowKit Go.Lib Go.Great
set_option maxRecDepth 100000
set_option maxHeartbeats 400000
theorem wthK_len (L : List Ins) (x : Ins) : ∀ k, (wthK L x k).1.length ≤ 2 * k
  | 0 => Nat.le_refl _
  | k + 1 => by
    have := wthK_len L x k
    unfold wthK
    simp only
    split <;> split <;> simp <;> omega
theorem rwith_any (A : Option Addr) (c : Nat) (L : List Ins) (x : Ins) (w : World) (hL : L.length ≤ 16) (hA : IAt w w.heap.size A L) :
    Calls Tryz.prog 31 #[.slice A L.length c, .agg (encI x).toArray] w fun e w' => ∃ v, e = .returned v ∧ OwnR w (withL L x) w' v := by
  have k1 := heap_alloc_new w (.cells (encI x).toArray 29)
  have hb : Below w.heap.size w (w.alloc (.cells (encI x).toArray 29)) := (Below.refl _ w).alloc (Nat.le_refl _) _
  obtain ⟨w1, hw1⟩ : ∃ y, y = w.alloc (.cells (encI x).toArray 29) := ⟨_, rfl⟩
  have HW1 := Lib.hid hw1
  rw [← hw1] at k1 hb
  have l1 := (Array.getElem?_eq_some_iff.1 k1).1
  have HX29 : Hid (∀ W, Below w1.heap.size w1 W → (loadVar 29 ⟨w.heap.size, 0, none⟩).run Tryz.prog W = .ok (.agg (encI x).toArray) W) := Lib.hid (fun W hW => load28 (row_range ((hW.block _ l1).trans k1)))
  have HX24 : Hid (∀ W, Below w1.heap.size w1 W → (loadVar 24 ⟨w.heap.size, 0, none⟩).run Tryz.prog W = .ok (.agg (bcells x.pub).toArray) W) := Lib.hid (fun W hW => load23 (row_range ((hW.block _ l1).trans k1)))
  have HLD : Hid (∀ k, k < L.length → ∃ b off, A = some ⟨b, off, none⟩ ∧ ∀ W, Below w1.heap.size w1 W → (loadVar 29 ⟨b, off + k * 28, none⟩).run Tryz.prog W = .ok (.agg (encI L[k]!).toArray) W ∧ (loadVar 24 ⟨b, off + k * 28, none⟩).run Tryz.prog W = .ok (.agg (bcells L[k]!.pub).toArray) W) := Lib.hid (fun k hk => by
    rcases hA with rfl | ⟨g, off, rfl, hg, hr⟩
    · simp at hk
    · refine ⟨g, off, rfl, fun W hW => ?_⟩
      have hbw := hb.trans (hW.mono hb.size)
      exact ⟨row_load hr hg hbw hk, load23 (row_at (rangeAt_below hr (hbw.block g hg)) hk)⟩)
  have HBF : Hid (∀ (k : Nat) (W : World), Calls Tryz.prog 38 #[.agg (encI L[k]!).toArray, .agg (encI x).toArray] W fun e w' => e = .returned (.bool (decide (cmpP L[k]! x < 0))) ∧ Below W.heap.size W w') := Lib.hid (fun k W => before_any L[k]! x W)
  have HSRC : Hid (∀ (y : Ins) (W : World), Src Tryz.prog 28 22 (.slice (some ⟨W.heap.size, 0, none⟩) 1 1) [y].length (flatE encI [y]) (W.alloc (.cells (encI y).toArray 29))) := Lib.hid (fun y W => src_newI insT y W)
  have HK : Hid (∀ k : Nat, wthK L x (k + 1) = ((if L[k]!.pub == x.pub then (if !(wthK L x k).2 && !decide (cmpP L[k]! x < 0) then (wthK L x k).1 ++ [x] else (wthK L x k).1) else (if !(wthK L x k).2 && !decide (cmpP L[k]! x < 0) then (wthK L x k).1 ++ [x] else (wthK L x k).1) ++ [L[k]!]), (wthK L x k).2 || !decide (cmpP L[k]! x < 0))) := Lib.hid (fun k => rfl)
  have HLN : Hid (∀ k : Nat, k ≤ L.length → (wthK L x k).1.length ≤ 32) := Lib.hid (fun k hk => by have := wthK_len L x k; omega)
  have HEND : Hid (∀ W v, GroR w1 W v (if (wthK L x L.length).2 then (wthK L x L.length).1 else (wthK L x L.length).1 ++ [x]) → OwnR w (withL L x) W v) := Lib.hid (fun W v h => h.out hb)
  have HXP := Lib.hid x.hp
  have HYP : Hid (∀ k : Nat, (L[k]!).pub.length = 20) := Lib.hid (fun k => (L[k]!).hp)
  have R0 : Hid (GroR w1 w1 (.slice none 0 0) [] ∧ wthK L x 0 = ([], false)) := Lib.hid ⟨GroR.start w1, rfl⟩
  generalize hn : L.length = n at *
  generalize hwk : wthK L x = WK at *
  clear k1 hb hw1 l1 hA hwk
  go_enter Tryz.func31, Tryz.ntmps31
  go_upto_region 1 with fail
  rw [← HW1.out]
  go_wp2
  go_loopw [5, 6, 7] (fun u5 u6 i wr => ∃ (k : Nat) (v : Value) (d : Bool), u5 = v ∧ u6 = .bool d ∧ i = .int .i64 (k : Int) ∧ k ≤ n ∧ (WK k).2 = d ∧ GroR w1 wr v (WK k).1) (fun _ _ i _ => n - (RowKit.intOf i).toNat)
  case atStart => exact ⟨0, _, false, rfl, rfl, rfl, by omega, by rw [R0.out.2], by rw [R0.out.2]; exact R0.out.1⟩
  case round =>
    obtain ⟨k, v, d, e5, rfl, rfl, hk, hd, hG⟩ := hrel
    obtain rfl := e5.symm
    clear R0
    by_cases hlt : k < n
    · have hlt' : (k : Int) < (n : Int) := by omega
      obtain ⟨b, off, rfl, hld⟩ := HLD.out k hlt
      have HLK := Lib.hid hld
      have HBK := Lib.hid (HBF.out k)
      have hkk := HK.out k
      have hln := HLN.out k (by omega)
      have heq := fun W => eq23 L[k]!.pub x.pub (HYP.out k) HXP.out W 9998
      rw [hd] at hkk
      clear HLD HBF HK HLN HEND HYP hld hd
      generalize hY : L[k]! = Y at *
      clear hY
      generalize WK k = wk0 at *
      obtain ⟨o, _⟩ := wk0
      simp only at hkk hG hln
      have HLE : Hid (o.length + [x].length ≤ 1000000 ∧ (o ++ [x]).length + [Y].length ≤ 1000000 ∧ o.length + [Y].length ≤ 1000000) := Lib.hid (by simp; omega)
      have HQL : Hid (∀ q : Kept wr.heap.size wr, (loadVar 29 ⟨b, off + k * 28, none⟩).run Tryz.prog q.val = .ok (.agg (encI Y).toArray) q.val) := Lib.hid (fun q => (HLK.out _ (hG.be.trans (q.property.mono hG.be.size))).1)
      have HQX : Hid (∀ q : Kept wr.heap.size wr, (loadVar 29 ⟨w.heap.size, 0, none⟩).run Tryz.prog q.val = .ok (.agg (encI x).toArray) q.val) := Lib.hid (fun q => HX29.out _ (hG.be.trans (q.property.mono hG.be.size)))
      have HQ2 : Hid (∀ W v o, GroR w1 W v o → ∀ q : Kept W.heap.size W, (loadVar 24 ⟨b, off + k * 28, none⟩).run Tryz.prog q.val = .ok (.agg (bcells Y.pub).toArray) q.val ∧ (loadVar 24 ⟨w.heap.size, 0, none⟩).run Tryz.prog q.val = .ok (.agg (bcells x.pub).toArray) q.val) := Lib.hid (fun W v o h q => ⟨(HLK.out _ (h.bel q.property).be).2, HX24.out _ (h.bel q.property).be⟩)
      have HG := Lib.hid hG
      clear hG hln HX24
      cases d
      · cases hl : decide (cmpP Y x < 0)
        · rw [hl] at hkk HBK
          cases he : (Y.pub == x.pub)
          · rw [he] at heq hkk
            have HKK : Hid (WK (k + 1) = ((o ++ [x]) ++ [Y], true)) := Lib.hid (by rw [hkk]; rfl)
            clear hkk he hl
            go_upto_region 6 with fail
            refine wp_region_kept wr.heap.size wr (Below.refl _ _) (by kernel_rfl) (by kernel_rfl) ?_
            repeat (first
              | (go_big_quiet_want; (with_reducible refine quiet_loadV 29 (.tmp 19) rfl _ ?_ _ HQL.out ?_); rfl; simp only [Act.put, List.setIfInBounds_toArray, List.set_cons_zero, List.set_cons_succ]; go_big_quiet_on)
              | (go_big_quiet_want; (with_reducible refine quiet_loadV 29 (.tmp 3) rfl _ ?_ _ HQX.out ?_); rfl; simp only [Act.put, List.setIfInBounds_toArray, List.set_cons_zero, List.set_cons_succ]; go_big_quiet_on)
              | go_big_quiet_step (first | (go_at_call 38; with_reducible exact kept_of (Nat.le_refl _) HBK.out _)))
            refine wpQuiet_nil ?_
            rintro wk ⟨⟨_, hwk⟩, rfl⟩
            have g1 := HG.out.bel hwk
            clear hwk HQL HQX
            go_upto_region 9 with (first
              | ((with_reducible refine wpList_loadV (op := ⟨some 26, _, _, _, _, _⟩) rfl 29 (.tmp 3) rfl _ ?_ _ (HX29.out _ g1.be) ?_); rfl)
              | ((with_reducible refine wpList_build_oneI insT x (o := ⟨some 27, _, _, _, _, _⟩) rfl (.tmp 26) rfl ?_ ?_); rfl)
              | (refine wpList_append_ins insT rfl (.tmp 25) (.tmp 27) rfl w1.heap.size _ o [x] rfl (g1.lay x).1.own _ rfl (HSRC.out x _) HLE.out.1 (g1.lay x).2 ?_; intro v28 w28 ho28 hg28; have g2 := (g1.lay x).1.push [x] hg28 ho28))
            have HQ := Lib.hid (HQ2.out _ _ _ g2)
            have HQA := Lib.hid (fun q => (HQ.out q).1)
            have HQB := Lib.hid (fun q => (HQ.out q).2)
            clear HQ HQ2
            refine wp_region_kept w28.heap.size w28 (Below.refl _ _) (by kernel_rfl) (by kernel_rfl) ?_
            repeat (first
              | (go_big_quiet_want; (with_reducible refine quiet_loadV 24 (.tmp 32) rfl _ ?_ _ HQA.out ?_); rfl; simp only [Act.put, List.setIfInBounds_toArray, List.set_cons_zero, List.set_cons_succ]; go_big_quiet_on)
              | (go_big_quiet_want; (with_reducible refine quiet_loadV 24 (.tmp 34) rfl _ ?_ _ HQB.out ?_); rfl; simp only [Act.put, List.setIfInBounds_toArray, List.set_cons_zero, List.set_cons_succ]; go_big_quiet_on)
              | go_big_quiet_step (fail))
            refine wpQuiet_nil ?_
            rintro wk2 ⟨⟨_, hwk2⟩, rfl⟩
            have g3 := g2.bel hwk2
            clear hwk2
            go_wp2_with (first
              | ((with_reducible refine wpList_loadV (op := ⟨some 41, _, _, _, _, _⟩) rfl 29 (.tmp 40) rfl _ ?_ _ ((HLK.out _ g3.be).1) ?_); rfl)
              | ((with_reducible refine wpList_build_oneI insT Y (o := ⟨some 42, _, _, _, _, _⟩) rfl (.tmp 41) rfl ?_ ?_); rfl)
              | (refine wpList_append_ins insT rfl (.tmp 37) (.tmp 42) rfl w1.heap.size _ (o ++ [x]) [Y] rfl (g3.lay Y).1.own _ rfl (HSRC.out Y _) HLE.out.2.1 (g3.lay Y).2 ?_; intro v43 w43 ho43 hg43; have g4 := (g3.lay Y).1.push [Y] hg43 ho43))
            go_roundw
            case rel => exact ⟨k + 1, _, true, rfl, rfl, by go_num, by omega, by rw [HKK.out], by rw [HKK.out]; exact g4⟩
            case measure => simp [RowKit.intOf]; omega
          · rw [he] at heq hkk
            have HKK : Hid (WK (k + 1) = (o ++ [x], true)) := Lib.hid (by rw [hkk]; rfl)
            clear hkk he hl
            go_upto_region 6 with fail
            refine wp_region_kept wr.heap.size wr (Below.refl _ _) (by kernel_rfl) (by kernel_rfl) ?_
            repeat (first
              | (go_big_quiet_want; (with_reducible refine quiet_loadV 29 (.tmp 19) rfl _ ?_ _ HQL.out ?_); rfl; simp only [Act.put, List.setIfInBounds_toArray, List.set_cons_zero, List.set_cons_succ]; go_big_quiet_on)
              | (go_big_quiet_want; (with_reducible refine quiet_loadV 29 (.tmp 3) rfl _ ?_ _ HQX.out ?_); rfl; simp only [Act.put, List.setIfInBounds_toArray, List.set_cons_zero, List.set_cons_succ]; go_big_quiet_on)
              | go_big_quiet_step (first | (go_at_call 38; with_reducible exact kept_of (Nat.le_refl _) HBK.out _)))
            refine wpQuiet_nil ?_
            rintro wk ⟨⟨_, hwk⟩, rfl⟩
            have g1 := HG.out.bel hwk
            clear hwk HQL HQX
            go_upto_region 9 with (first
              | ((with_reducible refine wpList_loadV (op := ⟨some 26, _, _, _, _, _⟩) rfl 29 (.tmp 3) rfl _ ?_ _ (HX29.out _ g1.be) ?_); rfl)
              | ((with_reducible refine wpList_build_oneI insT x (o := ⟨some 27, _, _, _, _, _⟩) rfl (.tmp 26) rfl ?_ ?_); rfl)
              | (refine wpList_append_ins insT rfl (.tmp 25) (.tmp 27) rfl w1.heap.size _ o [x] rfl (g1.lay x).1.own _ rfl (HSRC.out x _) HLE.out.1 (g1.lay x).2 ?_; intro v28 w28 ho28 hg28; have g2 := (g1.lay x).1.push [x] hg28 ho28))
            have HQ := Lib.hid (HQ2.out _ _ _ g2)
            have HQA := Lib.hid (fun q => (HQ.out q).1)
            have HQB := Lib.hid (fun q => (HQ.out q).2)
            clear HQ HQ2
            refine wp_region_kept w28.heap.size w28 (Below.refl _ _) (by kernel_rfl) (by kernel_rfl) ?_
            repeat (first
              | (go_big_quiet_want; (with_reducible refine quiet_loadV 24 (.tmp 32) rfl _ ?_ _ HQA.out ?_); rfl; simp only [Act.put, List.setIfInBounds_toArray, List.set_cons_zero, List.set_cons_succ]; go_big_quiet_on)
              | (go_big_quiet_want; (with_reducible refine quiet_loadV 24 (.tmp 34) rfl _ ?_ _ HQB.out ?_); rfl; simp only [Act.put, List.setIfInBounds_toArray, List.set_cons_zero, List.set_cons_succ]; go_big_quiet_on)
              | go_big_quiet_step (fail))
            refine wpQuiet_nil ?_
            rintro wk2 ⟨⟨_, hwk2⟩, rfl⟩
            have g3 := g2.bel hwk2
            clear hwk2
            go_wp2
            go_roundw
            case rel => exact ⟨k + 1, _, true, rfl, rfl, by go_num, by omega, by rw [HKK.out], by rw [HKK.out]; exact g3⟩
            case measure => simp [RowKit.intOf]; omega
        · rw [hl] at hkk HBK
          cases he : (Y.pub == x.pub)
          · rw [he] at heq hkk
            have HKK : Hid (WK (k + 1) = (o ++ [Y], false)) := Lib.hid (by rw [hkk]; rfl)
            clear hkk he hl
            go_upto_region 6 with fail
            refine wp_region_kept wr.heap.size wr (Below.refl _ _) (by kernel_rfl) (by kernel_rfl) ?_
            repeat (first
              | (go_big_quiet_want; (with_reducible refine quiet_loadV 29 (.tmp 19) rfl _ ?_ _ HQL.out ?_); rfl; simp only [Act.put, List.setIfInBounds_toArray, List.set_cons_zero, List.set_cons_succ]; go_big_quiet_on)
              | (go_big_quiet_want; (with_reducible refine quiet_loadV 29 (.tmp 3) rfl _ ?_ _ HQX.out ?_); rfl; simp only [Act.put, List.setIfInBounds_toArray, List.set_cons_zero, List.set_cons_succ]; go_big_quiet_on)
              | go_big_quiet_step (first | (go_at_call 38; with_reducible exact kept_of (Nat.le_refl _) HBK.out _)))
            refine wpQuiet_nil ?_
            rintro wk ⟨⟨_, hwk⟩, rfl⟩
            have g1 := HG.out.bel hwk
            clear hwk HQL HQX
            go_upto_region 9 with fail
            have g2 := g1
            have HQ := Lib.hid (HQ2.out _ _ _ g2)
            have HQA := Lib.hid (fun q => (HQ.out q).1)
            have HQB := Lib.hid (fun q => (HQ.out q).2)
            clear HQ HQ2
            refine wp_region_kept wk.heap.size wk (Below.refl _ _) (by kernel_rfl) (by kernel_rfl) ?_
            repeat (first
              | (go_big_quiet_want; (with_reducible refine quiet_loadV 24 (.tmp 32) rfl _ ?_ _ HQA.out ?_); rfl; simp only [Act.put, List.setIfInBounds_toArray, List.set_cons_zero, List.set_cons_succ]; go_big_quiet_on)
              | (go_big_quiet_want; (with_reducible refine quiet_loadV 24 (.tmp 34) rfl _ ?_ _ HQB.out ?_); rfl; simp only [Act.put, List.setIfInBounds_toArray, List.set_cons_zero, List.set_cons_succ]; go_big_quiet_on)
              | go_big_quiet_step (fail))
            refine wpQuiet_nil ?_
            rintro wk2 ⟨⟨_, hwk2⟩, rfl⟩
            have g3 := g2.bel hwk2
            clear hwk2
            go_wp2_with (first
              | ((with_reducible refine wpList_loadV (op := ⟨some 41, _, _, _, _, _⟩) rfl 29 (.tmp 40) rfl _ ?_ _ ((HLK.out _ g3.be).1) ?_); rfl)
              | ((with_reducible refine wpList_build_oneI insT Y (o := ⟨some 42, _, _, _, _, _⟩) rfl (.tmp 41) rfl ?_ ?_); rfl)
              | (refine wpList_append_ins insT rfl (.tmp 37) (.tmp 42) rfl w1.heap.size _ o [Y] rfl (g3.lay Y).1.own _ rfl (HSRC.out Y _) HLE.out.2.2 (g3.lay Y).2 ?_; intro v43 w43 ho43 hg43; have g4 := (g3.lay Y).1.push [Y] hg43 ho43))
            go_roundw
            case rel => exact ⟨k + 1, _, false, rfl, rfl, by go_num, by omega, by rw [HKK.out], by rw [HKK.out]; exact g4⟩
            case measure => simp [RowKit.intOf]; omega
          · rw [he] at heq hkk
            have HKK : Hid (WK (k + 1) = (o, false)) := Lib.hid (by rw [hkk]; rfl)
            clear hkk he hl
            go_upto_region 6 with fail
            refine wp_region_kept wr.heap.size wr (Below.refl _ _) (by kernel_rfl) (by kernel_rfl) ?_
            repeat (first
              | (go_big_quiet_want; (with_reducible refine quiet_loadV 29 (.tmp 19) rfl _ ?_ _ HQL.out ?_); rfl; simp only [Act.put, List.setIfInBounds_toArray, List.set_cons_zero, List.set_cons_succ]; go_big_quiet_on)
              | (go_big_quiet_want; (with_reducible refine quiet_loadV 29 (.tmp 3) rfl _ ?_ _ HQX.out ?_); rfl; simp only [Act.put, List.setIfInBounds_toArray, List.set_cons_zero, List.set_cons_succ]; go_big_quiet_on)
              | go_big_quiet_step (first | (go_at_call 38; with_reducible exact kept_of (Nat.le_refl _) HBK.out _)))
            refine wpQuiet_nil ?_
            rintro wk ⟨⟨_, hwk⟩, rfl⟩
            have g1 := HG.out.bel hwk
            clear hwk HQL HQX
            go_upto_region 9 with fail
            have g2 := g1
            have HQ := Lib.hid (HQ2.out _ _ _ g2)
            have HQA := Lib.hid (fun q => (HQ.out q).1)
            have HQB := Lib.hid (fun q => (HQ.out q).2)
            clear HQ HQ2
            refine wp_region_kept wk.heap.size wk (Below.refl _ _) (by kernel_rfl) (by kernel_rfl) ?_
            repeat (first
              | (go_big_quiet_want; (with_reducible refine quiet_loadV 24 (.tmp 32) rfl _ ?_ _ HQA.out ?_); rfl; simp only [Act.put, List.setIfInBounds_toArray, List.set_cons_zero, List.set_cons_succ]; go_big_quiet_on)
              | (go_big_quiet_want; (with_reducible refine quiet_loadV 24 (.tmp 34) rfl _ ?_ _ HQB.out ?_); rfl; simp only [Act.put, List.setIfInBounds_toArray, List.set_cons_zero, List.set_cons_succ]; go_big_quiet_on)
              | go_big_quiet_step (fail))
            refine wpQuiet_nil ?_
            rintro wk2 ⟨⟨_, hwk2⟩, rfl⟩
            have g3 := g2.bel hwk2
            clear hwk2
            go_wp2
            go_roundw
            case rel => exact ⟨k + 1, _, false, rfl, rfl, by go_num, by omega, by rw [HKK.out], by rw [HKK.out]; exact g3⟩
            case measure => simp [RowKit.intOf]; omega
      · cases he : (Y.pub == x.pub)
        · rw [he] at heq hkk
          have HKK : Hid (WK (k + 1) = (o ++ [Y], true)) := Lib.hid (by rw [hkk]; simp)
          clear hkk he
          go_upto_region 6 with fail
          refine wp_region_kept wr.heap.size wr (Below.refl _ _) (by kernel_rfl) (by kernel_rfl) ?_
          repeat (first
            | go_big_quiet_step (fail))
          refine wpQuiet_nil ?_
          rintro wk ⟨⟨_, hwk⟩, rfl⟩
          have g1 := HG.out.bel hwk
          clear hwk HQL HQX
          go_upto_region 9 with fail
          have g2 := g1
          have HQ := Lib.hid (HQ2.out _ _ _ g2)
          have HQA := Lib.hid (fun q => (HQ.out q).1)
          have HQB := Lib.hid (fun q => (HQ.out q).2)
          clear HQ HQ2
          refine wp_region_kept wk.heap.size wk (Below.refl _ _) (by kernel_rfl) (by kernel_rfl) ?_
          repeat (first
            | (go_big_quiet_want; (with_reducible refine quiet_loadV 24 (.tmp 32) rfl _ ?_ _ HQA.out ?_); rfl; simp only [Act.put, List.setIfInBounds_toArray, List.set_cons_zero, List.set_cons_succ]; go_big_quiet_on)
            | (go_big_quiet_want; (with_reducible refine quiet_loadV 24 (.tmp 34) rfl _ ?_ _ HQB.out ?_); rfl; simp only [Act.put, List.setIfInBounds_toArray, List.set_cons_zero, List.set_cons_succ]; go_big_quiet_on)
            | go_big_quiet_step (fail))
          refine wpQuiet_nil ?_
          rintro wk2 ⟨⟨_, hwk2⟩, rfl⟩
          have g3 := g2.bel hwk2
          clear hwk2
          go_wp2_with (first
            | ((with_reducible refine wpList_loadV (op := ⟨some 41, _, _, _, _, _⟩) rfl 29 (.tmp 40) rfl _ ?_ _ ((HLK.out _ g3.be).1) ?_); rfl)
            | ((with_reducible refine wpList_build_oneI insT Y (o := ⟨some 42, _, _, _, _, _⟩) rfl (.tmp 41) rfl ?_ ?_); rfl)
            | (refine wpList_append_ins insT rfl (.tmp 37) (.tmp 42) rfl w1.heap.size _ o [Y] rfl (g3.lay Y).1.own _ rfl (HSRC.out Y _) HLE.out.2.2 (g3.lay Y).2 ?_; intro v43 w43 ho43 hg43; have g4 := (g3.lay Y).1.push [Y] hg43 ho43))
          go_roundw
          case rel => exact ⟨k + 1, _, true, rfl, rfl, by go_num, by omega, by rw [HKK.out], by rw [HKK.out]; exact g4⟩
          case measure => simp [RowKit.intOf]; omega
        · rw [he] at heq hkk
          have HKK : Hid (WK (k + 1) = (o, true)) := Lib.hid (by rw [hkk]; simp)
          clear hkk he
          go_upto_region 6 with fail
          refine wp_region_kept wr.heap.size wr (Below.refl _ _) (by kernel_rfl) (by kernel_rfl) ?_
          repeat (first
            | go_big_quiet_step (fail))
          refine wpQuiet_nil ?_
          rintro wk ⟨⟨_, hwk⟩, rfl⟩
          have g1 := HG.out.bel hwk
          clear hwk HQL HQX
          go_upto_region 9 with fail
          have g2 := g1
          have HQ := Lib.hid (HQ2.out _ _ _ g2)
          have HQA := Lib.hid (fun q => (HQ.out q).1)
          have HQB := Lib.hid (fun q => (HQ.out q).2)
          clear HQ HQ2
          refine wp_region_kept wk.heap.size wk (Below.refl _ _) (by kernel_rfl) (by kernel_rfl) ?_
          repeat (first
            | (go_big_quiet_want; (with_reducible refine quiet_loadV 24 (.tmp 32) rfl _ ?_ _ HQA.out ?_); rfl; simp only [Act.put, List.setIfInBounds_toArray, List.set_cons_zero, List.set_cons_succ]; go_big_quiet_on)
            | (go_big_quiet_want; (with_reducible refine quiet_loadV 24 (.tmp 34) rfl _ ?_ _ HQB.out ?_); rfl; simp only [Act.put, List.setIfInBounds_toArray, List.set_cons_zero, List.set_cons_succ]; go_big_quiet_on)
            | go_big_quiet_step (fail))
          refine wpQuiet_nil ?_
          rintro wk2 ⟨⟨_, hwk2⟩, rfl⟩
          have g3 := g2.bel hwk2
          clear hwk2
          go_wp2
          go_roundw
          case rel => exact ⟨k + 1, _, true, rfl, rfl, by go_num, by omega, by rw [HKK.out], by rw [HKK.out]; exact g3⟩
          case measure => simp [RowKit.intOf]; omega
    · obtain rfl : k = n := by omega
      have hend := HEND.out
      have hln := HLN.out k (by omega)
      rw [hd] at hend
      have HLE : Hid ((WK k).1.length + [x].length ≤ 1000000) := Lib.hid (by simp; omega)
      have HG := Lib.hid hG
      clear HLD HBF HK HLN HEND HYP hd hG hln
      cases d
      · simp only [Bool.false_eq_true, if_false] at hend
        have HE := Lib.hid hend
        clear hend
        go_wp2_with (first
          | ((with_reducible refine wpList_loadV (op := ⟨some 47, _, _, _, _, _⟩) rfl 29 (.tmp 3) rfl _ ?_ _ (HX29.out _ HG.out.be) ?_); rfl)
          | ((with_reducible refine wpList_build_oneI insT x (o := ⟨some 48, _, _, _, _, _⟩) rfl (.tmp 47) rfl ?_ ?_); rfl)
          | (refine wpList_append_ins insT rfl (.tmp 46) (.tmp 48) rfl w1.heap.size _ (WK k).1 [x] rfl (HG.out.lay x).1.own _ rfl (HSRC.out x _) HLE.out (HG.out.lay x).2 ?_; intro v49 w49 ho49 hg49; have g4 := (HG.out.lay x).1.push [x] hg49 ho49))
        go_ret
        exact ⟨_, rfl, HE.out _ _ g4⟩
      · simp only [if_true] at hend
        have HE := Lib.hid hend
        clear hend
        go_wp2
        go_ret
        exact ⟨_, rfl, HE.out _ _ HG.out⟩
end Go.Proofs.YtkceipkgebgigaaGreat
