/- Contract of the reference's Sort of ids. Conditions: fewer than 20000 ids. -/
import Derived.Test.YtcoiaddjfeaciaaGl
namespace Go.Proofs.Ytcoiaddjfeaciaa
set_option maxRecDepth 100000
set_option maxHeartbeats 1000000
open Go.RowKit Go.Lib Go.Great

theorem yieldsIf_loadP {P : Program} {ops : Array Oper} {S : World → Prop} {op : Oper} {a : Act} (hw : Region.wanted op (yielded ops a.tmps) = true) (ty : TypeId) (x : Operand) (ho : op.op = .load ty x) (p : Addr) (hx : a.eval x = .pointer (some p)) (v : Value) (hl : ∀ w, S w → (loadVar ty p).run P w = .ok v w) : YieldsIf P ops S op v a :=
  .inl ⟨hw, fun w hw' => by
    unfold execOp
    simp only [ho, hx, Instr.loadAt, Instr.sureAddr, Sem.run_bind, Sem.run_pure, Result.andThen_ok, hl w hw']⟩
def SoRel (w : World) (L : List IDv) (v i : Value) (wr : World) : Prop :=
  ∃ (j : Nat) (out : List IDv), j ≤ L.length ∧ i = .int .i64 (j : Int) ∧ IsSet nID out (L.take j) ∧ out.length ≤ j ∧ wr.ownsRow w.heap.size 42 20 v out.length (flatI out) ∧ Below w.heap.size w wr
def InRel (wr : World) (out : List IDv) (x : IDv) (i : Value) (wk : World) : Prop :=
  ∃ k : Nat, k ≤ out.length ∧ i = .int .i64 (k : Int) ∧ (∀ (q : Nat) y, q < k → out[q]? = some y → nID y < nID x) ∧ Below wr.heap.size wr wk
theorem kept_range {g off : Nat} {W : World} {x : IDv} (hg : g < W.heap.size) (h : W.rangeAt g off (encID x)) : ∀ n : Kept W.heap.size W, (loadVar 42 ⟨g, off, none⟩).run Try.prog n.val = .ok (.agg (encID x).toArray) n.val :=
  fun n => range_load42 (range_keep h (n.property.block g hg))

theorem rsort_any (A : Option Addr) (c : Nat) (L : List IDv) (w : World) (hL : L.length ≤ 20000) (hA : IAt w w.heap.size A L) :
    Calls Try.prog 41 #[.slice A L.length c] w fun e w' => ∃ v out, e = .returned v ∧ IsSet nID out L ∧ out.length ≤ L.length ∧ w'.ownsRow w.heap.size 42 20 v out.length (flatI out) ∧ Below w.heap.size w w' := by
  have R0 : Hid (SoRel w L (.slice none 0 0) (.int .i64 0) w) := Lib.hid ⟨0, [], by omega, rfl, by simpa using IsSet.nil, by simp, by simpa using World.ownsRow_nil w w.heap.size 42 20, Below.refl _ _⟩
  have HA := Lib.hid hA
  obtain ⟨n, hn⟩ : ∃ n, n = L.length := ⟨_, rfl⟩
  rw [← hn] at hL
  have HN := Lib.hid hn
  have hg1 : Calls Try.prog 41 #[.slice A n c] w fun e w' => ∃ v out, e = .returned v ∧ IsSet nID out L ∧ out.length ≤ L.length ∧ w'.ownsRow w.heap.size 42 20 v out.length (flatI out) ∧ Below w.heap.size w w' := by
    clear hA hn
    go_enter Try.func41, Try.ntmps41
    go_wp2
    go_loopw [3, 4] (SoRel w L) (fun _ i _ => n - (intOf i).toNat)
    case atStart => exact R0.out
    case round =>
      obtain ⟨j, out, hj, rfl, hset, hlen, hown, hb⟩ := hrel
      clear R0
      by_cases hlt : j < n
      · obtain ⟨x, hx⟩ : ∃ x, L[j]? = some x := ⟨L[j]'(by have := HN.out; omega), List.getElem?_eq_getElem _⟩
        obtain ⟨gl, off, rfl, hgl, hr⟩ := (HA.out.below hb).some_ (by have := HN.out; omega)
        have HX := Lib.hid hx
        have HS := Lib.hid hset
        have HO := Lib.hid hown
        have HB := Lib.hid hb
        have HR := Lib.hid (range_part hr hx)
        have HG : Hid (gl < w.heap.size) := Lib.hid hgl
        have I0 : Hid (InRel wr out x (.int .i64 0) wr) := Lib.hid ⟨0, by omega, rfl, fun q y hq => by omega, Below.refl _ _⟩
        obtain ⟨A3, cv, rfl, _, hcv, hform⟩ := own_form hown
        obtain ⟨m, hm⟩ : ∃ m, m = out.length := ⟨_, rfl⟩
        have hm2 : m ≤ j := by omega
        rw [← hm] at hcv HO ⊢
        have HM := Lib.hid hm
        have HF := Lib.hid hform
        obtain ⟨wo, rfl⟩ : ∃ wo, wo = wr := ⟨wr, rfl⟩
        clear hm hset hlen hown hb hr hgl hx hform
        go_upto_region 6 with fail
        go_loopw [5] (InRel wo out x) (fun i _ => m - (intOf i).toNat)
        case atStart => exact I0.out
        case round =>
          obtain ⟨k, hk, rfl, hq, hbk⟩ := hrel
          clear I0
          have HQ := Lib.hid hq
          have HBK := Lib.hid hbk
          have HRX : Hid (wr.rangeAt gl (off + j * 20) (encID x)) := Lib.hid (range_keep HR.out (hbk.block gl (Nat.lt_of_lt_of_le HG.out HB.out.size)))
          have HLX := Lib.hid (kept_range (Nat.lt_of_lt_of_le HG.out (Nat.le_trans HB.out.size hbk.size)) HRX.out)
          clear hq
          rw [← HM.out] at hk
          by_cases hkm : k < m
          · obtain ⟨y, hy⟩ : ∃ y, out[k]? = some y := ⟨out[k]'(by have := HM.out; omega), List.getElem?_eq_getElem _⟩
            obtain ⟨g, rfl, hgb, hgw, hrg⟩ : ∃ g, A3 = some ⟨g, 0, none⟩ ∧ w.heap.size ≤ g ∧ g < wo.heap.size ∧ wo.rangeAt g 0 (flatI out) := by
              rcases HF.out with ⟨_, e, _⟩ | h
              · have := HM.out
                rw [e] at this
                simp at this
                omega
              · exact h
            have HRG := Lib.hid hrg
            have HGW : Hid (g < wo.heap.size) := Lib.hid hgw
            have hLY := kept_range (Nat.lt_of_lt_of_le hgw hbk.size) (range_part (range_keep hrg (hbk.block g hgw)) hy)
            rw [Nat.zero_add] at hLY
            have HLY := Lib.hid hLY
            have HC := Lib.hid (fun W => rcmp_any y.val x.val y.property x.property W)
            have HCK := Lib.hid (cmp_key y x)
            have hE := fun W => eq42 y.val x.val y.property x.property W
            have HY := Lib.hid hy
            change Hid (∀ W, Calls Try.prog 31 #[.agg (encID y).toArray, .agg (encID x).toArray] W fun e w' => e = .returned (.int .i64 (cmpL y.val x.val)) ∧ Below W.heap.size W w') at HC
            change ∀ W, (Op.equalIn 10000 42 (.agg (encID y).toArray) (.agg (encID x).toArray)).run Try.prog W = .ok (y.val == x.val) W at hE
            generalize cmpL y.val x.val = cv2 at HC HCK
            clear hLY hy hbk hrg hgw hgb
            by_cases hc2 : cv2 < 0
            · clear hE
              go_upto_region 6 with fail
              refine wp_region_kept wr.heap.size wr (Below.refl _ _) (by kernel_rfl) (by kernel_rfl) ?_
              repeat (first
                | (go_big_quiet_want; (with_reducible refine quiet_loadV 42 (.tmp 19) rfl _ ?_ _ HLY.out ?_); rfl; simp only [Act.put, List.setIfInBounds_toArray, List.set_cons_zero, List.set_cons_succ]; go_big_quiet_on)
                | (go_big_quiet_want; (with_reducible refine quiet_loadV 42 (.tmp 23) rfl _ ?_ _ HLX.out ?_); rfl; simp only [Act.put, List.setIfInBounds_toArray, List.set_cons_zero, List.set_cons_succ]; go_big_quiet_on)
                | go_big_quiet_step (first | (go_at_call 31; with_reducible exact kept_of (Nat.le_refl _) HC.out _)))
              refine wpQuiet_nil ?_
              rintro wk ⟨⟨_, hwk⟩, rfl⟩
              have HREL : Hid (InRel wo out x (.int .i64 ((k : Int) + 1)) wk) := Lib.hid ⟨k + 1, by have := HM.out; omega, by go_num, fun q z hqk hz => by
                by_cases e : q = k
                · subst e
                  rw [HY.out] at hz
                  injection hz with hz
                  subst hz
                  exact HCK.out.1 hc2
                · exact HQ.out q z (by omega) hz, HBK.out.trans (hwk.mono HBK.out.size)⟩
              clear hwk HC HCK HQ HLX HLY
              go_wp2
              go_roundw
              case rel => exact HREL.out
              case measure => simp [intOf]; omega
            · go_upto_region 6 with fail
              refine wp_region_kept wr.heap.size wr (Below.refl _ _) (by kernel_rfl) (by kernel_rfl) ?_
              repeat (first
                | (go_big_quiet_want; (with_reducible refine quiet_loadV 42 (.tmp 19) rfl _ ?_ _ HLY.out ?_); rfl; simp only [Act.put, List.setIfInBounds_toArray, List.set_cons_zero, List.set_cons_succ]; go_big_quiet_on)
                | (go_big_quiet_want; (with_reducible refine quiet_loadV 42 (.tmp 23) rfl _ ?_ _ HLX.out ?_); rfl; simp only [Act.put, List.setIfInBounds_toArray, List.set_cons_zero, List.set_cons_succ]; go_big_quiet_on)
                | go_big_quiet_step (first | (go_at_call 31; with_reducible exact kept_of (Nat.le_refl _) HC.out _)))
              refine wpQuiet_nil ?_
              rintro wk ⟨⟨_, hwk⟩, rfl⟩
              have HWK := Lib.hid hwk
              have HNK : Hid (¬ nID y < nID x) := Lib.hid (fun e => hc2 (HCK.out.2 e))
              clear hwk HC HCK hc2
              have hkm2 : ((k : Int) == (m : Int)) = false := beq_eq_false_iff_ne.2 (by omega)
              by_cases hyx : y = x
              · have hE2 : ∀ W, (Op.equalIn 10000 42 (.agg (encID y).toArray) (.agg (encID x).toArray)).run Try.prog W = .ok true W := fun W => by rw [hE, hyx]; simp
                have HYX := Lib.hid hyx
                clear hE hyx
                go_upto_region 8 with fail
                refine wp_region_kept wr.heap.size wr HWK.out (by kernel_rfl) (by kernel_rfl) ?_
                repeat (first
                  | (go_big_quiet_want; (with_reducible refine quiet_loadV 42 (.tmp 37) rfl _ ?_ _ HLY.out ?_); rfl; simp only [Act.put, List.setIfInBounds_toArray, List.set_cons_zero, List.set_cons_succ]; go_big_quiet_on)
                  | (go_big_quiet_want; (with_reducible refine quiet_loadV 42 (.tmp 41) rfl _ ?_ _ HLX.out ?_); rfl; simp only [Act.put, List.setIfInBounds_toArray, List.set_cons_zero, List.set_cons_succ]; go_big_quiet_on)
                  | go_big_quiet_step (fail))
                refine wpQuiet_nil ?_
                rintro wz ⟨⟨_, hwz⟩, rfl⟩
                have hbz := HBK.out.trans (hwz.mono HBK.out.size)
                have HREL : Hid (SoRel w L (.slice (some ⟨g, 0, none⟩) m cv) (.int .i64 ((j : Int) + 1)) wz) := Lib.hid (by
                  have e1 := HM.out
                  have e2 := HN.out
                  refine ⟨j + 1, out, by omega, by go_num, ?_, by omega, ?_, HB.out.trans (hbz.mono HB.out.size)⟩
                  · rw [take_snoc HX.out]
                    refine HS.out.skip ?_
                    rw [← HYX.out]
                    exact List.mem_iff_getElem?.2 ⟨k, HY.out⟩
                  · rw [← e1]
                    exact HO.out.kept (grownBy_of_below hbz (Nat.le_refl _) none) (.inr (by simp [Value.ownBlock])))
                clear hwz hbz HQ HS HX HR HLX HLY
                go_wp2
                go_roundw
                case rel => exact HREL.out
                case measure => simp [intOf]; omega
              · have hE2 : ∀ W, (Op.equalIn 10000 42 (.agg (encID y).toArray) (.agg (encID x).toArray)).run Try.prog W = .ok false W := fun W => by
                  rw [hE, beq_eq_false_iff_ne.2 (fun e => hyx (Subtype.ext e))]
                have HGE : Hid (∀ z, out[k]? = some z → ¬ nID z < nID x ∧ z ≠ x) := Lib.hid (fun z hz => by
                  rw [HY.out] at hz
                  injection hz with hz
                  subst hz
                  exact ⟨HNK.out, hyx⟩)
                clear hE
                go_upto_region 8 with fail
                refine wp_region_kept wr.heap.size wr HWK.out (by kernel_rfl) (by kernel_rfl) ?_
                repeat (first
                  | (go_big_quiet_want; (with_reducible refine quiet_loadV 42 (.tmp 37) rfl _ ?_ _ HLY.out ?_); rfl; simp only [Act.put, List.setIfInBounds_toArray, List.set_cons_zero, List.set_cons_succ]; go_big_quiet_on)
                  | (go_big_quiet_want; (with_reducible refine quiet_loadV 42 (.tmp 41) rfl _ ?_ _ HLX.out ?_); rfl; simp only [Act.put, List.setIfInBounds_toArray, List.set_cons_zero, List.set_cons_succ]; go_big_quiet_on)
                  | go_big_quiet_step (fail))
                refine wpQuiet_nil ?_
                rintro wz ⟨⟨_, hwz⟩, rfl⟩
                have HBZ := Lib.hid (HBK.out.trans (hwz.mono HBK.out.size))
                clear hwz HWK HNK HY HLX HLY HRX HBK hE2 hyx
                obtain ⟨WZ, hWZ⟩ : ∃ WZ, WZ = wz := ⟨_, rfl⟩
                rw [← hWZ] at HBZ ⊢
                clear hWZ
                have HLS : Hid (∀ W, Below WZ.heap.size WZ W → (loadVar 42 ⟨gl, off + j * 20, none⟩).run Try.prog W = .ok (.agg (encID x).toArray) W) := Lib.hid (fun W h => range_load42 (range_keep (range_keep HR.out (HBZ.out.block gl (Nat.lt_of_lt_of_le HG.out HB.out.size))) (h.block gl (Nat.lt_of_lt_of_le (Nat.lt_of_lt_of_le HG.out HB.out.size) HBZ.out.size))))
                have hgz : ∀ W, Below WZ.heap.size WZ W → W.rangeAt g 0 (flatI out) := fun W h => range_keep (range_keep HRG.out (HBZ.out.block g HGW.out)) (h.block g (Nat.lt_of_lt_of_le HGW.out HBZ.out.size))
                have HSA : Hid (∀ W, Below WZ.heap.size WZ W → Src Try.prog 20 64 (.slice (some ⟨g, 0, none⟩) k cv) (out.take k).length (flatI (out.take k)) W) := Lib.hid (fun W h => src_take (hgz W h) (by have := HM.out; omega))
                have HSB : Hid (∀ W, Below WZ.heap.size WZ W → Src Try.prog 20 64 (.slice (some ⟨g, k * 20, none⟩) (m - k) (cv - k)) (out.drop k).length (flatI (out.drop k)) W) := Lib.hid (fun W h => by rw [HM.out]; exact src_drop (hgz W h))
                clear hgz
                have HFIN : Hid (∀ v W, R9 WZ v (([] ++ out.take k) ++ [x] ++ out.drop k) W → SoRel w L v (.int .i64 ((j : Int) + 1)) W) := Lib.hid (fun v W h => by
                  have e1 := HM.out
                  have e2 := HN.out
                  have hl : ([] ++ out.take k ++ [x] ++ out.drop k).length = out.length + 1 := by simp <;> omega
                  refine ⟨j + 1, out.take k ++ [x] ++ out.drop k, by omega, by go_num, ?_, ?_, ?_, ?_⟩
                  · rw [take_snoc HX.out]
                    exact HS.out.ins nID_inj HQ.out HGE.out
                  · have := hl; simp only [List.nil_append] at this; omega
                  · have := own_mono h.own (Nat.le_trans HB.out.size HBZ.out.size)
                    simpa only [List.nil_append] using this
                  · exact (HB.out.trans (HBZ.out.mono HB.out.size)).trans (h.bel.mono (Nat.le_trans HB.out.size HBZ.out.size)))
                have HSa : Hid (Below WZ.heap.size WZ WZ.drew) := Lib.hid (Below.refl _ _).drew
                clear HQ HGE HS HX HR HBZ
                have hkc : k ≤ cv := by omega
                have hkc2 : ¬ cv = k := by omega
                go_upto_region 9 with fail
                refine wp_region_noPanic ?_
                refine wp_region_held_drew (S := fun w' => Below WZ.heap.size WZ w') (by kernel_rfl) HSa.out (fun hHeld => ?_)
                refine takeH_at 1 46 (v := ?_) rfl rfl (by kernel_rfl) (by kernel_rfl) (by kernel_rfl) (fun _ _ _ h => h) (Or.inl ⟨by rfl, ?_⟩) (by assumption) ?_
                rotate_left
                · (intro wx hSw; clear hSw; go_simp) <;> with_reducible rfl
                simp only [Act.put, List.setIfInBounds_toArray, List.set_cons_zero, List.set_cons_succ]
                refine takeH_at 2 47 (v := ?_) rfl rfl (by kernel_rfl) (by kernel_rfl) (by kernel_rfl) (fun _ _ _ h => h) (Or.inl ⟨by rfl, ?_⟩) (by assumption) ?_
                rotate_left
                · (intro wx hSw; clear hSw; go_simp) <;> with_reducible rfl
                simp only [Act.put, List.setIfInBounds_toArray, List.set_cons_zero, List.set_cons_succ]
                refine takeH_at 3 48 (v := ?_) rfl rfl (by kernel_rfl) (by kernel_rfl) (by kernel_rfl) (fun _ _ _ h => h) (Or.inl ⟨by rfl, ?_⟩) (by assumption) ?_
                rotate_left
                · (intro wx hSw; clear hSw; go_simp) <;> with_reducible rfl
                simp only [Act.put, List.setIfInBounds_toArray, List.set_cons_zero, List.set_cons_succ]
                refine takeH_at 5 50 (v := ?_) rfl rfl (by kernel_rfl) (by kernel_rfl) (by kernel_rfl) (fun _ _ _ h => h) (Or.inl ⟨by rfl, ?_⟩) (by assumption) ?_
                rotate_left
                · (intro wx hSw; clear hSw; go_simp) <;> with_reducible rfl
                simp only [Act.put, List.setIfInBounds_toArray, List.set_cons_zero, List.set_cons_succ]
                refine takeH_at 6 51 (v := ?_) rfl rfl (by kernel_rfl) (by kernel_rfl) (by kernel_rfl) (fun _ _ _ h => h) (Or.inl ⟨by rfl, ?_⟩) (by assumption) ?_
                rotate_left
                · (intro wx hSw; clear hSw; go_simp) <;> with_reducible rfl
                simp only [Act.put, List.setIfInBounds_toArray, List.set_cons_zero, List.set_cons_succ]
                refine takeH_at 7 52 (v := ?_) rfl rfl (by kernel_rfl) (by kernel_rfl) (by kernel_rfl) (fun _ _ _ h => h) (Or.inl ⟨by rfl, ?_⟩) (by assumption) ?_
                rotate_left
                · (intro wx hSw; clear hSw; go_simp) <;> with_reducible rfl
                simp only [Act.put, List.setIfInBounds_toArray, List.set_cons_zero, List.set_cons_succ]
                refine takeH_at 8 53 (v := .agg (encID x).toArray) rfl rfl (by kernel_rfl) (by kernel_rfl) (by kernel_rfl) (fun _ _ _ h => h) (yieldsIf_loadP (by rfl) 42 (.tmp 52) rfl _ rfl _ HLS.out) (by assumption) ?_
                simp only [Act.put, List.setIfInBounds_toArray, List.set_cons_zero, List.set_cons_succ]
                refine takeH_at 11 56 (v := ?_) rfl rfl (by kernel_rfl) (by kernel_rfl) (by kernel_rfl) (fun _ _ _ h => h) (Or.inl ⟨by rfl, ?_⟩) (by assumption) ?_
                rotate_left
                · (intro wx hSw; clear hSw; go_simp) <;> with_reducible rfl
                simp only [Act.put, List.setIfInBounds_toArray, List.set_cons_zero, List.set_cons_succ]
                refine takeH_at 12 57 (v := ?_) rfl rfl (by kernel_rfl) (by kernel_rfl) (by kernel_rfl) (fun _ _ _ h => h) (Or.inl ⟨by rfl, ?_⟩) (by assumption) ?_
                rotate_left
                · (intro wx hSw; clear hSw; go_simp) <;> with_reducible rfl
                simp only [Act.put, List.setIfInBounds_toArray, List.set_cons_zero, List.set_cons_succ]
                refine takeH_at 13 58 (v := ?_) rfl rfl (by kernel_rfl) (by kernel_rfl) (by kernel_rfl) (fun _ _ _ h => h) (Or.inl ⟨by rfl, ?_⟩) (by assumption) ?_
                rotate_left
                · (intro wx hSw; clear hSw; go_simp) <;> with_reducible rfl
                simp only [Act.put, List.setIfInBounds_toArray, List.set_cons_zero, List.set_cons_succ]
                refine wpAnyH_ready (rs := [0, 9]) (by kernel_rfl) (by simp) ?_
                refine AllReadyH.cons rfl (fun K hK => ?_) ?_
                · refine step_none rfl 45 rfl rfl ?_
                  have HRW1 : Hid (R9 WZ _ [] _) := Lib.hid (R9.new (W := WZ.drew) HSa.out)
                  have HBW1 := Lib.hid HRW1.out.bel
                  refine hK.out _ _ HBW1.out (fun hHeld1 => ?_)
                  clear hK K
                  simp only [Act.put, List.setIfInBounds_toArray, List.set_cons_zero, List.set_cons_succ]
                  refine wpAnyH_ready (rs := [4, 9]) (by kernel_rfl) (by simp) ?_
                  refine AllReadyH.cons rfl (fun K hK => ?_) ?_
                  · refine step_app rfl 49 rfl (.tmp 45) (.tmp 48) rfl HRW1.out rfl _ (out.take k) rfl (HSA.out _ HBW1.out) (by have := HM.out; simp <;> omega) ?_
                    intro v2 w2 ho2 hg2 hat2
                    have HRW2 := Lib.hid ho2
                    have HBW2 := Lib.hid ho2.bel
                    refine hK.out _ _ HBW2.out (fun hHeld2 => ?_)
                    clear ho2 hg2 hat2
                    clear hK K
                    simp only [Act.put, List.setIfInBounds_toArray, List.set_cons_zero, List.set_cons_succ]
                    refine wpAnyH_ready (rs := [9]) (by kernel_rfl) (by simp) ?_
                    refine AllReadyH.cons rfl (fun K hK => ?_) ?_
                    · refine step_one x rfl 54 rfl (.tmp 53) rfl rfl ?_
                      have HXW3 : Hid (X9 WZ x _ _) := Lib.hid (X9.new (W := w2) (x := x) HBW2.out)
                      have HRW3 := Lib.hid (HRW2.out.alloc (.cells (encID x).toArray 42))
                      have HNE3 := Lib.hid (HRW2.out.ne)
                      have HBW3 : Hid (Below WZ.heap.size WZ _) := Lib.hid (HBW2.out.alloc HBW2.out.size (.cells (encID x).toArray 42))
                      refine hK.out _ _ HBW3.out (fun hHeld3 => ?_)
                      clear hK K
                      simp only [Act.put, List.setIfInBounds_toArray, List.set_cons_zero, List.set_cons_succ]
                      refine wpAnyH_ready (rs := [10]) (by kernel_rfl) (by simp) ?_
                      refine AllReadyH.cons rfl (fun K hK => ?_) ?_
                      · refine step_app rfl 55 rfl (.tmp 49) (.tmp 54) rfl HRW3.out rfl _ [x] rfl HXW3.out.src (by have := HM.out; simp <;> omega) ?_
                        intro v4 w4 ho4 hg4 hat4
                        have HRW4 := Lib.hid ho4
                        have HBW4 := Lib.hid ho4.bel
                        refine hK.out _ _ HBW4.out (fun hHeld4 => ?_)
                        clear ho4 hg4 hat4
                        clear hK K
                        simp only [Act.put, List.setIfInBounds_toArray, List.set_cons_zero, List.set_cons_succ]
                        refine wpAnyH_ready (rs := [14]) (by kernel_rfl) (by simp) ?_
                        refine AllReadyH.cons rfl (fun K hK => ?_) ?_
                        · refine step_app rfl 59 rfl (.tmp 55) (.tmp 58) rfl HRW4.out rfl _ (out.drop k) rfl (HSB.out _ HBW4.out) (by have := HM.out; simp <;> omega) ?_
                          intro v5 w5 ho5 hg5 hat5
                          have HRW5 := Lib.hid ho5
                          have HBW5 := Lib.hid ho5.bel
                          refine hK.out _ _ HBW5.out (fun hHeld5 => ?_)
                          clear ho5 hg5 hat5
                          clear hK K
                          simp only [Act.put, List.setIfInBounds_toArray, List.set_cons_zero, List.set_cons_succ]
                          refine takeH_at 15 3 (v := ?_) rfl rfl (by kernel_rfl) (by kernel_rfl) (by kernel_rfl) (fun _ _ _ h => h) (Or.inl ⟨by rfl, ?_⟩) (by assumption) ?_
                          rotate_left
                          · (intro wx hSw; clear hSw; go_simp) <;> with_reducible rfl
                          simp only [Act.put, List.setIfInBounds_toArray, List.set_cons_zero, List.set_cons_succ]
                          refine wpAnyH_done (by kernel_rfl) ?_ _
                          refine NoPanic.normal ?_
                          have HREL := Lib.hid (HFIN.out _ _ HRW5.out)
                          clear HFIN
                          go_wp2
                          go_roundw
                          case rel => exact HREL.out
                          case measure => simp [intOf]; omega
                        exact AllReadyH.nil
                      exact AllReadyH.nil
                    exact AllReadyH.nil
                  refine AllReadyH.cons rfl (fun K hK => ?_) ?_
                  · refine step_one x rfl 54 rfl (.tmp 53) rfl rfl ?_
                    have HXW6 : Hid (X9 WZ x _ _) := Lib.hid (X9.new (W := (WZ.drew.alloc (.cells #[] 42))) (x := x) HBW1.out)
                    have HRW6 := Lib.hid (HRW1.out.alloc (.cells (encID x).toArray 42))
                    have HNE6 := Lib.hid (HRW1.out.ne)
                    have HBW6 : Hid (Below WZ.heap.size WZ _) := Lib.hid (HBW1.out.alloc HBW1.out.size (.cells (encID x).toArray 42))
                    refine hK.out _ _ HBW6.out (fun hHeld6 => ?_)
                    clear hK K
                    simp only [Act.put, List.setIfInBounds_toArray, List.set_cons_zero, List.set_cons_succ]
                    refine wpAnyH_ready (rs := [4]) (by kernel_rfl) (by simp) ?_
                    refine AllReadyH.cons rfl (fun K hK => ?_) ?_
                    · refine step_app rfl 49 rfl (.tmp 45) (.tmp 48) rfl HRW6.out rfl _ (out.take k) rfl (HSA.out _ HBW6.out) (by have := HM.out; simp <;> omega) ?_
                      intro v7 w7 ho7 hg7 hat7
                      have HRW7 := Lib.hid ho7
                      have HBW7 := Lib.hid ho7.bel
                      have HXW7 := Lib.hid (HXW6.out.grown hg7 HNE6.out)
                      have HNE7 := Lib.hid (ne_app HXW6.out HNE6.out hat7)
                      refine hK.out _ _ HBW7.out (fun hHeld7 => ?_)
                      clear ho7 hg7 hat7
                      clear hK K
                      simp only [Act.put, List.setIfInBounds_toArray, List.set_cons_zero, List.set_cons_succ]
                      refine wpAnyH_ready (rs := [10]) (by kernel_rfl) (by simp) ?_
                      refine AllReadyH.cons rfl (fun K hK => ?_) ?_
                      · refine step_app rfl 55 rfl (.tmp 49) (.tmp 54) rfl HRW7.out rfl _ [x] rfl HXW7.out.src (by have := HM.out; simp <;> omega) ?_
                        intro v8 w8 ho8 hg8 hat8
                        have HRW8 := Lib.hid ho8
                        have HBW8 := Lib.hid ho8.bel
                        refine hK.out _ _ HBW8.out (fun hHeld8 => ?_)
                        clear ho8 hg8 hat8
                        clear hK K
                        simp only [Act.put, List.setIfInBounds_toArray, List.set_cons_zero, List.set_cons_succ]
                        refine wpAnyH_ready (rs := [14]) (by kernel_rfl) (by simp) ?_
                        refine AllReadyH.cons rfl (fun K hK => ?_) ?_
                        · refine step_app rfl 59 rfl (.tmp 55) (.tmp 58) rfl HRW8.out rfl _ (out.drop k) rfl (HSB.out _ HBW8.out) (by have := HM.out; simp <;> omega) ?_
                          intro v9 w9 ho9 hg9 hat9
                          have HRW9 := Lib.hid ho9
                          have HBW9 := Lib.hid ho9.bel
                          refine hK.out _ _ HBW9.out (fun hHeld9 => ?_)
                          clear ho9 hg9 hat9
                          clear hK K
                          simp only [Act.put, List.setIfInBounds_toArray, List.set_cons_zero, List.set_cons_succ]
                          refine takeH_at 15 3 (v := ?_) rfl rfl (by kernel_rfl) (by kernel_rfl) (by kernel_rfl) (fun _ _ _ h => h) (Or.inl ⟨by rfl, ?_⟩) (by assumption) ?_
                          rotate_left
                          · (intro wx hSw; clear hSw; go_simp) <;> with_reducible rfl
                          simp only [Act.put, List.setIfInBounds_toArray, List.set_cons_zero, List.set_cons_succ]
                          refine wpAnyH_done (by kernel_rfl) ?_ _
                          refine NoPanic.normal ?_
                          have HREL := Lib.hid (HFIN.out _ _ HRW9.out)
                          clear HFIN
                          go_wp2
                          go_roundw
                          case rel => exact HREL.out
                          case measure => simp [intOf]; omega
                        exact AllReadyH.nil
                      exact AllReadyH.nil
                    exact AllReadyH.nil
                  exact AllReadyH.nil
                refine AllReadyH.cons rfl (fun K hK => ?_) ?_
                · refine step_one x rfl 54 rfl (.tmp 53) rfl rfl ?_
                  have HXW10 : Hid (X9 WZ x _ _) := Lib.hid (X9.new (W := WZ.drew) (x := x) HSa.out)
                  have HBW10 : Hid (Below WZ.heap.size WZ _) := Lib.hid (HSa.out.alloc HSa.out.size (.cells (encID x).toArray 42))
                  refine hK.out _ _ HBW10.out (fun hHeld10 => ?_)
                  clear hK K
                  simp only [Act.put, List.setIfInBounds_toArray, List.set_cons_zero, List.set_cons_succ]
                  refine wpAnyH_ready (rs := [0]) (by kernel_rfl) (by simp) ?_
                  refine AllReadyH.cons rfl (fun K hK => ?_) ?_
                  · refine step_none rfl 45 rfl rfl ?_
                    have HRW11 : Hid (R9 WZ _ [] _) := Lib.hid (R9.new (W := (WZ.drew.alloc (.cells (encID x).toArray 42))) HBW10.out)
                    have HXW11 := Lib.hid (HXW10.out.alloc (.cells #[] 42))
                    have HNE11 : Hid (Value.ownBlock (.slice (some ⟨(WZ.drew.alloc (.cells (encID x).toArray 42)).heap.size, 0, none⟩) 0 0) ≠ some WZ.drew.heap.size) := Lib.hid (by intro e; injection e with e; have := HXW10.out.lt; simp at e <;> omega)
                    have HBW11 := Lib.hid HRW11.out.bel
                    refine hK.out _ _ HBW11.out (fun hHeld11 => ?_)
                    clear hK K
                    simp only [Act.put, List.setIfInBounds_toArray, List.set_cons_zero, List.set_cons_succ]
                    refine wpAnyH_ready (rs := [4]) (by kernel_rfl) (by simp) ?_
                    refine AllReadyH.cons rfl (fun K hK => ?_) ?_
                    · refine step_app rfl 49 rfl (.tmp 45) (.tmp 48) rfl HRW11.out rfl _ (out.take k) rfl (HSA.out _ HBW11.out) (by have := HM.out; simp <;> omega) ?_
                      intro v12 w12 ho12 hg12 hat12
                      have HRW12 := Lib.hid ho12
                      have HBW12 := Lib.hid ho12.bel
                      have HXW12 := Lib.hid (HXW11.out.grown hg12 HNE11.out)
                      have HNE12 := Lib.hid (ne_app HXW11.out HNE11.out hat12)
                      refine hK.out _ _ HBW12.out (fun hHeld12 => ?_)
                      clear ho12 hg12 hat12
                      clear hK K
                      simp only [Act.put, List.setIfInBounds_toArray, List.set_cons_zero, List.set_cons_succ]
                      refine wpAnyH_ready (rs := [10]) (by kernel_rfl) (by simp) ?_
                      refine AllReadyH.cons rfl (fun K hK => ?_) ?_
                      · refine step_app rfl 55 rfl (.tmp 49) (.tmp 54) rfl HRW12.out rfl _ [x] rfl HXW12.out.src (by have := HM.out; simp <;> omega) ?_
                        intro v13 w13 ho13 hg13 hat13
                        have HRW13 := Lib.hid ho13
                        have HBW13 := Lib.hid ho13.bel
                        refine hK.out _ _ HBW13.out (fun hHeld13 => ?_)
                        clear ho13 hg13 hat13
                        clear hK K
                        simp only [Act.put, List.setIfInBounds_toArray, List.set_cons_zero, List.set_cons_succ]
                        refine wpAnyH_ready (rs := [14]) (by kernel_rfl) (by simp) ?_
                        refine AllReadyH.cons rfl (fun K hK => ?_) ?_
                        · refine step_app rfl 59 rfl (.tmp 55) (.tmp 58) rfl HRW13.out rfl _ (out.drop k) rfl (HSB.out _ HBW13.out) (by have := HM.out; simp <;> omega) ?_
                          intro v14 w14 ho14 hg14 hat14
                          have HRW14 := Lib.hid ho14
                          have HBW14 := Lib.hid ho14.bel
                          refine hK.out _ _ HBW14.out (fun hHeld14 => ?_)
                          clear ho14 hg14 hat14
                          clear hK K
                          simp only [Act.put, List.setIfInBounds_toArray, List.set_cons_zero, List.set_cons_succ]
                          refine takeH_at 15 3 (v := ?_) rfl rfl (by kernel_rfl) (by kernel_rfl) (by kernel_rfl) (fun _ _ _ h => h) (Or.inl ⟨by rfl, ?_⟩) (by assumption) ?_
                          rotate_left
                          · (intro wx hSw; clear hSw; go_simp) <;> with_reducible rfl
                          simp only [Act.put, List.setIfInBounds_toArray, List.set_cons_zero, List.set_cons_succ]
                          refine wpAnyH_done (by kernel_rfl) ?_ _
                          refine NoPanic.normal ?_
                          have HREL := Lib.hid (HFIN.out _ _ HRW14.out)
                          clear HFIN
                          go_wp2
                          go_roundw
                          case rel => exact HREL.out
                          case measure => simp [intOf]; omega
                        exact AllReadyH.nil
                      exact AllReadyH.nil
                    exact AllReadyH.nil
                  exact AllReadyH.nil
                exact AllReadyH.nil
          · obtain rfl : k = m := by omega
            have HGE : Hid (∀ z, out[k]? = some z → ¬ nID z < nID x ∧ z ≠ x) := Lib.hid (fun z hz => by
              have h1 := (List.getElem?_eq_some_iff.1 hz).1
              have := HM.out
              omega)
            have hkn : ¬ (k : Int) < (k : Int) := by omega
            go_upto_region 6 with fail
            refine wp_region_kept wr.heap.size wr (Below.refl _ _) (by kernel_rfl) (by kernel_rfl) ?_
            repeat (go_big_quiet_step (fail))
            refine wpQuiet_nil ?_
            rintro wk ⟨⟨_, hwk⟩, rfl⟩
            have HWK := Lib.hid hwk
            clear hwk
            go_upto_region 8 with fail
            refine wp_region_kept wr.heap.size wr HWK.out (by kernel_rfl) (by kernel_rfl) ?_
            repeat (go_big_quiet_step (fail))
            refine wpQuiet_nil ?_
            rintro wz ⟨⟨_, hwz⟩, rfl⟩
            have HBZ := Lib.hid (HBK.out.trans (hwz.mono HBK.out.size))
            clear hwz HWK HLX HRX HBK hbk hkn
            rcases HF.out with ⟨rfl, hnil, rfl⟩ | ⟨g, rfl, hgb, hgw, hrg⟩
            · have HNIL := Lib.hid hnil
              obtain rfl : k = 0 := by omega
              clear hnil
              obtain ⟨WZ, hWZ⟩ : ∃ WZ, WZ = wz := ⟨_, rfl⟩
              rw [← hWZ] at HBZ ⊢
              clear hWZ
              have HLS : Hid (∀ W, Below WZ.heap.size WZ W → (loadVar 42 ⟨gl, off + j * 20, none⟩).run Try.prog W = .ok (.agg (encID x).toArray) W) := Lib.hid (fun W h => range_load42 (range_keep (range_keep HR.out (HBZ.out.block gl (Nat.lt_of_lt_of_le HG.out HB.out.size))) (h.block gl (Nat.lt_of_lt_of_le (Nat.lt_of_lt_of_le HG.out HB.out.size) HBZ.out.size))))
              have HSA : Hid (∀ W, Below WZ.heap.size WZ W → Src Try.prog 20 64 (.slice none 0 0) (out.take 0).length (flatI (out.take 0)) W) := Lib.hid (fun W h => by have e := HNIL.out; rw [e]; exact Src.ofNil W und64 0)
              have HSB : Hid (∀ W, Below WZ.heap.size WZ W → Src Try.prog 20 64 (.slice none 0 0) (out.drop 0).length (flatI (out.drop 0)) W) := Lib.hid (fun W h => by have e := HNIL.out; rw [e]; exact Src.ofNil W und64 0)
              have HFIN : Hid (∀ v W, R9 WZ v (([] ++ out.take 0) ++ [x] ++ out.drop 0) W → SoRel w L v (.int .i64 ((j : Int) + 1)) W) := Lib.hid (fun v W h => by
                have e1 := HM.out
                have e2 := HN.out
                have hl : ([] ++ out.take 0 ++ [x] ++ out.drop 0).length = out.length + 1 := by simp <;> omega
                refine ⟨j + 1, out.take 0 ++ [x] ++ out.drop 0, by omega, by go_num, ?_, ?_, ?_, ?_⟩
                · rw [take_snoc HX.out]
                  exact HS.out.ins nID_inj HQ.out HGE.out
                · have := hl; simp only [List.nil_append] at this; omega
                · have := own_mono h.own (Nat.le_trans HB.out.size HBZ.out.size)
                  simpa only [List.nil_append] using this
                · exact (HB.out.trans (HBZ.out.mono HB.out.size)).trans (h.bel.mono (Nat.le_trans HB.out.size HBZ.out.size)))
              have HSa : Hid (Below WZ.heap.size WZ WZ.drew) := Lib.hid (Below.refl _ _).drew
              clear HQ HGE HS HX HR HBZ
              go_upto_region 9 with fail
              refine wp_region_noPanic ?_
              refine wp_region_held_drew (S := fun w' => Below WZ.heap.size WZ w') (by kernel_rfl) HSa.out (fun hHeld => ?_)
              refine takeH_at 1 46 (v := ?_) rfl rfl (by kernel_rfl) (by kernel_rfl) (by kernel_rfl) (fun _ _ _ h => h) (Or.inl ⟨by rfl, ?_⟩) (by assumption) ?_
              rotate_left
              · (intro wx hSw; clear hSw; go_simp) <;> with_reducible rfl
              simp only [Act.put, List.setIfInBounds_toArray, List.set_cons_zero, List.set_cons_succ]
              refine takeH_at 2 47 (v := ?_) rfl rfl (by kernel_rfl) (by kernel_rfl) (by kernel_rfl) (fun _ _ _ h => h) (Or.inl ⟨by rfl, ?_⟩) (by assumption) ?_
              rotate_left
              · (intro wx hSw; clear hSw; go_simp) <;> with_reducible rfl
              simp only [Act.put, List.setIfInBounds_toArray, List.set_cons_zero, List.set_cons_succ]
              refine takeH_at 3 48 (v := ?_) rfl rfl (by kernel_rfl) (by kernel_rfl) (by kernel_rfl) (fun _ _ _ h => h) (Or.inl ⟨by rfl, ?_⟩) (by assumption) ?_
              rotate_left
              · (intro wx hSw; clear hSw; go_simp) <;> with_reducible rfl
              simp only [Act.put, List.setIfInBounds_toArray, List.set_cons_zero, List.set_cons_succ]
              refine takeH_at 5 50 (v := ?_) rfl rfl (by kernel_rfl) (by kernel_rfl) (by kernel_rfl) (fun _ _ _ h => h) (Or.inl ⟨by rfl, ?_⟩) (by assumption) ?_
              rotate_left
              · (intro wx hSw; clear hSw; go_simp) <;> with_reducible rfl
              simp only [Act.put, List.setIfInBounds_toArray, List.set_cons_zero, List.set_cons_succ]
              refine takeH_at 6 51 (v := ?_) rfl rfl (by kernel_rfl) (by kernel_rfl) (by kernel_rfl) (fun _ _ _ h => h) (Or.inl ⟨by rfl, ?_⟩) (by assumption) ?_
              rotate_left
              · (intro wx hSw; clear hSw; go_simp) <;> with_reducible rfl
              simp only [Act.put, List.setIfInBounds_toArray, List.set_cons_zero, List.set_cons_succ]
              refine takeH_at 7 52 (v := ?_) rfl rfl (by kernel_rfl) (by kernel_rfl) (by kernel_rfl) (fun _ _ _ h => h) (Or.inl ⟨by rfl, ?_⟩) (by assumption) ?_
              rotate_left
              · (intro wx hSw; clear hSw; go_simp) <;> with_reducible rfl
              simp only [Act.put, List.setIfInBounds_toArray, List.set_cons_zero, List.set_cons_succ]
              refine takeH_at 8 53 (v := .agg (encID x).toArray) rfl rfl (by kernel_rfl) (by kernel_rfl) (by kernel_rfl) (fun _ _ _ h => h) (yieldsIf_loadP (by rfl) 42 (.tmp 52) rfl _ rfl _ HLS.out) (by assumption) ?_
              simp only [Act.put, List.setIfInBounds_toArray, List.set_cons_zero, List.set_cons_succ]
              refine takeH_at 11 56 (v := ?_) rfl rfl (by kernel_rfl) (by kernel_rfl) (by kernel_rfl) (fun _ _ _ h => h) (Or.inl ⟨by rfl, ?_⟩) (by assumption) ?_
              rotate_left
              · (intro wx hSw; clear hSw; go_simp) <;> with_reducible rfl
              simp only [Act.put, List.setIfInBounds_toArray, List.set_cons_zero, List.set_cons_succ]
              refine takeH_at 12 57 (v := ?_) rfl rfl (by kernel_rfl) (by kernel_rfl) (by kernel_rfl) (fun _ _ _ h => h) (Or.inl ⟨by rfl, ?_⟩) (by assumption) ?_
              rotate_left
              · (intro wx hSw; clear hSw; go_simp) <;> with_reducible rfl
              simp only [Act.put, List.setIfInBounds_toArray, List.set_cons_zero, List.set_cons_succ]
              refine takeH_at 13 58 (v := ?_) rfl rfl (by kernel_rfl) (by kernel_rfl) (by kernel_rfl) (fun _ _ _ h => h) (Or.inl ⟨by rfl, ?_⟩) (by assumption) ?_
              rotate_left
              · (intro wx hSw; clear hSw; go_simp) <;> with_reducible rfl
              simp only [Act.put, List.setIfInBounds_toArray, List.set_cons_zero, List.set_cons_succ]
              refine wpAnyH_ready (rs := [0, 9]) (by kernel_rfl) (by simp) ?_
              refine AllReadyH.cons rfl (fun K hK => ?_) ?_
              · refine step_none rfl 45 rfl rfl ?_
                have HRW15 : Hid (R9 WZ _ [] _) := Lib.hid (R9.new (W := WZ.drew) HSa.out)
                have HBW15 := Lib.hid HRW15.out.bel
                refine hK.out _ _ HBW15.out (fun hHeld15 => ?_)
                clear hK K
                simp only [Act.put, List.setIfInBounds_toArray, List.set_cons_zero, List.set_cons_succ]
                refine wpAnyH_ready (rs := [4, 9]) (by kernel_rfl) (by simp) ?_
                refine AllReadyH.cons rfl (fun K hK => ?_) ?_
                · refine step_app rfl 49 rfl (.tmp 45) (.tmp 48) rfl HRW15.out rfl _ (out.take 0) rfl (HSA.out _ HBW15.out) (by have := HM.out; simp <;> omega) ?_
                  intro v16 w16 ho16 hg16 hat16
                  have HRW16 := Lib.hid ho16
                  have HBW16 := Lib.hid ho16.bel
                  refine hK.out _ _ HBW16.out (fun hHeld16 => ?_)
                  clear ho16 hg16 hat16
                  clear hK K
                  simp only [Act.put, List.setIfInBounds_toArray, List.set_cons_zero, List.set_cons_succ]
                  refine wpAnyH_ready (rs := [9]) (by kernel_rfl) (by simp) ?_
                  refine AllReadyH.cons rfl (fun K hK => ?_) ?_
                  · refine step_one x rfl 54 rfl (.tmp 53) rfl rfl ?_
                    have HXW17 : Hid (X9 WZ x _ _) := Lib.hid (X9.new (W := w16) (x := x) HBW16.out)
                    have HRW17 := Lib.hid (HRW16.out.alloc (.cells (encID x).toArray 42))
                    have HNE17 := Lib.hid (HRW16.out.ne)
                    have HBW17 : Hid (Below WZ.heap.size WZ _) := Lib.hid (HBW16.out.alloc HBW16.out.size (.cells (encID x).toArray 42))
                    refine hK.out _ _ HBW17.out (fun hHeld17 => ?_)
                    clear hK K
                    simp only [Act.put, List.setIfInBounds_toArray, List.set_cons_zero, List.set_cons_succ]
                    refine wpAnyH_ready (rs := [10]) (by kernel_rfl) (by simp) ?_
                    refine AllReadyH.cons rfl (fun K hK => ?_) ?_
                    · refine step_app rfl 55 rfl (.tmp 49) (.tmp 54) rfl HRW17.out rfl _ [x] rfl HXW17.out.src (by have := HM.out; simp <;> omega) ?_
                      intro v18 w18 ho18 hg18 hat18
                      have HRW18 := Lib.hid ho18
                      have HBW18 := Lib.hid ho18.bel
                      refine hK.out _ _ HBW18.out (fun hHeld18 => ?_)
                      clear ho18 hg18 hat18
                      clear hK K
                      simp only [Act.put, List.setIfInBounds_toArray, List.set_cons_zero, List.set_cons_succ]
                      refine wpAnyH_ready (rs := [14]) (by kernel_rfl) (by simp) ?_
                      refine AllReadyH.cons rfl (fun K hK => ?_) ?_
                      · refine step_app rfl 59 rfl (.tmp 55) (.tmp 58) rfl HRW18.out rfl _ (out.drop 0) rfl (HSB.out _ HBW18.out) (by have := HM.out; simp <;> omega) ?_
                        intro v19 w19 ho19 hg19 hat19
                        have HRW19 := Lib.hid ho19
                        have HBW19 := Lib.hid ho19.bel
                        refine hK.out _ _ HBW19.out (fun hHeld19 => ?_)
                        clear ho19 hg19 hat19
                        clear hK K
                        simp only [Act.put, List.setIfInBounds_toArray, List.set_cons_zero, List.set_cons_succ]
                        refine takeH_at 15 3 (v := ?_) rfl rfl (by kernel_rfl) (by kernel_rfl) (by kernel_rfl) (fun _ _ _ h => h) (Or.inl ⟨by rfl, ?_⟩) (by assumption) ?_
                        rotate_left
                        · (intro wx hSw; clear hSw; go_simp) <;> with_reducible rfl
                        simp only [Act.put, List.setIfInBounds_toArray, List.set_cons_zero, List.set_cons_succ]
                        refine wpAnyH_done (by kernel_rfl) ?_ _
                        refine NoPanic.normal ?_
                        have HREL := Lib.hid (HFIN.out _ _ HRW19.out)
                        clear HFIN
                        go_wp2
                        go_roundw
                        case rel => exact HREL.out
                        case measure => simp [intOf]; omega
                      exact AllReadyH.nil
                    exact AllReadyH.nil
                  exact AllReadyH.nil
                refine AllReadyH.cons rfl (fun K hK => ?_) ?_
                · refine step_one x rfl 54 rfl (.tmp 53) rfl rfl ?_
                  have HXW20 : Hid (X9 WZ x _ _) := Lib.hid (X9.new (W := (WZ.drew.alloc (.cells #[] 42))) (x := x) HBW15.out)
                  have HRW20 := Lib.hid (HRW15.out.alloc (.cells (encID x).toArray 42))
                  have HNE20 := Lib.hid (HRW15.out.ne)
                  have HBW20 : Hid (Below WZ.heap.size WZ _) := Lib.hid (HBW15.out.alloc HBW15.out.size (.cells (encID x).toArray 42))
                  refine hK.out _ _ HBW20.out (fun hHeld20 => ?_)
                  clear hK K
                  simp only [Act.put, List.setIfInBounds_toArray, List.set_cons_zero, List.set_cons_succ]
                  refine wpAnyH_ready (rs := [4]) (by kernel_rfl) (by simp) ?_
                  refine AllReadyH.cons rfl (fun K hK => ?_) ?_
                  · refine step_app rfl 49 rfl (.tmp 45) (.tmp 48) rfl HRW20.out rfl _ (out.take 0) rfl (HSA.out _ HBW20.out) (by have := HM.out; simp <;> omega) ?_
                    intro v21 w21 ho21 hg21 hat21
                    have HRW21 := Lib.hid ho21
                    have HBW21 := Lib.hid ho21.bel
                    have HXW21 := Lib.hid (HXW20.out.grown hg21 HNE20.out)
                    have HNE21 := Lib.hid (ne_app HXW20.out HNE20.out hat21)
                    refine hK.out _ _ HBW21.out (fun hHeld21 => ?_)
                    clear ho21 hg21 hat21
                    clear hK K
                    simp only [Act.put, List.setIfInBounds_toArray, List.set_cons_zero, List.set_cons_succ]
                    refine wpAnyH_ready (rs := [10]) (by kernel_rfl) (by simp) ?_
                    refine AllReadyH.cons rfl (fun K hK => ?_) ?_
                    · refine step_app rfl 55 rfl (.tmp 49) (.tmp 54) rfl HRW21.out rfl _ [x] rfl HXW21.out.src (by have := HM.out; simp <;> omega) ?_
                      intro v22 w22 ho22 hg22 hat22
                      have HRW22 := Lib.hid ho22
                      have HBW22 := Lib.hid ho22.bel
                      refine hK.out _ _ HBW22.out (fun hHeld22 => ?_)
                      clear ho22 hg22 hat22
                      clear hK K
                      simp only [Act.put, List.setIfInBounds_toArray, List.set_cons_zero, List.set_cons_succ]
                      refine wpAnyH_ready (rs := [14]) (by kernel_rfl) (by simp) ?_
                      refine AllReadyH.cons rfl (fun K hK => ?_) ?_
                      · refine step_app rfl 59 rfl (.tmp 55) (.tmp 58) rfl HRW22.out rfl _ (out.drop 0) rfl (HSB.out _ HBW22.out) (by have := HM.out; simp <;> omega) ?_
                        intro v23 w23 ho23 hg23 hat23
                        have HRW23 := Lib.hid ho23
                        have HBW23 := Lib.hid ho23.bel
                        refine hK.out _ _ HBW23.out (fun hHeld23 => ?_)
                        clear ho23 hg23 hat23
                        clear hK K
                        simp only [Act.put, List.setIfInBounds_toArray, List.set_cons_zero, List.set_cons_succ]
                        refine takeH_at 15 3 (v := ?_) rfl rfl (by kernel_rfl) (by kernel_rfl) (by kernel_rfl) (fun _ _ _ h => h) (Or.inl ⟨by rfl, ?_⟩) (by assumption) ?_
                        rotate_left
                        · (intro wx hSw; clear hSw; go_simp) <;> with_reducible rfl
                        simp only [Act.put, List.setIfInBounds_toArray, List.set_cons_zero, List.set_cons_succ]
                        refine wpAnyH_done (by kernel_rfl) ?_ _
                        refine NoPanic.normal ?_
                        have HREL := Lib.hid (HFIN.out _ _ HRW23.out)
                        clear HFIN
                        go_wp2
                        go_roundw
                        case rel => exact HREL.out
                        case measure => simp [intOf]; omega
                      exact AllReadyH.nil
                    exact AllReadyH.nil
                  exact AllReadyH.nil
                exact AllReadyH.nil
              refine AllReadyH.cons rfl (fun K hK => ?_) ?_
              · refine step_one x rfl 54 rfl (.tmp 53) rfl rfl ?_
                have HXW24 : Hid (X9 WZ x _ _) := Lib.hid (X9.new (W := WZ.drew) (x := x) HSa.out)
                have HBW24 : Hid (Below WZ.heap.size WZ _) := Lib.hid (HSa.out.alloc HSa.out.size (.cells (encID x).toArray 42))
                refine hK.out _ _ HBW24.out (fun hHeld24 => ?_)
                clear hK K
                simp only [Act.put, List.setIfInBounds_toArray, List.set_cons_zero, List.set_cons_succ]
                refine wpAnyH_ready (rs := [0]) (by kernel_rfl) (by simp) ?_
                refine AllReadyH.cons rfl (fun K hK => ?_) ?_
                · refine step_none rfl 45 rfl rfl ?_
                  have HRW25 : Hid (R9 WZ _ [] _) := Lib.hid (R9.new (W := (WZ.drew.alloc (.cells (encID x).toArray 42))) HBW24.out)
                  have HXW25 := Lib.hid (HXW24.out.alloc (.cells #[] 42))
                  have HNE25 : Hid (Value.ownBlock (.slice (some ⟨(WZ.drew.alloc (.cells (encID x).toArray 42)).heap.size, 0, none⟩) 0 0) ≠ some WZ.drew.heap.size) := Lib.hid (by intro e; injection e with e; have := HXW24.out.lt; simp at e <;> omega)
                  have HBW25 := Lib.hid HRW25.out.bel
                  refine hK.out _ _ HBW25.out (fun hHeld25 => ?_)
                  clear hK K
                  simp only [Act.put, List.setIfInBounds_toArray, List.set_cons_zero, List.set_cons_succ]
                  refine wpAnyH_ready (rs := [4]) (by kernel_rfl) (by simp) ?_
                  refine AllReadyH.cons rfl (fun K hK => ?_) ?_
                  · refine step_app rfl 49 rfl (.tmp 45) (.tmp 48) rfl HRW25.out rfl _ (out.take 0) rfl (HSA.out _ HBW25.out) (by have := HM.out; simp <;> omega) ?_
                    intro v26 w26 ho26 hg26 hat26
                    have HRW26 := Lib.hid ho26
                    have HBW26 := Lib.hid ho26.bel
                    have HXW26 := Lib.hid (HXW25.out.grown hg26 HNE25.out)
                    have HNE26 := Lib.hid (ne_app HXW25.out HNE25.out hat26)
                    refine hK.out _ _ HBW26.out (fun hHeld26 => ?_)
                    clear ho26 hg26 hat26
                    clear hK K
                    simp only [Act.put, List.setIfInBounds_toArray, List.set_cons_zero, List.set_cons_succ]
                    refine wpAnyH_ready (rs := [10]) (by kernel_rfl) (by simp) ?_
                    refine AllReadyH.cons rfl (fun K hK => ?_) ?_
                    · refine step_app rfl 55 rfl (.tmp 49) (.tmp 54) rfl HRW26.out rfl _ [x] rfl HXW26.out.src (by have := HM.out; simp <;> omega) ?_
                      intro v27 w27 ho27 hg27 hat27
                      have HRW27 := Lib.hid ho27
                      have HBW27 := Lib.hid ho27.bel
                      refine hK.out _ _ HBW27.out (fun hHeld27 => ?_)
                      clear ho27 hg27 hat27
                      clear hK K
                      simp only [Act.put, List.setIfInBounds_toArray, List.set_cons_zero, List.set_cons_succ]
                      refine wpAnyH_ready (rs := [14]) (by kernel_rfl) (by simp) ?_
                      refine AllReadyH.cons rfl (fun K hK => ?_) ?_
                      · refine step_app rfl 59 rfl (.tmp 55) (.tmp 58) rfl HRW27.out rfl _ (out.drop 0) rfl (HSB.out _ HBW27.out) (by have := HM.out; simp <;> omega) ?_
                        intro v28 w28 ho28 hg28 hat28
                        have HRW28 := Lib.hid ho28
                        have HBW28 := Lib.hid ho28.bel
                        refine hK.out _ _ HBW28.out (fun hHeld28 => ?_)
                        clear ho28 hg28 hat28
                        clear hK K
                        simp only [Act.put, List.setIfInBounds_toArray, List.set_cons_zero, List.set_cons_succ]
                        refine takeH_at 15 3 (v := ?_) rfl rfl (by kernel_rfl) (by kernel_rfl) (by kernel_rfl) (fun _ _ _ h => h) (Or.inl ⟨by rfl, ?_⟩) (by assumption) ?_
                        rotate_left
                        · (intro wx hSw; clear hSw; go_simp) <;> with_reducible rfl
                        simp only [Act.put, List.setIfInBounds_toArray, List.set_cons_zero, List.set_cons_succ]
                        refine wpAnyH_done (by kernel_rfl) ?_ _
                        refine NoPanic.normal ?_
                        have HREL := Lib.hid (HFIN.out _ _ HRW28.out)
                        clear HFIN
                        go_wp2
                        go_roundw
                        case rel => exact HREL.out
                        case measure => simp [intOf]; omega
                      exact AllReadyH.nil
                    exact AllReadyH.nil
                  exact AllReadyH.nil
                exact AllReadyH.nil
              exact AllReadyH.nil
            · have HRG := Lib.hid hrg
              have HGW : Hid (g < wo.heap.size) := Lib.hid hgw
              clear hrg hgw hgb
              obtain ⟨WZ, hWZ⟩ : ∃ WZ, WZ = wz := ⟨_, rfl⟩
              rw [← hWZ] at HBZ ⊢
              clear hWZ
              have HLS : Hid (∀ W, Below WZ.heap.size WZ W → (loadVar 42 ⟨gl, off + j * 20, none⟩).run Try.prog W = .ok (.agg (encID x).toArray) W) := Lib.hid (fun W h => range_load42 (range_keep (range_keep HR.out (HBZ.out.block gl (Nat.lt_of_lt_of_le HG.out HB.out.size))) (h.block gl (Nat.lt_of_lt_of_le (Nat.lt_of_lt_of_le HG.out HB.out.size) HBZ.out.size))))
              have hgz : ∀ W, Below WZ.heap.size WZ W → W.rangeAt g 0 (flatI out) := fun W h => range_keep (range_keep HRG.out (HBZ.out.block g HGW.out)) (h.block g (Nat.lt_of_lt_of_le HGW.out HBZ.out.size))
              have HSA : Hid (∀ W, Below WZ.heap.size WZ W → Src Try.prog 20 64 (.slice (some ⟨g, 0, none⟩) k cv) (out.take k).length (flatI (out.take k)) W) := Lib.hid (fun W h => src_take (hgz W h) (by have := HM.out; omega))
              have HSB : Hid (∀ W, Below WZ.heap.size WZ W → ∀ A c, Src Try.prog 20 64 (.slice A 0 c) (out.drop k).length (flatI (out.drop k)) W) := Lib.hid (fun W _ A c => by have e : out.drop k = [] := List.drop_eq_nil_of_le (by rw [HM.out]; exact Nat.le_refl _); rw [e]; exact src_zero A c W)
              clear hgz
              have HFIN : Hid (∀ v W, R9 WZ v (([] ++ out.take k) ++ [x] ++ out.drop k) W → SoRel w L v (.int .i64 ((j : Int) + 1)) W) := Lib.hid (fun v W h => by
                have e1 := HM.out
                have e2 := HN.out
                have hl : ([] ++ out.take k ++ [x] ++ out.drop k).length = out.length + 1 := by simp <;> omega
                refine ⟨j + 1, out.take k ++ [x] ++ out.drop k, by omega, by go_num, ?_, ?_, ?_, ?_⟩
                · rw [take_snoc HX.out]
                  exact HS.out.ins nID_inj HQ.out HGE.out
                · have := hl; simp only [List.nil_append] at this; omega
                · have := own_mono h.own (Nat.le_trans HB.out.size HBZ.out.size)
                  simpa only [List.nil_append] using this
                · exact (HB.out.trans (HBZ.out.mono HB.out.size)).trans (h.bel.mono (Nat.le_trans HB.out.size HBZ.out.size)))
              have HSa : Hid (Below WZ.heap.size WZ WZ.drew) := Lib.hid (Below.refl _ _).drew
              clear HQ HGE HS HX HR HBZ
              go_upto_region 9 with fail
              refine wp_region_noPanic ?_
              refine wp_region_held_drew (S := fun w' => Below WZ.heap.size WZ w') (by kernel_rfl) HSa.out (fun hHeld => ?_)
              refine takeH_at 1 46 (v := ?_) rfl rfl (by kernel_rfl) (by kernel_rfl) (by kernel_rfl) (fun _ _ _ h => h) (Or.inl ⟨by rfl, ?_⟩) (by assumption) ?_
              rotate_left
              · (intro wx hSw; clear hSw; go_simp) <;> with_reducible rfl
              simp only [Act.put, List.setIfInBounds_toArray, List.set_cons_zero, List.set_cons_succ]
              refine takeH_at 2 47 (v := ?_) rfl rfl (by kernel_rfl) (by kernel_rfl) (by kernel_rfl) (fun _ _ _ h => h) (Or.inl ⟨by rfl, ?_⟩) (by assumption) ?_
              rotate_left
              · (intro wx hSw; clear hSw; go_simp) <;> with_reducible rfl
              simp only [Act.put, List.setIfInBounds_toArray, List.set_cons_zero, List.set_cons_succ]
              refine takeH_at 3 48 (v := ?_) rfl rfl (by kernel_rfl) (by kernel_rfl) (by kernel_rfl) (fun _ _ _ h => h) (Or.inl ⟨by rfl, ?_⟩) (by assumption) ?_
              rotate_left
              · (intro wx hSw; clear hSw; go_simp) <;> with_reducible rfl
              simp only [Act.put, List.setIfInBounds_toArray, List.set_cons_zero, List.set_cons_succ]
              refine takeH_at 5 50 (v := ?_) rfl rfl (by kernel_rfl) (by kernel_rfl) (by kernel_rfl) (fun _ _ _ h => h) (Or.inl ⟨by rfl, ?_⟩) (by assumption) ?_
              rotate_left
              · (intro wx hSw; clear hSw; go_simp) <;> with_reducible rfl
              simp only [Act.put, List.setIfInBounds_toArray, List.set_cons_zero, List.set_cons_succ]
              refine takeH_at 6 51 (v := ?_) rfl rfl (by kernel_rfl) (by kernel_rfl) (by kernel_rfl) (fun _ _ _ h => h) (Or.inl ⟨by rfl, ?_⟩) (by assumption) ?_
              rotate_left
              · (intro wx hSw; clear hSw; go_simp) <;> with_reducible rfl
              simp only [Act.put, List.setIfInBounds_toArray, List.set_cons_zero, List.set_cons_succ]
              refine takeH_at 7 52 (v := ?_) rfl rfl (by kernel_rfl) (by kernel_rfl) (by kernel_rfl) (fun _ _ _ h => h) (Or.inl ⟨by rfl, ?_⟩) (by assumption) ?_
              rotate_left
              · (intro wx hSw; clear hSw; go_simp) <;> with_reducible rfl
              simp only [Act.put, List.setIfInBounds_toArray, List.set_cons_zero, List.set_cons_succ]
              refine takeH_at 8 53 (v := .agg (encID x).toArray) rfl rfl (by kernel_rfl) (by kernel_rfl) (by kernel_rfl) (fun _ _ _ h => h) (yieldsIf_loadP (by rfl) 42 (.tmp 52) rfl _ rfl _ HLS.out) (by assumption) ?_
              simp only [Act.put, List.setIfInBounds_toArray, List.set_cons_zero, List.set_cons_succ]
              refine takeH_at 11 56 (v := ?_) rfl rfl (by kernel_rfl) (by kernel_rfl) (by kernel_rfl) (fun _ _ _ h => h) (Or.inl ⟨by rfl, ?_⟩) (by assumption) ?_
              rotate_left
              · (intro wx hSw; clear hSw; go_simp) <;> with_reducible rfl
              simp only [Act.put, List.setIfInBounds_toArray, List.set_cons_zero, List.set_cons_succ]
              refine takeH_at 12 57 (v := ?_) rfl rfl (by kernel_rfl) (by kernel_rfl) (by kernel_rfl) (fun _ _ _ h => h) (Or.inl ⟨by rfl, ?_⟩) (by assumption) ?_
              rotate_left
              · (intro wx hSw; clear hSw; go_simp) <;> with_reducible rfl
              simp only [Act.put, List.setIfInBounds_toArray, List.set_cons_zero, List.set_cons_succ]
              refine takeH_at 13 58 (v := ?_) rfl rfl (by kernel_rfl) (by kernel_rfl) (by kernel_rfl) (fun _ _ _ h => h) (Or.inl ⟨by rfl, ?_⟩) (by assumption) ?_
              rotate_left
              · (intro wx hSw; clear hSw; go_simp) <;> with_reducible rfl
              simp only [Act.put, List.setIfInBounds_toArray, List.set_cons_zero, List.set_cons_succ]
              refine wpAnyH_ready (rs := [0, 9]) (by kernel_rfl) (by simp) ?_
              refine AllReadyH.cons rfl (fun K hK => ?_) ?_
              · refine step_none rfl 45 rfl rfl ?_
                have HRW29 : Hid (R9 WZ _ [] _) := Lib.hid (R9.new (W := WZ.drew) HSa.out)
                have HBW29 := Lib.hid HRW29.out.bel
                refine hK.out _ _ HBW29.out (fun hHeld29 => ?_)
                clear hK K
                simp only [Act.put, List.setIfInBounds_toArray, List.set_cons_zero, List.set_cons_succ]
                refine wpAnyH_ready (rs := [4, 9]) (by kernel_rfl) (by simp) ?_
                refine AllReadyH.cons rfl (fun K hK => ?_) ?_
                · refine step_app rfl 49 rfl (.tmp 45) (.tmp 48) rfl HRW29.out rfl _ (out.take k) rfl (HSA.out _ HBW29.out) (by have := HM.out; simp <;> omega) ?_
                  intro v30 w30 ho30 hg30 hat30
                  have HRW30 := Lib.hid ho30
                  have HBW30 := Lib.hid ho30.bel
                  refine hK.out _ _ HBW30.out (fun hHeld30 => ?_)
                  clear ho30 hg30 hat30
                  clear hK K
                  simp only [Act.put, List.setIfInBounds_toArray, List.set_cons_zero, List.set_cons_succ]
                  refine wpAnyH_ready (rs := [9]) (by kernel_rfl) (by simp) ?_
                  refine AllReadyH.cons rfl (fun K hK => ?_) ?_
                  · refine step_one x rfl 54 rfl (.tmp 53) rfl rfl ?_
                    have HXW31 : Hid (X9 WZ x _ _) := Lib.hid (X9.new (W := w30) (x := x) HBW30.out)
                    have HRW31 := Lib.hid (HRW30.out.alloc (.cells (encID x).toArray 42))
                    have HNE31 := Lib.hid (HRW30.out.ne)
                    have HBW31 : Hid (Below WZ.heap.size WZ _) := Lib.hid (HBW30.out.alloc HBW30.out.size (.cells (encID x).toArray 42))
                    refine hK.out _ _ HBW31.out (fun hHeld31 => ?_)
                    clear hK K
                    simp only [Act.put, List.setIfInBounds_toArray, List.set_cons_zero, List.set_cons_succ]
                    refine wpAnyH_ready (rs := [10]) (by kernel_rfl) (by simp) ?_
                    refine AllReadyH.cons rfl (fun K hK => ?_) ?_
                    · refine step_app rfl 55 rfl (.tmp 49) (.tmp 54) rfl HRW31.out rfl _ [x] rfl HXW31.out.src (by have := HM.out; simp <;> omega) ?_
                      intro v32 w32 ho32 hg32 hat32
                      have HRW32 := Lib.hid ho32
                      have HBW32 := Lib.hid ho32.bel
                      refine hK.out _ _ HBW32.out (fun hHeld32 => ?_)
                      clear ho32 hg32 hat32
                      clear hK K
                      simp only [Act.put, List.setIfInBounds_toArray, List.set_cons_zero, List.set_cons_succ]
                      refine wpAnyH_ready (rs := [14]) (by kernel_rfl) (by simp) ?_
                      refine AllReadyH.cons rfl (fun K hK => ?_) ?_
                      · refine step_app rfl 59 rfl (.tmp 55) (.tmp 58) rfl HRW32.out rfl _ (out.drop k) rfl (HSB.out _ HBW32.out _ _) (by have := HM.out; simp <;> omega) ?_
                        intro v33 w33 ho33 hg33 hat33
                        have HRW33 := Lib.hid ho33
                        have HBW33 := Lib.hid ho33.bel
                        refine hK.out _ _ HBW33.out (fun hHeld33 => ?_)
                        clear ho33 hg33 hat33
                        clear hK K
                        simp only [Act.put, List.setIfInBounds_toArray, List.set_cons_zero, List.set_cons_succ]
                        refine takeH_at 15 3 (v := ?_) rfl rfl (by kernel_rfl) (by kernel_rfl) (by kernel_rfl) (fun _ _ _ h => h) (Or.inl ⟨by rfl, ?_⟩) (by assumption) ?_
                        rotate_left
                        · (intro wx hSw; clear hSw; go_simp) <;> with_reducible rfl
                        simp only [Act.put, List.setIfInBounds_toArray, List.set_cons_zero, List.set_cons_succ]
                        refine wpAnyH_done (by kernel_rfl) ?_ _
                        refine NoPanic.normal ?_
                        have HREL := Lib.hid (HFIN.out _ _ HRW33.out)
                        clear HFIN
                        go_wp2
                        go_roundw
                        case rel => exact HREL.out
                        case measure => simp [intOf]; omega
                      exact AllReadyH.nil
                    exact AllReadyH.nil
                  exact AllReadyH.nil
                refine AllReadyH.cons rfl (fun K hK => ?_) ?_
                · refine step_one x rfl 54 rfl (.tmp 53) rfl rfl ?_
                  have HXW34 : Hid (X9 WZ x _ _) := Lib.hid (X9.new (W := (WZ.drew.alloc (.cells #[] 42))) (x := x) HBW29.out)
                  have HRW34 := Lib.hid (HRW29.out.alloc (.cells (encID x).toArray 42))
                  have HNE34 := Lib.hid (HRW29.out.ne)
                  have HBW34 : Hid (Below WZ.heap.size WZ _) := Lib.hid (HBW29.out.alloc HBW29.out.size (.cells (encID x).toArray 42))
                  refine hK.out _ _ HBW34.out (fun hHeld34 => ?_)
                  clear hK K
                  simp only [Act.put, List.setIfInBounds_toArray, List.set_cons_zero, List.set_cons_succ]
                  refine wpAnyH_ready (rs := [4]) (by kernel_rfl) (by simp) ?_
                  refine AllReadyH.cons rfl (fun K hK => ?_) ?_
                  · refine step_app rfl 49 rfl (.tmp 45) (.tmp 48) rfl HRW34.out rfl _ (out.take k) rfl (HSA.out _ HBW34.out) (by have := HM.out; simp <;> omega) ?_
                    intro v35 w35 ho35 hg35 hat35
                    have HRW35 := Lib.hid ho35
                    have HBW35 := Lib.hid ho35.bel
                    have HXW35 := Lib.hid (HXW34.out.grown hg35 HNE34.out)
                    have HNE35 := Lib.hid (ne_app HXW34.out HNE34.out hat35)
                    refine hK.out _ _ HBW35.out (fun hHeld35 => ?_)
                    clear ho35 hg35 hat35
                    clear hK K
                    simp only [Act.put, List.setIfInBounds_toArray, List.set_cons_zero, List.set_cons_succ]
                    refine wpAnyH_ready (rs := [10]) (by kernel_rfl) (by simp) ?_
                    refine AllReadyH.cons rfl (fun K hK => ?_) ?_
                    · refine step_app rfl 55 rfl (.tmp 49) (.tmp 54) rfl HRW35.out rfl _ [x] rfl HXW35.out.src (by have := HM.out; simp <;> omega) ?_
                      intro v36 w36 ho36 hg36 hat36
                      have HRW36 := Lib.hid ho36
                      have HBW36 := Lib.hid ho36.bel
                      refine hK.out _ _ HBW36.out (fun hHeld36 => ?_)
                      clear ho36 hg36 hat36
                      clear hK K
                      simp only [Act.put, List.setIfInBounds_toArray, List.set_cons_zero, List.set_cons_succ]
                      refine wpAnyH_ready (rs := [14]) (by kernel_rfl) (by simp) ?_
                      refine AllReadyH.cons rfl (fun K hK => ?_) ?_
                      · refine step_app rfl 59 rfl (.tmp 55) (.tmp 58) rfl HRW36.out rfl _ (out.drop k) rfl (HSB.out _ HBW36.out _ _) (by have := HM.out; simp <;> omega) ?_
                        intro v37 w37 ho37 hg37 hat37
                        have HRW37 := Lib.hid ho37
                        have HBW37 := Lib.hid ho37.bel
                        refine hK.out _ _ HBW37.out (fun hHeld37 => ?_)
                        clear ho37 hg37 hat37
                        clear hK K
                        simp only [Act.put, List.setIfInBounds_toArray, List.set_cons_zero, List.set_cons_succ]
                        refine takeH_at 15 3 (v := ?_) rfl rfl (by kernel_rfl) (by kernel_rfl) (by kernel_rfl) (fun _ _ _ h => h) (Or.inl ⟨by rfl, ?_⟩) (by assumption) ?_
                        rotate_left
                        · (intro wx hSw; clear hSw; go_simp) <;> with_reducible rfl
                        simp only [Act.put, List.setIfInBounds_toArray, List.set_cons_zero, List.set_cons_succ]
                        refine wpAnyH_done (by kernel_rfl) ?_ _
                        refine NoPanic.normal ?_
                        have HREL := Lib.hid (HFIN.out _ _ HRW37.out)
                        clear HFIN
                        go_wp2
                        go_roundw
                        case rel => exact HREL.out
                        case measure => simp [intOf]; omega
                      exact AllReadyH.nil
                    exact AllReadyH.nil
                  exact AllReadyH.nil
                exact AllReadyH.nil
              refine AllReadyH.cons rfl (fun K hK => ?_) ?_
              · refine step_one x rfl 54 rfl (.tmp 53) rfl rfl ?_
                have HXW38 : Hid (X9 WZ x _ _) := Lib.hid (X9.new (W := WZ.drew) (x := x) HSa.out)
                have HBW38 : Hid (Below WZ.heap.size WZ _) := Lib.hid (HSa.out.alloc HSa.out.size (.cells (encID x).toArray 42))
                refine hK.out _ _ HBW38.out (fun hHeld38 => ?_)
                clear hK K
                simp only [Act.put, List.setIfInBounds_toArray, List.set_cons_zero, List.set_cons_succ]
                refine wpAnyH_ready (rs := [0]) (by kernel_rfl) (by simp) ?_
                refine AllReadyH.cons rfl (fun K hK => ?_) ?_
                · refine step_none rfl 45 rfl rfl ?_
                  have HRW39 : Hid (R9 WZ _ [] _) := Lib.hid (R9.new (W := (WZ.drew.alloc (.cells (encID x).toArray 42))) HBW38.out)
                  have HXW39 := Lib.hid (HXW38.out.alloc (.cells #[] 42))
                  have HNE39 : Hid (Value.ownBlock (.slice (some ⟨(WZ.drew.alloc (.cells (encID x).toArray 42)).heap.size, 0, none⟩) 0 0) ≠ some WZ.drew.heap.size) := Lib.hid (by intro e; injection e with e; have := HXW38.out.lt; simp at e <;> omega)
                  have HBW39 := Lib.hid HRW39.out.bel
                  refine hK.out _ _ HBW39.out (fun hHeld39 => ?_)
                  clear hK K
                  simp only [Act.put, List.setIfInBounds_toArray, List.set_cons_zero, List.set_cons_succ]
                  refine wpAnyH_ready (rs := [4]) (by kernel_rfl) (by simp) ?_
                  refine AllReadyH.cons rfl (fun K hK => ?_) ?_
                  · refine step_app rfl 49 rfl (.tmp 45) (.tmp 48) rfl HRW39.out rfl _ (out.take k) rfl (HSA.out _ HBW39.out) (by have := HM.out; simp <;> omega) ?_
                    intro v40 w40 ho40 hg40 hat40
                    have HRW40 := Lib.hid ho40
                    have HBW40 := Lib.hid ho40.bel
                    have HXW40 := Lib.hid (HXW39.out.grown hg40 HNE39.out)
                    have HNE40 := Lib.hid (ne_app HXW39.out HNE39.out hat40)
                    refine hK.out _ _ HBW40.out (fun hHeld40 => ?_)
                    clear ho40 hg40 hat40
                    clear hK K
                    simp only [Act.put, List.setIfInBounds_toArray, List.set_cons_zero, List.set_cons_succ]
                    refine wpAnyH_ready (rs := [10]) (by kernel_rfl) (by simp) ?_
                    refine AllReadyH.cons rfl (fun K hK => ?_) ?_
                    · refine step_app rfl 55 rfl (.tmp 49) (.tmp 54) rfl HRW40.out rfl _ [x] rfl HXW40.out.src (by have := HM.out; simp <;> omega) ?_
                      intro v41 w41 ho41 hg41 hat41
                      have HRW41 := Lib.hid ho41
                      have HBW41 := Lib.hid ho41.bel
                      refine hK.out _ _ HBW41.out (fun hHeld41 => ?_)
                      clear ho41 hg41 hat41
                      clear hK K
                      simp only [Act.put, List.setIfInBounds_toArray, List.set_cons_zero, List.set_cons_succ]
                      refine wpAnyH_ready (rs := [14]) (by kernel_rfl) (by simp) ?_
                      refine AllReadyH.cons rfl (fun K hK => ?_) ?_
                      · refine step_app rfl 59 rfl (.tmp 55) (.tmp 58) rfl HRW41.out rfl _ (out.drop k) rfl (HSB.out _ HBW41.out _ _) (by have := HM.out; simp <;> omega) ?_
                        intro v42 w42 ho42 hg42 hat42
                        have HRW42 := Lib.hid ho42
                        have HBW42 := Lib.hid ho42.bel
                        refine hK.out _ _ HBW42.out (fun hHeld42 => ?_)
                        clear ho42 hg42 hat42
                        clear hK K
                        simp only [Act.put, List.setIfInBounds_toArray, List.set_cons_zero, List.set_cons_succ]
                        refine takeH_at 15 3 (v := ?_) rfl rfl (by kernel_rfl) (by kernel_rfl) (by kernel_rfl) (fun _ _ _ h => h) (Or.inl ⟨by rfl, ?_⟩) (by assumption) ?_
                        rotate_left
                        · (intro wx hSw; clear hSw; go_simp) <;> with_reducible rfl
                        simp only [Act.put, List.setIfInBounds_toArray, List.set_cons_zero, List.set_cons_succ]
                        refine wpAnyH_done (by kernel_rfl) ?_ _
                        refine NoPanic.normal ?_
                        have HREL := Lib.hid (HFIN.out _ _ HRW42.out)
                        clear HFIN
                        go_wp2
                        go_roundw
                        case rel => exact HREL.out
                        case measure => simp [intOf]; omega
                      exact AllReadyH.nil
                    exact AllReadyH.nil
                  exact AllReadyH.nil
                exact AllReadyH.nil
              exact AllReadyH.nil
      · have hjn : j = L.length := by have := HN.out; omega
        have HSF : Hid (IsSet nID out L) := Lib.hid (by rw [hjn, List.take_length] at hset; exact hset)
        have HLN : Hid (out.length ≤ L.length) := Lib.hid (by omega)
        have HO := Lib.hid hown
        have HB := Lib.hid hb
        clear hset hlen hown hb hjn
        go_wp2
        go_ret
        exact ⟨_, out, rfl, HSF.out, HLN.out, HO.out, HB.out⟩
  rw [hn] at hg1
  exact hg1
end Go.Proofs.Ytcoiaddjfeaciaa
