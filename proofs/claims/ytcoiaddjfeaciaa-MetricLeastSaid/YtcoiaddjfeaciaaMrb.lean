/- Contract of the reference's Sort of layer metric. Conditions: fewer than 20000 ids. -/
import Derived.Test.YtcoiaddjfeaciaaGs
import Derived.Test.YtcoiaddjfeaciaaMra
namespace Go.Proofs.Ytcoiaddjfeaciaa
set_option maxRecDepth 100000
set_option maxHeartbeats 1000000
open Go.RowKit Go.Lib Go.Great

def FaRel (W : World) (t : IDv) (L : List IDv) (n : Nat) (v i : Value) (wr : World) : Prop := ∃ j : Nat, j ≤ n ∧ i = .int .i64 (j : Int) ∧ OwnIs W.heap.size 42 ((L.take j).map (xorI t)) v wr ∧ Below W.heap.size W wr
def RSrtIs (t : IDv) (M : List IDv) (base : Nat) (v : Value) (w : World) : Prop := ∃ S, IsSet (kM t) S M ∧ S.length ≤ M.length ∧ OwnIs base 42 S v w

theorem rmsort_any (t : IDv) (A : Option Addr) (c : Nat) (L : List IDv) (w : World) (hL : L.length ≤ 20000) (hA : IAt w w.heap.size A L) :
    Calls Try.prog 48 #[.agg (encID t).toArray, .slice A L.length c] w fun e w' => ∃ v, e = .returned v ∧ RSrtIs t L w.heap.size v w' ∧ Below w.heap.size w w' := by
  obtain ⟨T, hT⟩ : ∃ T, T = (encID t).toArray := ⟨_, rfl⟩
  have hb0 : Below w.heap.size w (w.alloc (.cells T 42)) := (Below.refl _ w).alloc (Nat.le_refl _) _
  obtain ⟨W0, hW0⟩ : ∃ W0, W0 = w.alloc (.cells T 42) := ⟨_, rfl⟩
  have h0 := heap_alloc_new w (.cells T 42)
  rw [← hW0] at hb0 h0
  have g0 := (Array.getElem?_eq_some_iff.1 h0).1
  have HG0 : Hid (w.heap.size < W0.heap.size) := Lib.hid g0
  have HH : Hid (W0.rangeAt w.heap.size 0 (encID t)) := Lib.hid (by rw [hT] at h0; exact row_range h0)
  have HLT : Hid (∀ W, Below W0.heap.size W0 W → (loadVar 42 ⟨w.heap.size, 0, none⟩).run Try.prog W = .ok (.agg T) W) := Lib.hid (fun W h => by
    rw [hT]
    exact range_load42 (range_keep HH.out (h.block _ g0)))
  have HA := Lib.hid ((hA.below hb0).more hb0.size)
  have HB0 := Lib.hid hb0
  have HW := Lib.hid hW0
  have HT := Lib.hid hT
  rw [← hT]
  obtain ⟨n, hn⟩ : ∃ n, n = L.length := ⟨_, rfl⟩
  rw [← hn] at hL ⊢
  have HN : Hid (n = L.length) := Lib.hid hn
  have R0 : Hid (FaRel W0 t L n (.slice none 0 0) (.int .i64 0) W0) := Lib.hid ⟨0, by omega, rfl, World.ownsRow_nil W0 _ 42 20, Below.refl _ _⟩
  clear hA hb0 hW0 h0 g0 hT hn
  go_enter Try.func48, Try.ntmps48
  go_upto_region 3 with fail
  rw [← HW.out]
  go_loopw [5, 6] (FaRel W0 t L n) (fun _ i _ => n - (intOf i).toNat)
  case atStart => exact R0.out
  case round =>
    obtain ⟨j, hj, rfl, hown, hb⟩ := hrel
    clear R0
    by_cases hlt : j < n
    · obtain ⟨y, hy⟩ : ∃ y, L[j]? = some y := ⟨L[j]'(by have := HN.out; omega), List.getElem?_eq_getElem _⟩
      obtain ⟨g, off, rfl, hg, hr0⟩ := HA.out.some_ (by have := HN.out; omega)
      have HLY : Hid (∀ W, Below W0.heap.size W0 W → (loadVar 42 ⟨g, off + j * 20, none⟩).run Try.prog W = .ok (.agg (encID y).toArray) W) := Lib.hid (fun W h => range_load42 (range_keep (range_part hr0 hy) (h.block g hg)))
      have HY := Lib.hid hy
      clear hr0 hg hy
      have HSa : Hid (Below W0.heap.size W0 wr.drew) := Lib.hid hb.drew
      have HZ : Hid (∀ W, Calls Try.prog 29 #[.agg (encID t).toArray, .agg (encID y).toArray] W fun e w' => e = .returned (.agg (encID (xorI t y)).toArray) ∧ Below W.heap.size W w') := Lib.hid (fun W => rxor_any t.val y.val t.property y.property W)
      have HO := Lib.hid (OwnIs.keep _ _ _ (Below.refl _ wr).drew hown)
      rw [← HT.out] at HZ
      clear hb hown
      go_upto_region 5 with fail
      refine wp_region_noPanic ?_
      refine wp_region_held_drew (S := fun w' => Below W0.heap.size W0 w') (by kernel_rfl) HSa.out (fun hHeld => ?_)
      refine takeH_at 0 15 (v := ?_) rfl rfl (by kernel_rfl) (by kernel_rfl) (by kernel_rfl) (fun _ _ _ h => h) (Or.inl ⟨by rfl, ?_⟩) (by assumption) ?_
      rotate_left
      · (intro wx hSw; clear hSw; go_simp) <;> with_reducible rfl
      simp only [Act.put, List.setIfInBounds_toArray, List.set_cons_zero, List.set_cons_succ]
      refine takeH_at 1 16 (v := .agg T) rfl rfl (by kernel_rfl) (by kernel_rfl) (by kernel_rfl) (fun _ _ _ h => h) (yieldsIf_loadQ (by rfl) 42 (.tmp 2) rfl _ rfl _ HLT.out) (by assumption) ?_
      simp only [Act.put, List.setIfInBounds_toArray, List.set_cons_zero, List.set_cons_succ]
      refine takeH_at 2 17 (v := ?_) rfl rfl (by kernel_rfl) (by kernel_rfl) (by kernel_rfl) (fun _ _ _ h => h) (Or.inl ⟨by rfl, ?_⟩) (by assumption) ?_
      rotate_left
      · (intro wx hSw; clear hSw; go_simp) <;> with_reducible rfl
      simp only [Act.put, List.setIfInBounds_toArray, List.set_cons_zero, List.set_cons_succ]
      refine takeH_at 3 18 (v := ?_) rfl rfl (by kernel_rfl) (by kernel_rfl) (by kernel_rfl) (fun _ _ _ h => h) (Or.inl ⟨by rfl, ?_⟩) (by assumption) ?_
      rotate_left
      · (intro wx hSw; clear hSw; go_simp) <;> with_reducible rfl
      simp only [Act.put, List.setIfInBounds_toArray, List.set_cons_zero, List.set_cons_succ]
      refine takeH_at 4 19 (v := ?_) rfl rfl (by kernel_rfl) (by kernel_rfl) (by kernel_rfl) (fun _ _ _ h => h) (Or.inl ⟨by rfl, ?_⟩) (by assumption) ?_
      rotate_left
      · (intro wx hSw; clear hSw; go_simp) <;> with_reducible rfl
      simp only [Act.put, List.setIfInBounds_toArray, List.set_cons_zero, List.set_cons_succ]
      refine takeH_at 5 20 (v := .agg (encID y).toArray) rfl rfl (by kernel_rfl) (by kernel_rfl) (by kernel_rfl) (fun _ _ _ h => h) (yieldsIf_loadQ (by rfl) 42 (.tmp 19) rfl _ rfl _ HLY.out) (by assumption) ?_
      simp only [Act.put, List.setIfInBounds_toArray, List.set_cons_zero, List.set_cons_succ]
      refine single 6 21 rfl rfl (by kernel_rfl) (by rfl) (fun u _ => u = .agg (encID (xorI t y)).toArray) (looseR_call 29 rfl (enters_of Try.func29 (by kernel_rfl) rfl) _ (by simp only [List.map_toArray, List.map_cons, List.map_nil]; rfl) ((HZ.out _).mono (by rintro e w' ⟨rfl, k⟩; exact ⟨_, rfl, hHeld.trans (k.mono hHeld.size), k, rfl⟩))) ?_
      intro u wa hSa hba hu
      subst hu
      simp only [Act.put, List.setIfInBounds_toArray, List.set_cons_zero, List.set_cons_succ]
      refine single 7 22 rfl rfl (by kernel_rfl) (by rfl) (OneIs 42 (xorI t y)) (loose_one (S := fun w' => Below W0.heap.size W0 w') IdT.doc (xorI t y) (fun w h => h.alloc h.size _) (.tmp 21) rfl rfl wa hSa) ?_
      intro q wb hSb hbb hq
      simp only [Act.put, List.setIfInBounds_toArray, List.set_cons_zero, List.set_cons_succ]
      have hO2 := OwnIs.keep _ _ _ hbb (OwnIs.keep _ _ _ hba HO.out)
      refine wpAnyH_ready (rs := [8]) (by kernel_rfl) (by simp) (AllReadyH.cons rfl (fun K hK => ?_) AllReadyH.nil)
      refine step_appT IdT.doc (by rfl) 23 rfl (.tmp 15) (.tmp 22) rfl W0.heap.size u5 ((L.take j).map (xorI t)) rfl hO2 q [xorI t y] rfl (OneIs.src IdT.doc hq) (by simp; omega) hSb.size ?_
      intro r wc hr hgc hatc
      have hSc := own_bel2 hO2 hSb hSb.size hgc
      refine hK.out _ _ hSc (fun _ => ?_)
      simp only [Act.put, List.setIfInBounds_toArray, List.set_cons_zero, List.set_cons_succ]
      clear hK K hgc hatc hSb hbb hba hSa hO2 hq
      refine takeH_at 9 5 (v := ?_) rfl rfl (by kernel_rfl) (by kernel_rfl) (by kernel_rfl) (fun _ _ _ h => h) (Or.inl ⟨by rfl, ?_⟩) (by assumption) ?_
      rotate_left
      · (intro wx hSw; clear hSw; go_simp) <;> with_reducible rfl
      simp only [Act.put, List.setIfInBounds_toArray, List.set_cons_zero, List.set_cons_succ]
      refine wpAnyH_done (by kernel_rfl) ?_ _
      refine NoPanic.normal ?_
      have HREL : Hid (FaRel W0 t L n r (.int .i64 ((j : Int) + 1)) wc) := Lib.hid ⟨j + 1, by omega, by go_num, by rw [take_snoc HY.out, List.map_append]; exact hr, hSc⟩
      clear hr hSc HO HZ HLY
      go_wp2
      go_roundw
      case rel => exact HREL.out
      case measure => simp [intOf]; omega
    · have hjn : j = L.length := by have := HN.out; omega
      have hown2 : OwnIs W0.heap.size 42 (L.map (xorI t)) u5 wr := by
        rw [hjn, List.take_length] at hown
        exact hown
      obtain ⟨A5, c5, rfl, _, _, _⟩ := own_form hown2
      have HRS := Lib.hid (rsort_any A5 c5 (L.map (xorI t)) wr (by rw [List.length_map, ← HN.out]; exact hL) (IAt.of_own hown2))
      have HB := Lib.hid hb
      obtain ⟨m0, hm0⟩ : ∃ m0, m0 = (L.map (xorI t)).length := ⟨_, rfl⟩
      rw [← hm0] at HRS ⊢
      rw [List.length_map] at hm0
      have HM0 : Hid (m0 = L.length) := Lib.hid hm0
      clear hm0
      clear hown hown2 hb hjn
      go_upto_region 7 with (go_at_call 41; refine HRS.out.mono ?_; rintro e W1 ⟨v1, out, rfl, hset, hlen, hown1, hb1⟩)
      obtain ⟨A1, c1, rfl, _, _, _⟩ := own_form hown1
      have HST := Lib.hid (set_back t hset)
      have hBW := HB.out.trans (hb1.mono HB.out.size)
      have HBW := Lib.hid hBW
      have HA1 := Lib.hid (IAt.of_own hown1)
      have HLT1 : Hid (∀ W, Below W1.heap.size W1 W → (loadVar 42 ⟨w.heap.size, 0, none⟩).run Try.prog W = .ok (.agg T) W) := Lib.hid (fun W h => HLT.out W (hBW.trans (h.mono hBW.size)))
      obtain ⟨m, hm⟩ : ∃ m, m = out.length := ⟨_, rfl⟩
      rw [← hm] at hlen ⊢
      have HM : Hid (m = out.length) := Lib.hid hm
      have hml : m ≤ 20000 := by have := HM0.out; have := HN.out; omega
      have hmn : Hid (m ≤ L.length) := Lib.hid (by rw [← HM0.out]; exact hlen)
      have R1 : Hid (FaRel W1 t out m (.slice none 0 0) (.int .i64 0) W1) := Lib.hid ⟨0, by omega, rfl, World.ownsRow_nil W1 _ 42 20, Below.refl _ _⟩
      clear hset hlen hown1 hb1 hBW hm HRS HB HA
      go_upto_region 9 with fail
      go_loopw [7, 8] (FaRel W1 t out m) (fun _ i _ => m - (intOf i).toNat)
      case atStart => exact R1.out
      case round =>
        obtain ⟨j, hj, rfl, hown, hb⟩ := hrel
        clear R1
        by_cases hlt2 : j < m
        · obtain ⟨y, hy⟩ : ∃ y, out[j]? = some y := ⟨out[j]'(by have := HM.out; omega), List.getElem?_eq_getElem _⟩
          obtain ⟨g, off, rfl, hg, hr0⟩ := HA1.out.some_ (by have := HM.out; omega)
          have HLY : Hid (∀ W, Below W1.heap.size W1 W → (loadVar 42 ⟨g, off + j * 20, none⟩).run Try.prog W = .ok (.agg (encID y).toArray) W) := Lib.hid (fun W h => range_load42 (range_keep (range_part hr0 hy) (h.block g hg)))
          have HY := Lib.hid hy
          clear hr0 hg hy
          have HSa : Hid (Below W1.heap.size W1 wr.drew) := Lib.hid hb.drew
          have HZ : Hid (∀ W, Calls Try.prog 29 #[.agg (encID t).toArray, .agg (encID y).toArray] W fun e w' => e = .returned (.agg (encID (xorI t y)).toArray) ∧ Below W.heap.size W w') := Lib.hid (fun W => rxor_any t.val y.val t.property y.property W)
          have HO := Lib.hid (OwnIs.keep _ _ _ (Below.refl _ wr).drew hown)
          rw [← HT.out] at HZ
          clear hb hown
          go_upto_region 11 with fail
          refine wp_region_noPanic ?_
          refine wp_region_held_drew (S := fun w' => Below W1.heap.size W1 w') (by kernel_rfl) HSa.out (fun hHeld => ?_)
          refine takeH_at 0 32 (v := ?_) rfl rfl (by kernel_rfl) (by kernel_rfl) (by kernel_rfl) (fun _ _ _ h => h) (Or.inl ⟨by rfl, ?_⟩) (by assumption) ?_
          rotate_left
          · (intro wx hSw; clear hSw; go_simp) <;> with_reducible rfl
          simp only [Act.put, List.setIfInBounds_toArray, List.set_cons_zero, List.set_cons_succ]
          refine takeH_at 1 33 (v := .agg T) rfl rfl (by kernel_rfl) (by kernel_rfl) (by kernel_rfl) (fun _ _ _ h => h) (yieldsIf_loadQ (by rfl) 42 (.tmp 2) rfl _ rfl _ HLT1.out) (by assumption) ?_
          simp only [Act.put, List.setIfInBounds_toArray, List.set_cons_zero, List.set_cons_succ]
          refine takeH_at 2 34 (v := ?_) rfl rfl (by kernel_rfl) (by kernel_rfl) (by kernel_rfl) (fun _ _ _ h => h) (Or.inl ⟨by rfl, ?_⟩) (by assumption) ?_
          rotate_left
          · (intro wx hSw; clear hSw; go_simp) <;> with_reducible rfl
          simp only [Act.put, List.setIfInBounds_toArray, List.set_cons_zero, List.set_cons_succ]
          refine takeH_at 3 35 (v := ?_) rfl rfl (by kernel_rfl) (by kernel_rfl) (by kernel_rfl) (fun _ _ _ h => h) (Or.inl ⟨by rfl, ?_⟩) (by assumption) ?_
          rotate_left
          · (intro wx hSw; clear hSw; go_simp) <;> with_reducible rfl
          simp only [Act.put, List.setIfInBounds_toArray, List.set_cons_zero, List.set_cons_succ]
          refine takeH_at 4 36 (v := ?_) rfl rfl (by kernel_rfl) (by kernel_rfl) (by kernel_rfl) (fun _ _ _ h => h) (Or.inl ⟨by rfl, ?_⟩) (by assumption) ?_
          rotate_left
          · (intro wx hSw; clear hSw; go_simp) <;> with_reducible rfl
          simp only [Act.put, List.setIfInBounds_toArray, List.set_cons_zero, List.set_cons_succ]
          refine takeH_at 5 37 (v := .agg (encID y).toArray) rfl rfl (by kernel_rfl) (by kernel_rfl) (by kernel_rfl) (fun _ _ _ h => h) (yieldsIf_loadQ (by rfl) 42 (.tmp 36) rfl _ rfl _ HLY.out) (by assumption) ?_
          simp only [Act.put, List.setIfInBounds_toArray, List.set_cons_zero, List.set_cons_succ]
          refine single 6 38 rfl rfl (by kernel_rfl) (by rfl) (fun u _ => u = .agg (encID (xorI t y)).toArray) (looseR_call 29 rfl (enters_of Try.func29 (by kernel_rfl) rfl) _ (by simp only [List.map_toArray, List.map_cons, List.map_nil]; rfl) ((HZ.out _).mono (by rintro e w' ⟨rfl, k⟩; exact ⟨_, rfl, hHeld.trans (k.mono hHeld.size), k, rfl⟩))) ?_
          intro u wa hSa hba hu
          subst hu
          simp only [Act.put, List.setIfInBounds_toArray, List.set_cons_zero, List.set_cons_succ]
          refine single 7 39 rfl rfl (by kernel_rfl) (by rfl) (OneIs 42 (xorI t y)) (loose_one (S := fun w' => Below W1.heap.size W1 w') IdT.doc (xorI t y) (fun w h => h.alloc h.size _) (.tmp 38) rfl rfl wa hSa) ?_
          intro q wb hSb hbb hq
          simp only [Act.put, List.setIfInBounds_toArray, List.set_cons_zero, List.set_cons_succ]
          have hO2 := OwnIs.keep _ _ _ hbb (OwnIs.keep _ _ _ hba HO.out)
          refine wpAnyH_ready (rs := [8]) (by kernel_rfl) (by simp) (AllReadyH.cons rfl (fun K hK => ?_) AllReadyH.nil)
          refine step_appT IdT.doc (by rfl) 40 rfl (.tmp 32) (.tmp 39) rfl W1.heap.size u7 ((out.take j).map (xorI t)) rfl hO2 q [xorI t y] rfl (OneIs.src IdT.doc hq) (by simp; omega) hSb.size ?_
          intro r wc hr hgc hatc
          have hSc := own_bel2 hO2 hSb hSb.size hgc
          refine hK.out _ _ hSc (fun _ => ?_)
          simp only [Act.put, List.setIfInBounds_toArray, List.set_cons_zero, List.set_cons_succ]
          clear hK K hgc hatc hSb hbb hba hSa hO2 hq
          refine takeH_at 9 7 (v := ?_) rfl rfl (by kernel_rfl) (by kernel_rfl) (by kernel_rfl) (fun _ _ _ h => h) (Or.inl ⟨by rfl, ?_⟩) (by assumption) ?_
          rotate_left
          · (intro wx hSw; clear hSw; go_simp) <;> with_reducible rfl
          simp only [Act.put, List.setIfInBounds_toArray, List.set_cons_zero, List.set_cons_succ]
          refine wpAnyH_done (by kernel_rfl) ?_ _
          refine NoPanic.normal ?_
          have HREL : Hid (FaRel W1 t out m r (.int .i64 ((j : Int) + 1)) wc) := Lib.hid ⟨j + 1, by omega, by go_num, by rw [take_snoc HY.out, List.map_append]; exact hr, hSc⟩
          clear hr hSc HO HZ HLY
          go_wp2
          go_roundw
          case rel => exact HREL.out
          case measure => simp [intOf]; omega
        · have hjm : j = out.length := by have := HM.out; omega
          have HF : Hid (RSrtIs t L w.heap.size u7 wr) := Lib.hid ⟨out.map (xorI t), HST.out, by rw [List.length_map, ← HM.out]; exact hmn.out, by
            rw [hjm, List.take_length] at hown
            exact own_mono hown (Nat.le_trans HB0.out.size HBW.out.size)⟩
          have HBF := Lib.hid (HB0.out.trans ((HBW.out.trans (hb.mono HBW.out.size)).mono HB0.out.size))
          clear hown hb hjm
          go_wp2
          go_ret
          exact ⟨_, rfl, HF.out, HBF.out⟩
end Go.Proofs.Ytcoiaddjfeaciaa
