/- Contract of the reference's Insert of layer metric. Conditions: fewer than 10000 ids. -/
import Derived.Test.YtcoiaddjfeaciaaMrc
namespace Go.Proofs.Ytcoiaddjfeaciaa
set_option maxRecDepth 100000
set_option maxHeartbeats 2000000
open Go.RowKit Go.Lib Go.Great

def RInsIs (t : IDv) (L : List IDv) (x : IDv) (n : Int) (e : Ending) (w : World) : Prop := ∃ v S, e = .returned (.tuple #[v, .bool (decide (x ∈ S.take n.toNat) && !decide (x ∈ L))]) ∧ IsSet (kM t) S (L ++ [x]) ∧ S.length ≤ L.length + 1 ∧ SlIs (S.take n.toNat) v w
theorem block_grown {W W' : World} {g : Nat} {o : Obj} {row : Option Nat} (h : W.heap[g]? = some o) (hg : W.grownBy W' row) (hne : row ≠ some g) : W'.heap[g]? = some o :=
  (hg.block g (Array.getElem?_eq_some_iff.1 h).1 (fun e => hne e.symm)).trans h
theorem ne_blocks {a b : Nat} (h : a ≠ b) : Value.ownBlock (.slice (some ⟨a, 0, none⟩) 0 0) ≠ some b := by
  intro e
  injection e with e
  exact h e

theorem rminsert_any (t : IDv) (A : Option Addr) (c : Nat) (L : List IDv) (x : IDv) (n : Int) (w : World) (hL : L.length ≤ 10000) (hA : IAt w w.heap.size A L) :
    Calls Try.prog 45 #[.agg (encID t).toArray, .slice A L.length c, .agg (encID x).toArray, .int .i64 n] w fun e w' => RInsIs t L x n e w' ∧ Below w.heap.size w w' := by
  obtain ⟨h1, h2, hb0⟩ := heap2 w (.cells (encID t).toArray 42) (.cells (encID x).toArray 42)
  obtain ⟨W0, hW0⟩ : ∃ W0, W0 = (w.alloc (.cells (encID t).toArray 42)).alloc (.cells (encID x).toArray 42) := ⟨_, rfl⟩
  rw [← hW0] at h1 h2 hb0
  have g1 := (Array.getElem?_eq_some_iff.1 h1).1
  have g2 := (Array.getElem?_eq_some_iff.1 h2).1
  have HLT : Hid (∀ W, Below W0.heap.size W0 W → (loadVar 42 ⟨w.heap.size, 0, none⟩).run Try.prog W = .ok (.agg (encID t).toArray) W) := Lib.hid (fun W h => range_load42 (range_keep (row_range h1) (h.block _ g1)))
  have HLX : Hid (∀ W, Below W0.heap.size W0 W → (loadVar 42 ⟨w.heap.size + 1, 0, none⟩).run Try.prog W = .ok (.agg (encID x).toArray) W) := Lib.hid (fun W h => range_load42 (range_keep (row_range h2) (h.block _ g2)))
  have HA : Hid (∀ W, Below W0.heap.size W0 W → IAt W W.heap.size A L) := Lib.hid (fun W h => (((hA.below hb0).more hb0.size).below h).more h.size)
  obtain ⟨m, hm⟩ : ∃ m, m = L.length := ⟨_, rfl⟩
  have HSRC : Hid (∀ W, Below W0.heap.size W0 W → Src Try.prog 20 64 (.slice A m c) L.length (flatI L) W) := Lib.hid (fun W h => by
    rw [hm]
    exact (HA.out W h).src und64 c)
  have HLE : Hid (∀ v W, OwnIs W0.heap.size 42 ([] ++ L ++ [x]) v W → Below W0.heap.size W0 W → Calls Try.prog 50 #[.agg (encID t).toArray, v, .int .i64 n] W fun e w' => ∃ r, e = .returned r ∧ Below W0.heap.size W0 w' ∧ Below W.heap.size W w' ∧ RLstIs t (L ++ [x]) n r w') := Lib.hid (fun v W hv h => by
    rw [List.nil_append] at hv
    obtain ⟨A', c', rfl, k1, _, _⟩ := own_form hv
    refine (rmleast_any t A' c' (L ++ [x]) n W (by simp; omega) (IAt.of_own hv)).mono ?_
    rintro e w' ⟨r, rfl, k2, k5⟩
    exact ⟨_, rfl, h.trans (k5.mono h.size), k5, k2⟩)
  have HC1 : Hid (∀ W, Below W0.heap.size W0 W → Calls Try.prog 74 #[.slice A m c, .agg (encID x).toArray] W fun e w' => e = .returned (.bool (decide (x ∈ L))) ∧ Below W.heap.size W w') := Lib.hid (fun W h => by
    rw [hm]
    exact rhas_any A c L x W (by omega) (HA.out W h))
  have HSa : Hid (Below W0.heap.size W0 W0.drew) := Lib.hid (Below.refl _ _).drew
  have HW := Lib.hid hW0
  have HB0 := Lib.hid hb0
  have HL63 : Hid (L.length ≤ 10000) := Lib.hid (by omega)
  rw [← hm]
  obtain ⟨T, hT⟩ : ∃ T, T = (encID t).toArray := ⟨_, rfl⟩
  obtain ⟨X, hX⟩ : ∃ X, X = (encID x).toArray := ⟨_, rfl⟩
  have HX := Lib.hid hX
  rw [← hT] at HLT HLE HW ⊢
  rw [← hX] at HLX HW HC1 ⊢
  clear hA h1 h2 hb0 hW0 g1 g2 hm hL HA hT hX
  go_enter Try.func45, Try.ntmps45
  go_upto_region 1 with fail
  rw [← HW.out]
  refine wp_region_noPanic ?_
  refine wp_region_held_drew (S := fun w' => Below W0.heap.size W0 w') (by kernel_rfl) HSa.out (fun hHeld => ?_)
  refine takeH_at 0 11 (v := .agg T) rfl rfl (by kernel_rfl) (by kernel_rfl) (by kernel_rfl) (fun _ _ _ h => h) (yieldsIf_loadQ (by rfl) 42 (.tmp 4) rfl _ rfl _ HLT.out) (by assumption) ?_
  simp only [Act.put, List.setIfInBounds_toArray, List.set_cons_zero, List.set_cons_succ]
  refine takeH_at 2 13 (v := ?_) rfl rfl (by kernel_rfl) (by kernel_rfl) (by kernel_rfl) (fun _ _ _ h => h) (Or.inl ⟨by rfl, ?_⟩) (by assumption) ?_
  rotate_left
  · (intro wx hSw; clear hSw; go_simp) <;> with_reducible rfl
  simp only [Act.put, List.setIfInBounds_toArray, List.set_cons_zero, List.set_cons_succ]
  refine takeH_at 4 15 (v := .agg X) rfl rfl (by kernel_rfl) (by kernel_rfl) (by kernel_rfl) (fun _ _ _ h => h) (yieldsIf_loadQ (by rfl) 42 (.tmp 6) rfl _ rfl _ HLX.out) (by assumption) ?_
  simp only [Act.put, List.setIfInBounds_toArray, List.set_cons_zero, List.set_cons_succ]
  refine takeH_at 7 18 (v := ?_) rfl rfl (by kernel_rfl) (by kernel_rfl) (by kernel_rfl) (fun _ _ _ h => h) (Or.inl ⟨by rfl, ?_⟩) (by assumption) ?_
  rotate_left
  · (intro wx hSw; clear hSw; go_simp) <;> with_reducible rfl
  simp only [Act.put, List.setIfInBounds_toArray, List.set_cons_zero, List.set_cons_succ]
  refine wpAnyH_ready (rs := [1, 5]) (by kernel_rfl) (by simp) ?_
  refine AllReadyH.cons rfl (fun K hK => ?_) ?_
  · refine step_none rfl 12 rfl rfl ?_
    have hS1 : Below W0.heap.size W0 (W0.drew.alloc (.cells #[] 42)) := hHeld.alloc hHeld.size _
    refine hK.out _ _ hS1 (fun _ => ?_)
    clear hK K
    simp only [Act.put, List.setIfInBounds_toArray, List.set_cons_zero, List.set_cons_succ]
    have hO1 : OwnIs W0.heap.size 42 [] _ _ := own_none IdT.doc W0.drew W0.heap.size hHeld.size
    refine wpAnyH_ready (rs := [3, 5]) (by kernel_rfl) (by simp) ?_
    refine AllReadyH.cons rfl (fun K hK => ?_) ?_
    · refine step_appT IdT.doc (by rfl) 14 rfl (.tmp 12) (.tmp 13) rfl W0.heap.size _ [] rfl hO1 _ L rfl (HSRC.out _ hS1) (by have := HL63.out; simp; omega) hS1.size ?_
      intro v3 w3 hO3 hg3 hat3
      have hS3 := own_bel2 hO1 hS1 hS1.size hg3
      refine hK.out _ _ hS3 (fun _ => ?_)
      clear hK K
      simp only [Act.put, List.setIfInBounds_toArray, List.set_cons_zero, List.set_cons_succ]
      refine wpAnyH_ready (rs := [5]) (by kernel_rfl) (by simp) ?_
      refine AllReadyH.cons rfl (fun K hK => ?_) ?_
      · refine step_one x rfl 16 rfl (.tmp 15) rfl (by rw [← HX.out]; rfl) ?_
        have hS5 : Below W0.heap.size W0 (w3.alloc (.cells (encID x).toArray 42)) := hS3.alloc hS3.size _
        refine hK.out _ _ hS5 (fun _ => ?_)
        clear hK K
        simp only [Act.put, List.setIfInBounds_toArray, List.set_cons_zero, List.set_cons_succ]
        have hO5 := OwnIs.keep _ _ _ ((Below.refl _ w3).alloc (Nat.le_refl _) (.cells (encID x).toArray 42)) hO3
        have hOne : OneIs 42 x _ _ := ⟨w3.heap.size, rfl, heap_alloc_new w3 _⟩
        clear hO3 hg3 hat3 hO1 hS1 hS3
        refine wpAnyH_ready (rs := [6]) (by kernel_rfl) (by simp) (AllReadyH.cons rfl (fun K hK => ?_) AllReadyH.nil)
        refine step_appT IdT.doc (by rfl) 17 rfl (.tmp 14) (.tmp 16) rfl W0.heap.size _ ([] ++ L) rfl hO5 _ [x] rfl (OneIs.src IdT.doc hOne) (by have := HL63.out; simp; omega) hS5.size ?_
        intro v6 w6 hO6 hg6 hat6
        have hS6 := own_bel2 hO5 hS5 hS5.size hg6
        refine hK.out _ _ hS6 (fun _ => ?_)
        clear hK K
        simp only [Act.put, List.setIfInBounds_toArray, List.set_cons_zero, List.set_cons_succ]
        refine single 8 19 rfl rfl (by kernel_rfl) (by rfl) (RLstIs t (L ++ [x]) n) (looseR_call 50 rfl (enters_of Try.func50 (by kernel_rfl) rfl) _ (by simp only [List.map_toArray, List.map_cons, List.map_nil]; rfl) (HLE.out v6 w6 hO6 hS6)) ?_
        intro l w8 hS8 hb8 hl
        simp only [Act.put, List.setIfInBounds_toArray, List.set_cons_zero, List.set_cons_succ]
        refine takeH_at 9 10 (v := ?_) rfl rfl (by kernel_rfl) (by kernel_rfl) (by kernel_rfl) (fun _ _ _ h => h) (Or.inl ⟨by rfl, ?_⟩) (by assumption) ?_
        rotate_left
        · (intro wx hSw; clear hSw; go_simp) <;> with_reducible rfl
        simp only [Act.put, List.setIfInBounds_toArray, List.set_cons_zero, List.set_cons_succ]
        refine wpAnyH_done (by kernel_rfl) ?_ _
        refine NoPanic.normal ?_
        obtain ⟨S, k1, k2, k3⟩ := hl
        have HS1 := Lib.hid k1
        have HS2 : Hid (S.length ≤ L.length + 1) := Lib.hid (by simpa using k2)
        have HS3 := Lib.hid k3
        have HB3 := Lib.hid hS8
        have HC2 : Hid (∀ W, Below w8.heap.size w8 W → Calls Try.prog 74 #[l, .agg X] W fun e w' => e = .returned (.bool (decide (x ∈ S.take n.toNat))) ∧ Below W.heap.size W w') := Lib.hid (fun W h => by
          obtain ⟨A', c', rfl, _, k4⟩ := k3
          rw [HX.out]
          refine rhas_any A' c' (S.take n.toNat) x W (by rw [List.length_take]; have := HL63.out; have := HS2.out; omega) ((k4.below h).more h.size))
        have HK1 := Lib.hid (HLX.out w8 hS8)
        clear k1 k2 k3 hS8 hb8 HLE HLT hHeld HSRC hO6 hg6 hat6 hS6
        generalize hq1 : decide (x ∈ S.take n.toNat) = q1 at HC2
        generalize hq2 : decide (x ∈ L) = q2 at HC1
        have HQ1 := Lib.hid hq1
        have HQ2 := Lib.hid hq2
        clear hq1 hq2
        cases q1
        · go_wp2_with (first
            | ((with_reducible refine wpList_loadV (op := ⟨some 22, _, _, _, _, _⟩) rfl 42 (.tmp 6) rfl _ ?_ _ HK1.out ?_); rfl)
            | (go_at_call 74; (with_reducible refine (HC2.out _ (Below.refl _ _)).mono ?_); rintro e wy ⟨rfl, hby⟩))
          go_ret2
          refine ⟨⟨l, S, by rw [HQ1.out]; rfl, HS1.out, HS2.out, SlIs.keep _ _ _ hby HS3.out⟩, HB0.out.trans ((HB3.out.trans (hby.mono HB3.out.size)).mono HB0.out.size)⟩
        · go_wp2_with (first
            | ((with_reducible refine wpList_loadV (op := ⟨some 22, _, _, _, _, _⟩) rfl 42 (.tmp 6) rfl _ ?_ _ HK1.out ?_); rfl)
            | (go_at_call 74; (with_reducible refine (HC2.out _ (Below.refl _ _)).mono ?_); rintro e wy ⟨rfl, hby⟩)
            | ((with_reducible refine wpList_loadG (op := ⟨some 26, _, _, _, _, _⟩) rfl 42 (.tmp 6) rfl _ ?_ _ (HLX.out _ (HB3.out.trans (hby.mono HB3.out.size))) ?_); rfl)
            | (go_at_call 74; (with_reducible refine (HC1.out _ (HB3.out.trans (hby.mono HB3.out.size))).mono ?_); rintro e wz ⟨rfl, hbz⟩))
          go_ret2
          refine ⟨⟨l, S, by rw [HQ1.out, HQ2.out]; cases q2 <;> rfl, HS1.out, HS2.out, SlIs.keep _ _ _ hbz (SlIs.keep _ _ _ hby HS3.out)⟩, ?_⟩
          have h34 := HB3.out.trans (hby.mono HB3.out.size)
          exact HB0.out.trans ((h34.trans (hbz.mono h34.size)).mono HB0.out.size)
      exact AllReadyH.nil
    refine AllReadyH.cons rfl (fun K hK => ?_) ?_
    · refine step_one x rfl 16 rfl (.tmp 15) rfl (by rw [← HX.out]; rfl) ?_
      have hS5 : Below W0.heap.size W0 ((W0.drew.alloc (.cells #[] 42)).alloc (.cells (encID x).toArray 42)) := hS1.alloc hS1.size _
      refine hK.out _ _ hS5 (fun _ => ?_)
      clear hK K
      simp only [Act.put, List.setIfInBounds_toArray, List.set_cons_zero, List.set_cons_succ]
      have hO5 := OwnIs.keep _ _ _ ((Below.refl _ (W0.drew.alloc (.cells #[] 42))).alloc (Nat.le_refl _) (.cells (encID x).toArray 42)) hO1
      have hb5 := heap_alloc_new (W0.drew.alloc (.cells #[] 42)) (.cells (encID x).toArray 42)
      refine wpAnyH_ready (rs := [3]) (by kernel_rfl) (by simp) ?_
      refine AllReadyH.cons rfl (fun K hK => ?_) ?_
      · refine step_appT IdT.doc (by rfl) 14 rfl (.tmp 12) (.tmp 13) rfl W0.heap.size _ [] rfl hO5 _ L rfl (HSRC.out _ hS5) (by have := HL63.out; simp; omega) hS5.size ?_
        intro v3 w3 hO3 hg3 hat3
        have hS3 := own_bel2 hO5 hS5 hS5.size hg3
        refine hK.out _ _ hS3 (fun _ => ?_)
        clear hK K
        simp only [Act.put, List.setIfInBounds_toArray, List.set_cons_zero, List.set_cons_succ]
        have hOne : OneIs 42 x _ w3 := ⟨_, rfl, block_grown hb5 hg3 (ne_blocks (by simp))⟩
        clear hg3 hat3 hO5 hO1 hS1 hS5 hb5
        refine wpAnyH_ready (rs := [6]) (by kernel_rfl) (by simp) (AllReadyH.cons rfl (fun K hK => ?_) AllReadyH.nil)
        refine step_appT IdT.doc (by rfl) 17 rfl (.tmp 14) (.tmp 16) rfl W0.heap.size _ ([] ++ L) rfl hO3 _ [x] rfl (OneIs.src IdT.doc hOne) (by have := HL63.out; simp; omega) hS3.size ?_
        intro v6 w6 hO6 hg6 hat6
        have hS6 := own_bel2 hO3 hS3 hS3.size hg6
        refine hK.out _ _ hS6 (fun _ => ?_)
        clear hK K
        simp only [Act.put, List.setIfInBounds_toArray, List.set_cons_zero, List.set_cons_succ]
        refine single 8 19 rfl rfl (by kernel_rfl) (by rfl) (RLstIs t (L ++ [x]) n) (looseR_call 50 rfl (enters_of Try.func50 (by kernel_rfl) rfl) _ (by simp only [List.map_toArray, List.map_cons, List.map_nil]; rfl) (HLE.out v6 w6 hO6 hS6)) ?_
        intro l w8 hS8 hb8 hl
        simp only [Act.put, List.setIfInBounds_toArray, List.set_cons_zero, List.set_cons_succ]
        refine takeH_at 9 10 (v := ?_) rfl rfl (by kernel_rfl) (by kernel_rfl) (by kernel_rfl) (fun _ _ _ h => h) (Or.inl ⟨by rfl, ?_⟩) (by assumption) ?_
        rotate_left
        · (intro wx hSw; clear hSw; go_simp) <;> with_reducible rfl
        simp only [Act.put, List.setIfInBounds_toArray, List.set_cons_zero, List.set_cons_succ]
        refine wpAnyH_done (by kernel_rfl) ?_ _
        refine NoPanic.normal ?_
        obtain ⟨S, k1, k2, k3⟩ := hl
        have HS1 := Lib.hid k1
        have HS2 : Hid (S.length ≤ L.length + 1) := Lib.hid (by simpa using k2)
        have HS3 := Lib.hid k3
        have HB3 := Lib.hid hS8
        have HC2 : Hid (∀ W, Below w8.heap.size w8 W → Calls Try.prog 74 #[l, .agg X] W fun e w' => e = .returned (.bool (decide (x ∈ S.take n.toNat))) ∧ Below W.heap.size W w') := Lib.hid (fun W h => by
          obtain ⟨A', c', rfl, _, k4⟩ := k3
          rw [HX.out]
          refine rhas_any A' c' (S.take n.toNat) x W (by rw [List.length_take]; have := HL63.out; have := HS2.out; omega) ((k4.below h).more h.size))
        have HK1 := Lib.hid (HLX.out w8 hS8)
        clear k1 k2 k3 hS8 hb8 HLE HLT hHeld HSRC hO6 hg6 hat6 hS6
        generalize hq1 : decide (x ∈ S.take n.toNat) = q1 at HC2
        generalize hq2 : decide (x ∈ L) = q2 at HC1
        have HQ1 := Lib.hid hq1
        have HQ2 := Lib.hid hq2
        clear hq1 hq2
        cases q1
        · go_wp2_with (first
            | ((with_reducible refine wpList_loadV (op := ⟨some 22, _, _, _, _, _⟩) rfl 42 (.tmp 6) rfl _ ?_ _ HK1.out ?_); rfl)
            | (go_at_call 74; (with_reducible refine (HC2.out _ (Below.refl _ _)).mono ?_); rintro e wy ⟨rfl, hby⟩))
          go_ret2
          refine ⟨⟨l, S, by rw [HQ1.out]; rfl, HS1.out, HS2.out, SlIs.keep _ _ _ hby HS3.out⟩, HB0.out.trans ((HB3.out.trans (hby.mono HB3.out.size)).mono HB0.out.size)⟩
        · go_wp2_with (first
            | ((with_reducible refine wpList_loadV (op := ⟨some 22, _, _, _, _, _⟩) rfl 42 (.tmp 6) rfl _ ?_ _ HK1.out ?_); rfl)
            | (go_at_call 74; (with_reducible refine (HC2.out _ (Below.refl _ _)).mono ?_); rintro e wy ⟨rfl, hby⟩)
            | ((with_reducible refine wpList_loadG (op := ⟨some 26, _, _, _, _, _⟩) rfl 42 (.tmp 6) rfl _ ?_ _ (HLX.out _ (HB3.out.trans (hby.mono HB3.out.size))) ?_); rfl)
            | (go_at_call 74; (with_reducible refine (HC1.out _ (HB3.out.trans (hby.mono HB3.out.size))).mono ?_); rintro e wz ⟨rfl, hbz⟩))
          go_ret2
          refine ⟨⟨l, S, by rw [HQ1.out, HQ2.out]; cases q2 <;> rfl, HS1.out, HS2.out, SlIs.keep _ _ _ hbz (SlIs.keep _ _ _ hby HS3.out)⟩, ?_⟩
          have h34 := HB3.out.trans (hby.mono HB3.out.size)
          exact HB0.out.trans ((h34.trans (hbz.mono h34.size)).mono HB0.out.size)
      exact AllReadyH.nil
    exact AllReadyH.nil
  refine AllReadyH.cons rfl (fun K hK => ?_) ?_
  · refine step_one x rfl 16 rfl (.tmp 15) rfl (by rw [← HX.out]; rfl) ?_
    have hS5 : Below W0.heap.size W0 (W0.drew.alloc (.cells (encID x).toArray 42)) := hHeld.alloc hHeld.size _
    refine hK.out _ _ hS5 (fun _ => ?_)
    clear hK K
    simp only [Act.put, List.setIfInBounds_toArray, List.set_cons_zero, List.set_cons_succ]
    refine wpAnyH_ready (rs := [1]) (by kernel_rfl) (by simp) ?_
    refine AllReadyH.cons rfl (fun K hK => ?_) ?_
    · refine step_none rfl 12 rfl rfl ?_
      have hS1 : Below W0.heap.size W0 ((W0.drew.alloc (.cells (encID x).toArray 42)).alloc (.cells #[] 42)) := hS5.alloc hS5.size _
      refine hK.out _ _ hS1 (fun _ => ?_)
      clear hK K
      simp only [Act.put, List.setIfInBounds_toArray, List.set_cons_zero, List.set_cons_succ]
      have hO1 : OwnIs W0.heap.size 42 [] _ _ := own_none IdT.doc (W0.drew.alloc (.cells (encID x).toArray 42)) W0.heap.size hS5.size
      have hb5 := heap_alloc_new W0.drew (.cells (encID x).toArray 42)
      have hb6 := (Below.heap_alloc (W0.drew.alloc (.cells (encID x).toArray 42)) (.cells #[] 42) W0.drew.heap.size (by simp)).trans hb5
      refine wpAnyH_ready (rs := [3]) (by kernel_rfl) (by simp) ?_
      refine AllReadyH.cons rfl (fun K hK => ?_) ?_
      · refine step_appT IdT.doc (by rfl) 14 rfl (.tmp 12) (.tmp 13) rfl W0.heap.size _ [] rfl hO1 _ L rfl (HSRC.out _ hS1) (by have := HL63.out; simp; omega) hS1.size ?_
        intro v3 w3 hO3 hg3 hat3
        have hS3 := own_bel2 hO1 hS1 hS1.size hg3
        refine hK.out _ _ hS3 (fun _ => ?_)
        clear hK K
        simp only [Act.put, List.setIfInBounds_toArray, List.set_cons_zero, List.set_cons_succ]
        have hOne : OneIs 42 x _ w3 := ⟨_, rfl, block_grown hb6 hg3 (ne_blocks (by simp))⟩
        clear hg3 hat3 hO1 hS1 hS5 hb5 hb6
        refine wpAnyH_ready (rs := [6]) (by kernel_rfl) (by simp) (AllReadyH.cons rfl (fun K hK => ?_) AllReadyH.nil)
        refine step_appT IdT.doc (by rfl) 17 rfl (.tmp 14) (.tmp 16) rfl W0.heap.size _ ([] ++ L) rfl hO3 _ [x] rfl (OneIs.src IdT.doc hOne) (by have := HL63.out; simp; omega) hS3.size ?_
        intro v6 w6 hO6 hg6 hat6
        have hS6 := own_bel2 hO3 hS3 hS3.size hg6
        refine hK.out _ _ hS6 (fun _ => ?_)
        clear hK K
        simp only [Act.put, List.setIfInBounds_toArray, List.set_cons_zero, List.set_cons_succ]
        refine single 8 19 rfl rfl (by kernel_rfl) (by rfl) (RLstIs t (L ++ [x]) n) (looseR_call 50 rfl (enters_of Try.func50 (by kernel_rfl) rfl) _ (by simp only [List.map_toArray, List.map_cons, List.map_nil]; rfl) (HLE.out v6 w6 hO6 hS6)) ?_
        intro l w8 hS8 hb8 hl
        simp only [Act.put, List.setIfInBounds_toArray, List.set_cons_zero, List.set_cons_succ]
        refine takeH_at 9 10 (v := ?_) rfl rfl (by kernel_rfl) (by kernel_rfl) (by kernel_rfl) (fun _ _ _ h => h) (Or.inl ⟨by rfl, ?_⟩) (by assumption) ?_
        rotate_left
        · (intro wx hSw; clear hSw; go_simp) <;> with_reducible rfl
        simp only [Act.put, List.setIfInBounds_toArray, List.set_cons_zero, List.set_cons_succ]
        refine wpAnyH_done (by kernel_rfl) ?_ _
        refine NoPanic.normal ?_
        obtain ⟨S, k1, k2, k3⟩ := hl
        have HS1 := Lib.hid k1
        have HS2 : Hid (S.length ≤ L.length + 1) := Lib.hid (by simpa using k2)
        have HS3 := Lib.hid k3
        have HB3 := Lib.hid hS8
        have HC2 : Hid (∀ W, Below w8.heap.size w8 W → Calls Try.prog 74 #[l, .agg X] W fun e w' => e = .returned (.bool (decide (x ∈ S.take n.toNat))) ∧ Below W.heap.size W w') := Lib.hid (fun W h => by
          obtain ⟨A', c', rfl, _, k4⟩ := k3
          rw [HX.out]
          refine rhas_any A' c' (S.take n.toNat) x W (by rw [List.length_take]; have := HL63.out; have := HS2.out; omega) ((k4.below h).more h.size))
        have HK1 := Lib.hid (HLX.out w8 hS8)
        clear k1 k2 k3 hS8 hb8 HLE HLT hHeld HSRC hO6 hg6 hat6 hS6
        generalize hq1 : decide (x ∈ S.take n.toNat) = q1 at HC2
        generalize hq2 : decide (x ∈ L) = q2 at HC1
        have HQ1 := Lib.hid hq1
        have HQ2 := Lib.hid hq2
        clear hq1 hq2
        cases q1
        · go_wp2_with (first
            | ((with_reducible refine wpList_loadV (op := ⟨some 22, _, _, _, _, _⟩) rfl 42 (.tmp 6) rfl _ ?_ _ HK1.out ?_); rfl)
            | (go_at_call 74; (with_reducible refine (HC2.out _ (Below.refl _ _)).mono ?_); rintro e wy ⟨rfl, hby⟩))
          go_ret2
          refine ⟨⟨l, S, by rw [HQ1.out]; rfl, HS1.out, HS2.out, SlIs.keep _ _ _ hby HS3.out⟩, HB0.out.trans ((HB3.out.trans (hby.mono HB3.out.size)).mono HB0.out.size)⟩
        · go_wp2_with (first
            | ((with_reducible refine wpList_loadV (op := ⟨some 22, _, _, _, _, _⟩) rfl 42 (.tmp 6) rfl _ ?_ _ HK1.out ?_); rfl)
            | (go_at_call 74; (with_reducible refine (HC2.out _ (Below.refl _ _)).mono ?_); rintro e wy ⟨rfl, hby⟩)
            | ((with_reducible refine wpList_loadG (op := ⟨some 26, _, _, _, _, _⟩) rfl 42 (.tmp 6) rfl _ ?_ _ (HLX.out _ (HB3.out.trans (hby.mono HB3.out.size))) ?_); rfl)
            | (go_at_call 74; (with_reducible refine (HC1.out _ (HB3.out.trans (hby.mono HB3.out.size))).mono ?_); rintro e wz ⟨rfl, hbz⟩))
          go_ret2
          refine ⟨⟨l, S, by rw [HQ1.out, HQ2.out]; cases q2 <;> rfl, HS1.out, HS2.out, SlIs.keep _ _ _ hbz (SlIs.keep _ _ _ hby HS3.out)⟩, ?_⟩
          have h34 := HB3.out.trans (hby.mono HB3.out.size)
          exact HB0.out.trans ((h34.trans (hbz.mono h34.size)).mono HB0.out.size)
      exact AllReadyH.nil
    exact AllReadyH.nil
  exact AllReadyH.nil
end Go.Proofs.Ytcoiaddjfeaciaa
