/- The walk of the statement MetricSorts of this seat: it answers true for any ids. No condition. -/
import Derived.Test.YtcoiaddjfeaciaaMrd
import Derived.Test.YtcoiaddjfeaciaaMsa
import Derived.Test.YtcoiaddjfeaciaaMlj
namespace Go.Proofs.Ytcoiaddjfeaciaa
set_option maxRecDepth 100000
set_option maxHeartbeats 4000000
open Go.RowKit Go.Lib Go.Great

theorem msorts_far (T X : Array Value) (A : Option Addr) (n c : Nat) (k : Int) (h : 50 < n) (w : World) : Calls Try.prog 9 #[.agg T, .agg X, .slice A n c, .int .i64 k] w fun e w' => e = .returned (.bool true) ∧ Below w.heap.size w w' := by
  have h1' : (50 : Int) < (n : Int) := by omega
  have hb0 : Hid (Below w.heap.size w ((w.alloc (.cells T 26)).alloc (.cells X 26))) := Lib.hid (heap2 w (.cells T 26) (.cells X 26)).2.2
  go_enter Try.func9, Try.ntmps9
  go_wp2_with (go_at_call 43; (with_reducible refine (mlives_any _).mono ?_); rintro e w2 ⟨rfl, hb2⟩)
  go_ret
  exact ⟨rfl, hb0.out.trans (hb2.mono hb0.out.size)⟩

theorem SlIs.of_own {base n : Nat} {e : TypeId} {v : Value} {O : List IDv} {W : World} (h : W.ownsRow base e 20 v n (flatI O)) : SlIs O v W := by
  obtain ⟨A, c, rfl, hn, hc, _⟩ := own_form h
  rw [hn] at h
  exact ⟨A, c, rfl, hc, IAt.of_own h⟩

theorem msorts_near (t x : IDv) (A : Option Addr) (c : Nat) (L : List IDv) (k : Int) (w : World) (hL : L.length ≤ 50) (hA : IAt w w.heap.size A L) :
    Calls Try.prog 9 #[.agg (encID t).toArray, .agg (encID x).toArray, .slice A L.length c, .int .i64 k] w fun e w' => e = .returned (.bool true) ∧ Below w.heap.size w w' := by
  obtain ⟨h1, h2, hb0⟩ := heap2 w (.cells (encID t).toArray 26) (.cells (encID x).toArray 26)
  obtain ⟨W0, hW0⟩ : ∃ W0, W0 = (w.alloc (.cells (encID t).toArray 26)).alloc (.cells (encID x).toArray 26) := ⟨_, rfl⟩
  rw [← hW0] at h1 h2 hb0
  have g1 := (Array.getElem?_eq_some_iff.1 h1).1
  have g2 := (Array.getElem?_eq_some_iff.1 h2).1
  have L1 : Hid (∀ W, Below W0.heap.size W0 W → (loadVar 26 ⟨w.heap.size, 0, none⟩).run Try.prog W = .ok (.agg (encID t).toArray) W) := Lib.hid (fun W h => range_load26 (range_keep (row_range h1) (h.block _ g1)))
  have L2 : Hid (∀ W, Below W0.heap.size W0 W → (loadVar 26 ⟨w.heap.size + 1, 0, none⟩).run Try.prog W = .ok (.agg (encID x).toArray) W) := Lib.hid (fun W h => range_load26 (range_keep (row_range h2) (h.block _ g2)))
  have HA : Hid (∀ W, Below W0.heap.size W0 W → IAt W W.heap.size A L) := Lib.hid (fun W h => (((hA.below hb0).more hb0.size).below h).more h.size)
  obtain ⟨m, hm⟩ : ∃ m, m = L.length := ⟨_, rfl⟩
  -- what each call tells, in every world behind W0
  have F42 : Hid (∀ W, Below W0.heap.size W0 W → Calls Try.prog 42 #[.slice A m c] W fun e w' => ∃ v, e = .returned v ∧ SlIs L v w' ∧ Below W.heap.size W w') := Lib.hid (fun W h => by
    rw [hm]
    refine (plain_any A c L W (by omega) (HA.out W h)).mono ?_
    rintro e w' ⟨v, rfl, k1, k2⟩
    exact ⟨v, rfl, SlIs.of_own k1, k2⟩)
  have F44 : Hid (∀ W, Below W0.heap.size W0 W → Calls Try.prog 44 #[.agg (encID t).toArray, .slice A m c, .agg (encID x).toArray, .int .i64 k] W fun e w' => ∃ v S, e = .returned (.tuple #[v, .bool (decide (x ∈ S.take k.toNat) && !decide (x ∈ L))]) ∧ IsSet (kM t) S (L ++ [x]) ∧ SlIs (S.take k.toNat) v w' ∧ Below W.heap.size W w') := Lib.hid (fun W h => by
    rw [hm]
    refine (minsert_any t A c L x k W (by omega) (HA.out W h)).mono ?_
    rintro e w' ⟨⟨v, S, rfl, k1, _, k3⟩, k4⟩
    exact ⟨v, S, rfl, k1, SlIs.of_own k3, k4⟩)
  have F45 : Hid (∀ v W, SlIs L v W → Calls Try.prog 45 #[.agg (encID t).toArray, v, .agg (encID x).toArray, .int .i64 k] W fun e w' => ∃ v S, e = .returned (.tuple #[v, .bool (decide (x ∈ S.take k.toNat) && !decide (x ∈ L))]) ∧ IsSet (kM t) S (L ++ [x]) ∧ S.length ≤ 51 ∧ SlIs (S.take k.toNat) v w' ∧ Below W.heap.size W w') := Lib.hid (fun v W h => by
    obtain ⟨A', c', rfl, _, h3⟩ := h
    refine (rminsert_any t A' c' L x k W (by omega) h3).mono ?_
    rintro e w' ⟨⟨v, S, rfl, k1, k2, k3⟩, k4⟩
    exact ⟨v, S, rfl, k1, by omega, k3, k4⟩)
  have F47 : Hid (∀ W, Below W0.heap.size W0 W → Calls Try.prog 47 #[.agg (encID t).toArray, .slice A m c] W fun e w' => ∃ v, e = .returned v ∧ Below W0.heap.size W0 w' ∧ Below W.heap.size W w' ∧ ∃ S, IsSet (kM t) S L ∧ SlIs S v w') := Lib.hid (fun W h => by
    rw [hm]
    refine (msort_any t A c L W (by omega) (HA.out W h)).mono ?_
    rintro e w' ⟨A', c', S, rfl, k1, _, k3, k4, k5⟩
    exact ⟨_, rfl, h.trans (k5.mono h.size), k5, S, k1, A', c', rfl, k3, k4⟩)
  have F48 : Hid (∀ v W, SlIs L v W → Below W0.heap.size W0 W → Calls Try.prog 48 #[.agg (encID t).toArray, v] W fun e w' => ∃ v, e = .returned v ∧ Below W0.heap.size W0 w' ∧ Below W.heap.size W w' ∧ ∃ S, IsSet (kM t) S L ∧ S.length ≤ 50 ∧ SlIs S v w') := Lib.hid (fun v W hv h => by
    obtain ⟨A', c', rfl, _, h3⟩ := hv
    refine (rmsort_any t A' c' L W (by omega) h3).mono ?_
    rintro e w' ⟨v, rfl, ⟨S, k1, k2, k3⟩, k5⟩
    exact ⟨_, rfl, h.trans (k5.mono h.size), k5, S, k1, by omega, SlIs.of_own k3⟩)
  have F49 : Hid (∀ W, Below W0.heap.size W0 W → Calls Try.prog 49 #[.agg (encID t).toArray, .slice A m c, .int .i64 k] W fun e w' => ∃ v, e = .returned v ∧ Below W0.heap.size W0 w' ∧ Below W.heap.size W w' ∧ ∃ S, IsSet (kM t) S L ∧ SlIs (S.take k.toNat) v w') := Lib.hid (fun W h => by
    rw [hm]
    refine (mleast_any t A c L k W (by omega) (HA.out W h)).mono ?_
    rintro e w' ⟨v, rfl, ⟨S, k1, _, k3⟩, k5⟩
    exact ⟨_, rfl, h.trans (k5.mono h.size), k5, S, k1, SlIs.of_own k3⟩)
  have F50 : Hid (∀ v W, SlIs L v W → Below W0.heap.size W0 W → Calls Try.prog 50 #[.agg (encID t).toArray, v, .int .i64 k] W fun e w' => ∃ v, e = .returned v ∧ Below W0.heap.size W0 w' ∧ Below W.heap.size W w' ∧ ∃ S, IsSet (kM t) S L ∧ S.length ≤ 50 ∧ SlIs (S.take k.toNat) v w') := Lib.hid (fun v W hv h => by
    obtain ⟨A', c', rfl, _, h3⟩ := hv
    refine (rmleast_any t A' c' L k W (by omega) h3).mono ?_
    rintro e w' ⟨v, rfl, ⟨S, k1, k2, k3⟩, k5⟩
    exact ⟨_, rfl, h.trans (k5.mono h.size), k5, S, k1, by omega, k3⟩)
  obtain ⟨S0, hS0⟩ := set_exists (key := kM t) (kM_inj t) L
  have F51 : Hid (∀ W, Below W0.heap.size W0 W → Calls Try.prog 51 #[.agg (encID t).toArray, .agg (encID x).toArray, .slice A m c] W fun e w' => ∃ v, e = .returned v ∧ Below W0.heap.size W0 w' ∧ Below W.heap.size W w' ∧ v = .int .i64 (rankK (kM t) x S0 : Int)) := Lib.hid (fun W h => by
    rw [hm]
    refine (mrank_any t x A c L W (by omega) (HA.out W h)).mono ?_
    rintro e w' ⟨⟨S, k1, rfl⟩, k5⟩
    exact ⟨_, rfl, h.trans (k5.mono h.size), k5, by rw [k1.unique hS0]⟩)
  have F52 : Hid (∀ v W, SlIs L v W → Below W0.heap.size W0 W → Calls Try.prog 52 #[.agg (encID t).toArray, .agg (encID x).toArray, v] W fun e w' => ∃ v, e = .returned v ∧ Below W0.heap.size W0 w' ∧ Below W.heap.size W w' ∧ v = .int .i64 (rankK (kM t) x S0 : Int)) := Lib.hid (fun v W hv h => by
    obtain ⟨A', c', rfl, _, h3⟩ := hv
    refine (rmrank_any t x A' c' L W (by omega) h3).mono ?_
    rintro e w' ⟨⟨S, k1, rfl⟩, k5⟩
    exact ⟨_, rfl, h.trans (k5.mono h.size), k5, by rw [k1.unique hS0]⟩)
  have F46 : Hid (∀ (O : List IDv) u v W, O.length ≤ 100000 → SlIs O u W → SlIs O v W → Below W0.heap.size W0 W → Calls Try.prog 46 #[u, v] W fun e w' => ∃ r, e = .returned r ∧ Below W0.heap.size W0 w' ∧ Below W.heap.size W w' ∧ r = .bool true) := Lib.hid (fun O u v W h1 h2 h3 h => (same_any h1 h2 h3).mono (by
    rintro e w' ⟨rfl, k5⟩
    exact ⟨_, rfl, h.trans (k5.mono h.size), k5, rfl⟩))
  have F43 : Hid (∀ W, Below W0.heap.size W0 W → Calls Try.prog 43 #[] W fun e w' => ∃ r, e = .returned r ∧ Below W0.heap.size W0 w' ∧ Below W.heap.size W w' ∧ r = .bool true) := Lib.hid (fun W h => (mlives_any W).mono (by
    rintro e w' ⟨rfl, k5⟩
    exact ⟨_, rfl, h.trans (k5.mono h.size), k5, rfl⟩))
  have HW := Lib.hid hW0
  have HB0 := Lib.hid hb0
  have HSa : Hid (∀ W, Below W0.heap.size W0 W → Below W0.heap.size W0 W.drew) := Lib.hid (fun W h => h.drew)
  have hL' : ¬ (50 : Int) < (m : Int) := by omega
  rw [← hm]
  generalize (encID t).toArray = T at L1 F44 F45 F47 F48 F49 F50 F51 F52 HW ⊢
  generalize (encID x).toArray = X at L2 F44 F45 F51 F52 HW ⊢
  generalize rankK (kM t) x S0 = rk at F51 F52
  clear hA h1 h2 hb0 hW0 g1 g2 hm hL HA hS0
  go_enter Try.func9, Try.ntmps9
  go_upto_region 3 with fail
  rw [← HW.out]
  have HB : Below W0.heap.size W0 W0 := Below.refl _ _
  go_upto_region 6 with (first
    | (go_at_call 42; (with_reducible refine (F42.out _ HB).mono ?_); rintro e w1 ⟨v9, rfl, hv9, hbn⟩; replace HB := HB.trans (hbn.mono HB.size); clear hbn)
    | ((with_reducible refine wpList_loadV (op := ⟨some 21, _, _, _, _, _⟩) rfl 26 (.tmp 4) rfl _ ?_ _ (L1.out _ HB) ?_); rfl)
    | ((with_reducible refine wpList_loadV (op := ⟨some 23, _, _, _, _, _⟩) rfl 26 (.tmp 5) rfl _ ?_ _ (L2.out _ HB) ?_); rfl)
    | ((with_reducible refine wpList_loadV (op := ⟨some 29, _, _, _, _, _⟩) rfl 26 (.tmp 4) rfl _ ?_ _ (L1.out _ HB) ?_); rfl)
    | ((with_reducible refine wpList_loadV (op := ⟨some 31, _, _, _, _, _⟩) rfl 26 (.tmp 5) rfl _ ?_ _ (L2.out _ HB) ?_); rfl)
    | (go_at_call 44; (with_reducible refine (F44.out _ HB).mono ?_); rintro e w2 ⟨v10, S2, rfl, hs2, hv10, hbn⟩; replace hv9 := SlIs.keep _ _ _ hbn hv9; replace HB := HB.trans (hbn.mono HB.size); clear hbn)
    | (go_at_call 45; (with_reducible refine (F45.out _ _ hv9).mono ?_); rintro e w3 ⟨v12, S3, rfl, hs3, hl3, hv12, hbn⟩; replace hv9 := SlIs.keep _ _ _ hbn hv9; replace hv10 := SlIs.keep _ _ _ hbn hv10; replace HB := HB.trans (hbn.mono HB.size); clear hbn))
  have hs23 := hs2.unique hs3
  subst hs23
  generalize (decide (x ∈ S2.take k.toNat) && !decide (x ∈ L)) = bb
  have hlt : (S2.take k.toNat).length ≤ 100000 := by rw [List.length_take]; omega
  generalize S2.take k.toNat = O2 at hv10 hv12 hlt
  clear hs2 hs3 F42 F44 F45 hl3
  have hS6 := HSa.out _ HB
  replace hv9 := SlIs.keep _ _ _ (Below.refl _ w3).drew hv9
  replace hv10 := SlIs.keep _ _ _ (Below.refl _ w3).drew hv10
  replace hv12 := SlIs.keep _ _ _ (Below.refl _ w3).drew hv12
  refine wp_region_noPanic ?_
  refine wp_region_held_drew (S := fun w' => Below W0.heap.size W0 w') (by kernel_rfl) hS6 (fun hHeld => ?_)
  refine takeH_at 0 36 (v := .agg T) rfl rfl (by kernel_rfl) (by kernel_rfl) (by kernel_rfl) (fun _ _ _ h => h) (yieldsIf_loadQ (by rfl) 26 (.tmp 4) rfl _ rfl _ L1.out) (by assumption) ?_
  simp only [Act.put, List.setIfInBounds_toArray, List.set_cons_zero, List.set_cons_succ]
  refine takeH_at 1 37 (v := ?_) rfl rfl (by kernel_rfl) (by kernel_rfl) (by kernel_rfl) (fun _ _ _ h => h) (Or.inl ⟨by rfl, ?_⟩) (by assumption) ?_
  rotate_left
  · (intro wx hSw; clear hSw; go_simp) <;> with_reducible rfl
  simp only [Act.put, List.setIfInBounds_toArray, List.set_cons_zero, List.set_cons_succ]
  refine takeH_at 3 39 (v := .agg T) rfl rfl (by kernel_rfl) (by kernel_rfl) (by kernel_rfl) (fun _ _ _ h => h) (yieldsIf_loadQ (by rfl) 26 (.tmp 4) rfl _ rfl _ L1.out) (by assumption) ?_
  simp only [Act.put, List.setIfInBounds_toArray, List.set_cons_zero, List.set_cons_succ]
  refine takeH_at 4 40 (v := ?_) rfl rfl (by kernel_rfl) (by kernel_rfl) (by kernel_rfl) (fun _ _ _ h => h) (Or.inl ⟨by rfl, ?_⟩) (by assumption) ?_
  rotate_left
  · (intro wx hSw; clear hSw; go_simp) <;> with_reducible rfl
  simp only [Act.put, List.setIfInBounds_toArray, List.set_cons_zero, List.set_cons_succ]
  refine single 2 38 rfl rfl (by kernel_rfl) (by rfl) (fun v w' => ∃ S, IsSet (kM t) S L ∧ SlIs S v w') (looseR_call 47 rfl (enters_of Try.func47 (by kernel_rfl) rfl) _ (by simp only [List.map_toArray, List.map_cons, List.map_nil]; rfl) (F47.out _ hHeld)) ?_
  intro v38 wa hSa hbn hva
  obtain ⟨Sa, ka, hva⟩ := hva
  replace hv9 := SlIs.keep _ _ _ hbn hv9
  replace hv10 := SlIs.keep _ _ _ hbn hv10
  replace hv12 := SlIs.keep _ _ _ hbn hv12
  clear hbn
  simp only [Act.put, List.setIfInBounds_toArray, List.set_cons_zero, List.set_cons_succ]
  refine single 5 41 rfl rfl (by kernel_rfl) (by rfl) (fun v w' => ∃ S, IsSet (kM t) S L ∧ S.length ≤ 50 ∧ SlIs S v w') (looseR_call 48 rfl (enters_of Try.func48 (by kernel_rfl) rfl) _ (by simp only [List.map_toArray, List.map_cons, List.map_nil]; rfl) (F48.out _ _ hv9 hSa)) ?_
  intro v41 wb hSb hbn hvb
  obtain ⟨Sb, kb, lb, hvb⟩ := hvb
  have eab := ka.unique kb
  subst eab
  replace hva := SlIs.keep _ _ _ hbn hva
  replace hv9 := SlIs.keep _ _ _ hbn hv9
  replace hv10 := SlIs.keep _ _ _ hbn hv10
  replace hv12 := SlIs.keep _ _ _ hbn hv12
  clear hbn
  simp only [Act.put, List.setIfInBounds_toArray, List.set_cons_zero, List.set_cons_succ]
  refine single 6 42 rfl rfl (by kernel_rfl) (by rfl) (fun v _ => v = .bool true) (looseR_call 46 rfl (enters_of Try.func46 (by kernel_rfl) rfl) _ (by simp only [List.map_toArray, List.map_cons, List.map_nil]; rfl) (F46.out _ _ _ _ (by omega) hva hvb hSb)) ?_
  intro v42 wc hSc hbn hvc
  subst hvc
  replace hv9 := SlIs.keep _ _ _ hbn hv9
  replace hv10 := SlIs.keep _ _ _ hbn hv10
  replace hv12 := SlIs.keep _ _ _ hbn hv12
  clear hbn hva hvb ka kb hSa hSb
  simp only [Act.put, List.setIfInBounds_toArray, List.set_cons_zero, List.set_cons_succ]
  refine takeH_at 7 43 (v := ?_) rfl rfl (by kernel_rfl) (by kernel_rfl) (by kernel_rfl) (fun _ _ _ h => h) (Or.inl ⟨by rfl, ?_⟩) (by assumption) ?_
  rotate_left
  · (intro wx hSw; clear hSw; go_simp) <;> with_reducible rfl
  simp only [Act.put, List.setIfInBounds_toArray, List.set_cons_zero, List.set_cons_succ]
  refine takeH_at 8 44 (v := .agg T) rfl rfl (by kernel_rfl) (by kernel_rfl) (by kernel_rfl) (fun _ _ _ h => h) (yieldsIf_loadQ (by rfl) 26 (.tmp 4) rfl _ rfl _ L1.out) (by assumption) ?_
  simp only [Act.put, List.setIfInBounds_toArray, List.set_cons_zero, List.set_cons_succ]
  refine takeH_at 9 45 (v := ?_) rfl rfl (by kernel_rfl) (by kernel_rfl) (by kernel_rfl) (fun _ _ _ h => h) (Or.inl ⟨by rfl, ?_⟩) (by assumption) ?_
  rotate_left
  · (intro wx hSw; clear hSw; go_simp) <;> with_reducible rfl
  simp only [Act.put, List.setIfInBounds_toArray, List.set_cons_zero, List.set_cons_succ]
  refine takeH_at 10 46 (v := ?_) rfl rfl (by kernel_rfl) (by kernel_rfl) (by kernel_rfl) (fun _ _ _ h => h) (Or.inl ⟨by rfl, ?_⟩) (by assumption) ?_
  rotate_left
  · (intro wx hSw; clear hSw; go_simp) <;> with_reducible rfl
  simp only [Act.put, List.setIfInBounds_toArray, List.set_cons_zero, List.set_cons_succ]
  refine takeH_at 12 48 (v := .agg T) rfl rfl (by kernel_rfl) (by kernel_rfl) (by kernel_rfl) (fun _ _ _ h => h) (yieldsIf_loadQ (by rfl) 26 (.tmp 4) rfl _ rfl _ L1.out) (by assumption) ?_
  simp only [Act.put, List.setIfInBounds_toArray, List.set_cons_zero, List.set_cons_succ]
  refine takeH_at 13 49 (v := ?_) rfl rfl (by kernel_rfl) (by kernel_rfl) (by kernel_rfl) (fun _ _ _ h => h) (Or.inl ⟨by rfl, ?_⟩) (by assumption) ?_
  rotate_left
  · (intro wx hSw; clear hSw; go_simp) <;> with_reducible rfl
  simp only [Act.put, List.setIfInBounds_toArray, List.set_cons_zero, List.set_cons_succ]
  refine takeH_at 14 50 (v := ?_) rfl rfl (by kernel_rfl) (by kernel_rfl) (by kernel_rfl) (fun _ _ _ h => h) (Or.inl ⟨by rfl, ?_⟩) (by assumption) ?_
  rotate_left
  · (intro wx hSw; clear hSw; go_simp) <;> with_reducible rfl
  simp only [Act.put, List.setIfInBounds_toArray, List.set_cons_zero, List.set_cons_succ]
  refine single 11 47 rfl rfl (by kernel_rfl) (by rfl) (fun v w' => ∃ S, IsSet (kM t) S L ∧ SlIs (S.take k.toNat) v w') (looseR_call 49 rfl (enters_of Try.func49 (by kernel_rfl) rfl) _ (by simp only [List.map_toArray, List.map_cons, List.map_nil]; rfl) (F49.out _ hSc)) ?_
  intro v47 wd hSd hbn hvd
  obtain ⟨Sd, kd, hvd⟩ := hvd
  replace hv9 := SlIs.keep _ _ _ hbn hv9
  replace hv10 := SlIs.keep _ _ _ hbn hv10
  replace hv12 := SlIs.keep _ _ _ hbn hv12
  clear hbn
  simp only [Act.put, List.setIfInBounds_toArray, List.set_cons_zero, List.set_cons_succ]
  refine single 15 51 rfl rfl (by kernel_rfl) (by rfl) (fun v w' => ∃ S, IsSet (kM t) S L ∧ S.length ≤ 50 ∧ SlIs (S.take k.toNat) v w') (looseR_call 50 rfl (enters_of Try.func50 (by kernel_rfl) rfl) _ (by simp only [List.map_toArray, List.map_cons, List.map_nil]; rfl) (F50.out _ _ hv9 hSd)) ?_
  intro v51 we hSe hbn hve
  obtain ⟨Se, ke, le, hve⟩ := hve
  have ede := kd.unique ke
  subst ede
  replace hvd := SlIs.keep _ _ _ hbn hvd
  replace hv9 := SlIs.keep _ _ _ hbn hv9
  replace hv10 := SlIs.keep _ _ _ hbn hv10
  replace hv12 := SlIs.keep _ _ _ hbn hv12
  clear hbn
  simp only [Act.put, List.setIfInBounds_toArray, List.set_cons_zero, List.set_cons_succ]
  refine single 16 52 rfl rfl (by kernel_rfl) (by rfl) (fun v _ => v = .bool true) (looseR_call 46 rfl (enters_of Try.func46 (by kernel_rfl) rfl) _ (by simp only [List.map_toArray, List.map_cons, List.map_nil]; rfl) (F46.out _ _ _ _ (by rw [List.length_take]; omega) hvd hve hSe)) ?_
  intro v52 wf hSf hbn hvf
  subst hvf
  replace hv9 := SlIs.keep _ _ _ hbn hv9
  replace hv10 := SlIs.keep _ _ _ hbn hv10
  replace hv12 := SlIs.keep _ _ _ hbn hv12
  clear hbn hvd hve kd ke hSc hSd hSe
  simp only [Act.put, List.setIfInBounds_toArray, List.set_cons_zero, List.set_cons_succ]
  refine takeH_at 17 53 (v := ?_) rfl rfl (by kernel_rfl) (by kernel_rfl) (by kernel_rfl) (fun _ _ _ h => h) (Or.inl ⟨by rfl, ?_⟩) (by assumption) ?_
  rotate_left
  · (intro wx hSw; clear hSw; go_simp) <;> with_reducible rfl
  simp only [Act.put, List.setIfInBounds_toArray, List.set_cons_zero, List.set_cons_succ]
  refine takeH_at 18 54 (v := ?_) rfl rfl (by kernel_rfl) (by kernel_rfl) (by kernel_rfl) (fun _ _ _ h => h) (Or.inl ⟨by rfl, ?_⟩) (by assumption) ?_
  rotate_left
  · (intro wx hSw; clear hSw; go_simp) <;> with_reducible rfl
  simp only [Act.put, List.setIfInBounds_toArray, List.set_cons_zero, List.set_cons_succ]
  refine takeH_at 19 55 (v := .agg T) rfl rfl (by kernel_rfl) (by kernel_rfl) (by kernel_rfl) (fun _ _ _ h => h) (yieldsIf_loadQ (by rfl) 26 (.tmp 4) rfl _ rfl _ L1.out) (by assumption) ?_
  simp only [Act.put, List.setIfInBounds_toArray, List.set_cons_zero, List.set_cons_succ]
  refine takeH_at 20 56 (v := .agg X) rfl rfl (by kernel_rfl) (by kernel_rfl) (by kernel_rfl) (fun _ _ _ h => h) (yieldsIf_loadQ (by rfl) 26 (.tmp 5) rfl _ rfl _ L2.out) (by assumption) ?_
  simp only [Act.put, List.setIfInBounds_toArray, List.set_cons_zero, List.set_cons_succ]
  refine takeH_at 21 57 (v := ?_) rfl rfl (by kernel_rfl) (by kernel_rfl) (by kernel_rfl) (fun _ _ _ h => h) (Or.inl ⟨by rfl, ?_⟩) (by assumption) ?_
  rotate_left
  · (intro wx hSw; clear hSw; go_simp) <;> with_reducible rfl
  simp only [Act.put, List.setIfInBounds_toArray, List.set_cons_zero, List.set_cons_succ]
  refine takeH_at 23 59 (v := .agg T) rfl rfl (by kernel_rfl) (by kernel_rfl) (by kernel_rfl) (fun _ _ _ h => h) (yieldsIf_loadQ (by rfl) 26 (.tmp 4) rfl _ rfl _ L1.out) (by assumption) ?_
  simp only [Act.put, List.setIfInBounds_toArray, List.set_cons_zero, List.set_cons_succ]
  refine takeH_at 24 60 (v := .agg X) rfl rfl (by kernel_rfl) (by kernel_rfl) (by kernel_rfl) (fun _ _ _ h => h) (yieldsIf_loadQ (by rfl) 26 (.tmp 5) rfl _ rfl _ L2.out) (by assumption) ?_
  simp only [Act.put, List.setIfInBounds_toArray, List.set_cons_zero, List.set_cons_succ]
  refine takeH_at 25 61 (v := ?_) rfl rfl (by kernel_rfl) (by kernel_rfl) (by kernel_rfl) (fun _ _ _ h => h) (Or.inl ⟨by rfl, ?_⟩) (by assumption) ?_
  rotate_left
  · (intro wx hSw; clear hSw; go_simp) <;> with_reducible rfl
  simp only [Act.put, List.setIfInBounds_toArray, List.set_cons_zero, List.set_cons_succ]
  refine single 22 58 rfl rfl (by kernel_rfl) (by rfl) (fun v _ => v = .int .i64 (rk : Int)) (looseR_call 51 rfl (enters_of Try.func51 (by kernel_rfl) rfl) _ (by simp only [List.map_toArray, List.map_cons, List.map_nil]; rfl) (F51.out _ hSf)) ?_
  intro v58 wg hSg hbn hvg
  subst hvg
  replace hv9 := SlIs.keep _ _ _ hbn hv9
  replace hv10 := SlIs.keep _ _ _ hbn hv10
  replace hv12 := SlIs.keep _ _ _ hbn hv12
  clear hbn
  simp only [Act.put, List.setIfInBounds_toArray, List.set_cons_zero, List.set_cons_succ]
  refine single 26 62 rfl rfl (by kernel_rfl) (by rfl) (fun v _ => v = .int .i64 (rk : Int)) (looseR_call 52 rfl (enters_of Try.func52 (by kernel_rfl) rfl) _ (by simp only [List.map_toArray, List.map_cons, List.map_nil]; rfl) (F52.out _ _ hv9 hSg)) ?_
  intro v62 wh hSh hbn hvh
  subst hvh
  replace hv9 := SlIs.keep _ _ _ hbn hv9
  replace hv10 := SlIs.keep _ _ _ hbn hv10
  replace hv12 := SlIs.keep _ _ _ hbn hv12
  clear hbn hSf hSg
  simp only [Act.put, List.setIfInBounds_toArray, List.set_cons_zero, List.set_cons_succ]
  refine takeH_at 27 63 (v := ?_) rfl rfl (by kernel_rfl) (by kernel_rfl) (by kernel_rfl) (fun _ _ _ h => h) (Or.inl ⟨by rfl, ?_⟩) (by assumption) ?_
  rotate_left
  · (intro wx hSw; clear hSw; go_simp) <;> with_reducible rfl
  simp only [Act.put, List.setIfInBounds_toArray, List.set_cons_zero, List.set_cons_succ]
  refine takeH_at 28 64 (v := ?_) rfl rfl (by kernel_rfl) (by kernel_rfl) (by kernel_rfl) (fun _ _ _ h => h) (Or.inl ⟨by rfl, ?_⟩) (by assumption) ?_
  rotate_left
  · (intro wx hSw; clear hSw; go_simp) <;> with_reducible rfl
  simp only [Act.put, List.setIfInBounds_toArray, List.set_cons_zero, List.set_cons_succ]
  refine takeH_at 29 65 (v := ?_) rfl rfl (by kernel_rfl) (by kernel_rfl) (by kernel_rfl) (fun _ _ _ h => h) (Or.inl ⟨by rfl, ?_⟩) (by assumption) ?_
  rotate_left
  · (intro wx hSw; clear hSw; go_simp) <;> with_reducible rfl
  simp only [Act.put, List.setIfInBounds_toArray, List.set_cons_zero, List.set_cons_succ]
  refine takeH_at 30 66 (v := ?_) rfl rfl (by kernel_rfl) (by kernel_rfl) (by kernel_rfl) (fun _ _ _ h => h) (Or.inl ⟨by rfl, ?_⟩) (by assumption) ?_
  rotate_left
  · (intro wx hSw; clear hSw; go_simp) <;> with_reducible rfl
  simp only [Act.put, List.setIfInBounds_toArray, List.set_cons_zero, List.set_cons_succ]
  refine takeH_at 31 67 (v := ?_) rfl rfl (by kernel_rfl) (by kernel_rfl) (by kernel_rfl) (fun _ _ _ h => h) (Or.inl ⟨by rfl, ?_⟩) (by assumption) ?_
  rotate_left
  · (intro wx hSw; clear hSw; go_simp) <;> with_reducible rfl
  simp only [Act.put, List.setIfInBounds_toArray, List.set_cons_zero, List.set_cons_succ]
  refine single 32 68 rfl rfl (by kernel_rfl) (by rfl) (fun v _ => v = .bool true) (looseR_call 46 rfl (enters_of Try.func46 (by kernel_rfl) rfl) _ (by simp only [List.map_toArray, List.map_cons, List.map_nil]; rfl) (F46.out _ _ _ _ hlt hv10 hv12 hSh)) ?_
  intro v68 wi hSi hbn hvi
  subst hvi
  clear hbn hSh hv9 hv10 hv12
  simp only [Act.put, List.setIfInBounds_toArray, List.set_cons_zero, List.set_cons_succ]
  refine takeH_at 33 69 (v := ?_) rfl rfl (by kernel_rfl) (by kernel_rfl) (by kernel_rfl) (fun _ _ _ h => h) (Or.inl ⟨by rfl, ?_⟩) (by assumption) ?_
  rotate_left
  · (intro wx hSw; clear hSw; go_simp) <;> with_reducible rfl
  simp only [Act.put, List.setIfInBounds_toArray, List.set_cons_zero, List.set_cons_succ]
  refine takeH_at 34 70 (v := ?_) rfl rfl (by kernel_rfl) (by kernel_rfl) (by kernel_rfl) (fun _ _ _ h => h) (Or.inl ⟨by rfl, ?_⟩) (by assumption) ?_
  rotate_left
  · (intro wx hSw; clear hSw; go_simp) <;> with_reducible rfl
  simp only [Act.put, List.setIfInBounds_toArray, List.set_cons_zero, List.set_cons_succ]
  refine takeH_at 35 71 (v := ?_) rfl rfl (by kernel_rfl) (by kernel_rfl) (by kernel_rfl) (fun _ _ _ h => h) (Or.inl ⟨by rfl, ?_⟩) (by assumption) ?_
  rotate_left
  · (intro wx hSw; clear hSw; go_simp) <;> with_reducible rfl
  simp only [Act.put, List.setIfInBounds_toArray, List.set_cons_zero, List.set_cons_succ]
  refine takeH_at 36 72 (v := ?_) rfl rfl (by kernel_rfl) (by kernel_rfl) (by kernel_rfl) (fun _ _ _ h => h) (Or.inl ⟨by rfl, ?_⟩) (by assumption) ?_
  rotate_left
  · (intro wx hSw; clear hSw; go_simp) <;> with_reducible rfl
  simp only [Act.put, List.setIfInBounds_toArray, List.set_cons_zero, List.set_cons_succ]
  refine takeH_at 37 73 (v := ?_) rfl rfl (by kernel_rfl) (by kernel_rfl) (by kernel_rfl) (fun _ _ _ h => h) (Or.inl ⟨by rfl, ?_⟩) (by assumption) ?_
  rotate_left
  · (intro wx hSw; clear hSw; go_simp) <;> with_reducible rfl
  simp only [Act.put, List.setIfInBounds_toArray, List.set_cons_zero, List.set_cons_succ]
  refine takeH_at 38 74 (v := ?_) rfl rfl (by kernel_rfl) (by kernel_rfl) (by kernel_rfl) (fun _ _ _ h => h) (Or.inl ⟨by rfl, ?_⟩) (by assumption) ?_
  rotate_left
  · (intro wx hSw; clear hSw; go_simp) <;> with_reducible rfl
  simp only [Act.put, List.setIfInBounds_toArray, List.set_cons_zero, List.set_cons_succ]
  refine takeH_at 39 75 (v := ?_) rfl rfl (by kernel_rfl) (by kernel_rfl) (by kernel_rfl) (fun _ _ _ h => h) (Or.inl ⟨by rfl, ?_⟩) (by assumption) ?_
  rotate_left
  · (intro wx hSw; clear hSw; go_simp) <;> with_reducible rfl
  simp only [Act.put, List.setIfInBounds_toArray, List.set_cons_zero, List.set_cons_succ]
  refine single 40 76 rfl rfl (by kernel_rfl) (by rfl) (fun v _ => v = .bool true) (looseR_call 43 rfl (enters_of Try.func43 (by kernel_rfl) rfl) _ (by simp only [List.map_toArray, List.map_nil]) (F43.out _ hSi)) ?_
  intro v76 wj hSj hbn hvj
  subst hvj
  clear hbn hSi
  simp only [Act.put, List.setIfInBounds_toArray, List.set_cons_zero, List.set_cons_succ]
  refine takeH_at 41 77 (v := ?_) rfl rfl (by kernel_rfl) (by kernel_rfl) (by kernel_rfl) (fun _ _ _ h => h) (Or.inl ⟨by rfl, ?_⟩) (by assumption) ?_
  rotate_left
  · (intro wx hSw; clear hSw; go_simp) <;> with_reducible rfl
  simp only [Act.put, List.setIfInBounds_toArray, List.set_cons_zero, List.set_cons_succ]
  refine takeH_at 42 8 (v := ?_) rfl rfl (by kernel_rfl) (by kernel_rfl) (by kernel_rfl) (fun _ _ _ h => h) (Or.inl ⟨by rfl, ?_⟩) (by assumption) ?_
  rotate_left
  · (intro wx hSw; clear hSw; go_simp) <;> with_reducible rfl
  simp only [Act.put, List.setIfInBounds_toArray, List.set_cons_zero, List.set_cons_succ]
  refine wpAnyH_done (by kernel_rfl) ?_ _
  refine NoPanic.normal ?_
  have HF := Lib.hid (HB0.out.trans (hSj.mono HB0.out.size))
  clear hSj HB hS6
  go_wp2
  go_ret
  exact ⟨rfl, HF.out⟩
theorem msorts_walk (t x : IDv) (A : Option Addr) (c : Nat) (L : List IDv) (k : Int) (w : World) (hA : IAt w w.heap.size A L) :
    Calls Try.prog 9 #[.agg (encID t).toArray, .agg (encID x).toArray, .slice A L.length c, .int .i64 k] w fun e w' => e = .returned (.bool true) ∧ Below w.heap.size w w' := by
  by_cases h : 50 < L.length
  · exact msorts_far _ _ A L.length c k h w
  · exact msorts_near t x A c L k w (by omega) hA
end Go.Proofs.Ytcoiaddjfeaciaa
