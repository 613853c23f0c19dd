/- The reference's Decode, walked (a key, no list). No condition. The reference's Decode, walked (contacts). No condition. -/
import Derived.Test.YtehgpnnfjgmiiaaGreatVWav
section
namespace Go.Proofs.YtehgpnnfjgmiiaaGreat
open Go.Shelf Go.RowKit Go.Lib Go.Great
set_option maxRecDepth 100000
set_option maxHeartbeats 2000000
theorem rdecode_b {w : World} {A : Option Addr} {c : Nat} {xs : List UInt8} {v v1 t2 : Nat} {V1 F V2 Y : List UInt8} {s0 s1 s2 s3 s4 s5 : St} (K : RdK w A c xs v v1 t2 V1 F V2 Y s0 s1 s2 s3 s4 s5) (h6 : ¬ v1 = 6) (hk : rkeyM (v1 : Int) = true) (hl : lstM (v1 : Int) = false) {dn : Int} {gd : Bool} (hdn : doneE s5 = dn)
    (H12 : ∀ W m, IsM W m ⟨(v1 : Int), t2, F, Y, [], []⟩ → Calls Tryz.prog 12 #[.agg (encM m).toArray] W fun e w' => e = .returned (.bool gd) ∧ Below W.heap.size W w') :
    Calls Tryz.prog 20 #[.slice A xs.length c] w fun e w' => ∃ m : Msg, e = .returned (.tuple #[.agg (encM m).toArray, .int .i64 (if v = 1 ∧ dn = 0 ∧ gd = true then 0 else 10)]) ∧ IsM w' m (if v = 1 ∧ dn = 0 ∧ gd = true then ⟨(v1 : Int), t2, F, Y, [], []⟩ else ⟨0, 0, zero20, zero20, [], []⟩) ∧ Below w.heap.size w w' := by
  have b6 := beqF (show ¬ (v1 : Int) = 6 by omega)
  have hz : zero20.length = 20 := by simp [zero20]
  have h256 := K.v1l
  have hv256 := K.vl
  have h32 := K.t2l
  have hw1 : (t2 : Int) % 4294967296 = (t2 : Int) := by omega
  have hw2 : t2 % 4294967296 = t2 := Nat.mod_eq_of_lt h32
  have D0 := Lib.hid K.d0
  have C1 := Lib.hid K.c1
  have C2 := Lib.hid K.c2
  have C3 := Lib.hid K.c3
  have C4 := Lib.hid K.c4
  have L1 := Lib.hid K.l1
  have HBU := Lib.hid (fun W => run_build28k (v1 : Int) W)
  have HBZ := Lib.hid run_build28z
  have HZ := Lib.hid (encM_length zeroM)
  have HZO := Lib.hid (encM_one zeroM)
  have H27 : Hid (∀ W, Calls Tryz.prog 27 #[.int .i64 (v1 : Int)] W fun e w' => e = .returned (.bool true) ∧ w' = W) := Lib.hid (fun W => by rw [← hk]; exact keyed_any _ W)
  have H30 : Hid (∀ W, Calls Tryz.prog 30 #[.int .i64 (v1 : Int)] W fun e w' => e = .returned (.bool false) ∧ w' = W) := Lib.hid (fun W => by rw [← hl]; exact listed_any _ W)
  have hl0 : (encMr (v1 : Int) 0 zero20 zero20 nilS nilS).length = 44 := encMr_length hz hz
  have ho0 : ∀ v ∈ encMr (v1 : Int) 0 zero20 zero20 nilS nilS, v.oneCell' = true := encMr_one rfl rfl
  have HL0 := Lib.hid hl0
  have HO0 := Lib.hid ho0
  have N3 : Hid (∀ W, RDV w (w.heap.size + 1) A c xs s2 W → RDW w (w.heap.size + 1) A c xs W.heap.size s2 (encMr (v1 : Int) 0 zero20 zero20 nilS nilS) (W.alloc (.cells (encMr (v1 : Int) 0 zero20 zero20 nilS nilS).toArray 28))) := Lib.hid (fun W d => ⟨d.bel ((Below.refl _ W).alloc (Nat.le_refl _) _), heap_alloc_new W _, d.lt.2⟩)
  have P3 : Hid (∀ W q, RDW w (w.heap.size + 1) A c xs q s3 (encMr (v1 : Int) 0 zero20 zero20 nilS nilS) W → RDW w (w.heap.size + 1) A c xs q s3 (encMr (v1 : Int) t2 zero20 zero20 nilS nilS) (W.setCell ⟨q, 1, none⟩ (.int .u32 (t2 : Int)))) := Lib.hid (fun W q d => d.set (mput_t d.hq _))
  have hm4 := K.m4
  have hm5 := K.m5
  clear hl0 ho0
  have HFL := Lib.hid K.hF
  have HYL := Lib.hid K.hY
  have P4L : Hid ((encMr (v1 : Int) t2 zero20 zero20 nilS nilS).length = 44) := Lib.hid (encMr_length hz hz)
  have C5 := Lib.hid K.c5
  have L2 := Lib.hid K.l2
  have P5L : Hid ((encMr (v1 : Int) t2 F zero20 nilS nilS).length = 44) := Lib.hid (encMr_length HFL.out hz)
  have P4 : Hid (∀ (q : Nat) (w4 w5 : World), RDW w (w.heap.size + 1) A c xs q s4 (encMr (v1 : Int) t2 zero20 zero20 nilS nilS) w4 → w5.heap[q]? = some (.cells (splice (encMr (v1 : Int) t2 zero20 zero20 nilS nilS) 2 (bcells V1)).toArray 28 (0, 0)) → w4.grownBy w5 (some q) → RDW w (w.heap.size + 1) A c xs q s4 (encMr (v1 : Int) t2 F zero20 nilS nilS) w5) := Lib.hid (fun q w4 w5 d h1 h2 => by
    rw [hm4] at h1
    exact d.put h1 h2)
  have P5 : Hid (∀ (q : Nat) (w4 w5 : World), RDW w (w.heap.size + 1) A c xs q s5 (encMr (v1 : Int) t2 F zero20 nilS nilS) w4 → w5.heap[q]? = some (.cells (splice (encMr (v1 : Int) t2 F zero20 nilS nilS) 22 (bcells V2)).toArray 28 (0, 0)) → w4.grownBy w5 (some q) → RDW w (w.heap.size + 1) A c xs q s5 (encMr (v1 : Int) t2 F Y nilS nilS) w5) := Lib.hid (fun q w4 w5 d h1 h2 => by
    rw [hm5] at h1
    exact d.put h1 h2)
  clear K hm4 hm5 hk hl
  go_enter Tryz.func20, Tryz.ntmps20
  go_upto_region 2 with (first
    | (with_reducible refine wpList_allocM (o := ⟨some 2, _, _, _, _, _⟩) w.heap.size rfl rfl 2 rfl rfl ?_))
  generalize (w.alloc (.cells (encM zeroM).toArray 28)).alloc (.cells #[.slice A xs.length c, .int .i64 0, .bool false] 72) = W0 at *
  go_upto_region 4 with (first
    | (go_at_call 43; (with_reducible refine (C1.out _ D0.out).mono ?_); rintro e w1 ⟨rfl, d1⟩)
    | (go_at_call 43; (with_reducible refine (C2.out _ d1).mono ?_); rintro e w2 ⟨rfl, d2⟩)
    | ((with_reducible refine wpList_buildV (o := ⟨some 15, _, _, _, _, _⟩) rfl 28 _ rfl _ ?_ _ (HBU.out _) ?_); rfl)
    | (with_reducible refine wpList_allocM (o := ⟨some 6, _, _, _, _, _⟩) w2.heap.size rfl rfl 6 rfl rfl ?_)
    | ((with_reducible refine wpList_storeMn (o := ⟨none, _, _, _, _, _⟩) rfl (.tmp 6) (.tmp 15) rfl w2.heap.size rfl (encM zeroM) (encMr (v1 : Int) 0 zero20 zero20 nilS nilS) HZ.out HL0.out HO0.out ?_ ?_ ?_); rfl; rfl))
  have d3 := N3.out _ d2
  generalize w2.alloc (.cells (encMr (v1 : Int) 0 zero20 zero20 nilS nilS).toArray 28) = W3 at *
  generalize w2.heap.size = q at *
  clear d1 d2 C1 C2 N3 D0 HBU HL0 HO0
  go_upto_region 5 with (go_at_call 43; (with_reducible refine (C3.out _ _ _ d3).mono ?_); rintro e w3 ⟨rfl, d4⟩; obtain ⟨a4, f4⟩ := d4.cell (j := 1) (v := .int .u32 0) rfl)
  have d5 := P3.out _ _ d4
  generalize w3.setCell ⟨q, 1, none⟩ (.int .u32 (t2 : Int)) = W5 at *
  clear d3 d4 a4 f4 C3 P3
  have e6 := d5.bel (Below.refl _ _).drew
  refine wp_region_noPanic ?_
  refine wp_region_held_drew (S := fun _ => True) (by kernel_rfl) trivial (fun hHeld => ?_)
  refine takeH_at 0 20 (v := ?_) rfl rfl (by kernel_rfl) (by kernel_rfl) (by kernel_rfl) (fun _ _ _ h => h) (Or.inl ⟨by rfl, ?_⟩) (by trivial) ?_
  rotate_left
  · (intro wx hSw; (try dsimp only at hSw); go_simp) <;> with_reducible rfl
  simp only [Act.put, List.setIfInBounds_toArray, List.set_cons_zero, List.set_cons_succ]
  refine takeH_at 1 21 (v := ?_) rfl rfl (by kernel_rfl) (by kernel_rfl) (by kernel_rfl) (fun _ _ _ h => h) (Or.inl ⟨by rfl, ?_⟩) (by trivial) ?_
  rotate_left
  · (intro wx hSw; (try dsimp only at hSw); go_simp) <;> with_reducible rfl
  simp only [Act.put, List.setIfInBounds_toArray, List.set_cons_zero, List.set_cons_succ]
  refine takeH_at 2 22 (v := ?_) rfl rfl (by kernel_rfl) (by kernel_rfl) (by kernel_rfl) (fun _ _ _ h => h) (Or.inl ⟨by rfl, ?_⟩) (by trivial) ?_
  rotate_left
  · (intro wx hSw; (try dsimp only at hSw); go_simp) <;> with_reducible rfl
  simp only [Act.put, List.setIfInBounds_toArray, List.set_cons_zero, List.set_cons_succ]
  refine wpAnyH_ready (rs := [3]) (by kernel_rfl) (by simp) ?_
  refine AllReadyH.cons rfl (fun K hK => ?_) AllReadyH.nil
  go_simp
  go_wp2_with (go_at_call 44; (with_reducible refine (C4.out _ _ _ e6).mono ?_); rintro e w55 ⟨A6, c6, rfl, t6, hA6⟩)
  refine hK.out _ _ (by trivial) (fun hHeld => ?_)
  clear hK K
  refine wpAnyH_ready (rs := [4]) (by kernel_rfl) (by simp) ?_
  refine AllReadyH.cons rfl (fun K hK => ?_) AllReadyH.nil
  refine step_copy_row rfl 24 rfl (.tmp 21) (.tmp 23) 31 31 rfl 5 Tryz.underlying31 size5c (some ⟨q, 2, none⟩) _ 20 20 V1.length c6 rfl rfl q 2 (encMr (v1 : Int) t2 zero20 zero20 nilS nilS) 28 t6.hq (bcells V1) (splice_len L1.out) (fun hp => ⟨rfl, hA6.cells hp⟩) (splice_fit L1.out 2 _ (by rw [P4L.out]; omega)) (bcells_oneI V1) ?_
  intro w6 hq6 hg6
  refine hK.out _ _ (by trivial) (fun hHeld => ?_)
  clear hK K
  refine wpAnyH_done (by kernel_rfl) ?_ _
  refine NoPanic.normal ?_
  simp only [Act.put, List.setIfInBounds_toArray, List.set_cons_zero, List.set_cons_succ]
  have d6 := P4.out _ _ _ t6 hq6 hg6
  clear t6 hq6 hg6 hA6 e6
  obtain ⟨a6, f6⟩ := d6.cell (j := 0) (v := .int .i64 (v1 : Int)) rfl
  clear C4 P4 d5
  go_upto_region 7 with (go_at_call 27; (with_reducible refine (H27.out _).mono ?_); rintro e w66 ⟨rfl, rfl⟩)
  have e8 := d6.bel (Below.refl _ _).drew
  refine wp_region_noPanic ?_
  refine wp_region_held_drew (S := fun _ => True) (by kernel_rfl) trivial (fun hHeld => ?_)
  refine takeH_at 0 28 (v := ?_) rfl rfl (by kernel_rfl) (by kernel_rfl) (by kernel_rfl) (fun _ _ _ h => h) (Or.inl ⟨by rfl, ?_⟩) (by trivial) ?_
  rotate_left
  · (intro wx hSw; (try dsimp only at hSw); go_simp) <;> with_reducible rfl
  simp only [Act.put, List.setIfInBounds_toArray, List.set_cons_zero, List.set_cons_succ]
  refine takeH_at 1 29 (v := ?_) rfl rfl (by kernel_rfl) (by kernel_rfl) (by kernel_rfl) (fun _ _ _ h => h) (Or.inl ⟨by rfl, ?_⟩) (by trivial) ?_
  rotate_left
  · (intro wx hSw; (try dsimp only at hSw); go_simp) <;> with_reducible rfl
  simp only [Act.put, List.setIfInBounds_toArray, List.set_cons_zero, List.set_cons_succ]
  refine takeH_at 2 30 (v := ?_) rfl rfl (by kernel_rfl) (by kernel_rfl) (by kernel_rfl) (fun _ _ _ h => h) (Or.inl ⟨by rfl, ?_⟩) (by trivial) ?_
  rotate_left
  · (intro wx hSw; (try dsimp only at hSw); go_simp) <;> with_reducible rfl
  simp only [Act.put, List.setIfInBounds_toArray, List.set_cons_zero, List.set_cons_succ]
  refine wpAnyH_ready (rs := [3]) (by kernel_rfl) (by simp) ?_
  refine AllReadyH.cons rfl (fun K hK => ?_) AllReadyH.nil
  go_simp
  go_wp2_with (go_at_call 44; (with_reducible refine (C5.out _ _ _ e8).mono ?_); rintro e w67 ⟨A8, c8, rfl, t8, hA8⟩)
  refine hK.out _ _ (by trivial) (fun hHeld => ?_)
  clear hK K
  refine wpAnyH_ready (rs := [4]) (by kernel_rfl) (by simp) ?_
  refine AllReadyH.cons rfl (fun K hK => ?_) AllReadyH.nil
  refine step_copy_row rfl 32 rfl (.tmp 29) (.tmp 31) 31 31 rfl 5 Tryz.underlying31 size5c (some ⟨q, 22, none⟩) _ 20 20 V2.length c8 rfl rfl q 22 (encMr (v1 : Int) t2 F zero20 nilS nilS) 28 t8.hq (bcells V2) (splice_len L2.out) (fun hp => ⟨rfl, hA8.cells hp⟩) (splice_fit L2.out 22 _ (by rw [P5L.out]; omega)) (bcells_oneI V2) ?_
  intro w8 hq8 hg8
  refine hK.out _ _ (by trivial) (fun hHeld => ?_)
  clear hK K
  refine wpAnyH_done (by kernel_rfl) ?_ _
  refine NoPanic.normal ?_
  simp only [Act.put, List.setIfInBounds_toArray, List.set_cons_zero, List.set_cons_succ]
  have d8 := P5.out _ _ _ t8 hq8 hg8
  clear t8 hq8 hg8 hA8 e8
  obtain ⟨a8, f8⟩ := d8.cell (j := 0) (v := .int .i64 (v1 : Int)) rfl
  clear C5 P5
  go_upto_region 12 with (first
    | (go_at_call 30; (with_reducible refine (H30.out _).mono ?_); rintro e w68 ⟨rfl, rfl⟩))
  obtain ⟨WE, hWE⟩ : ∃ W, W = w68 := ⟨_, rfl⟩
  obtain ⟨m, hm⟩ : ∃ m : Msg, m = ⟨(v1 : Int), t2, F, Y, nilS, nilS, by omega, h32, HFL.out, HYL.out, rfl, rfl⟩ := ⟨_, rfl⟩
  have hmE : IsM WE m ⟨(v1 : Int), t2, F, Y, [], []⟩ := by
    subst hm hWE
    exact ⟨rfl, rfl, rfl, rfl, conV_nil _, insV_nil _⟩
  have dE : RDW w (w.heap.size + 1) A c xs q s5 (encM m) WE := by
    subst hm hWE
    exact d8
  rw [← hWE]
  clear hm hWE
  have TK := rtail dE hdn hmE H12
  have TDN := Lib.hid TK.dnC
  have TLD := Lib.hid TK.ld
  have TGD := Lib.hid TK.gdC
  have TFZ := Lib.hid TK.fz
  have TFM := Lib.hid TK.fm
  have TR := Lib.hid (Below.refl WE.heap.size WE)
  have HML := Lib.hid (encM_length m)
  have HMO := Lib.hid (encM_one m)
  clear TK dE hdn hmE
  by_cases hv : v = 1
  · subst hv
    by_cases h0 : dn = 0
    · subst h0
      cases gd with
      | false =>
        go_wp2_with (first
          | (go_at_call 48; (with_reducible refine TDN.out.mono ?_); rintro e w6 ⟨rfl, hb6⟩)
          | ((with_reducible refine wpList_loadG (o := ⟨some 54, _, _, _, _, _⟩) rfl 28 (.tmp 6) rfl _ ?_ _ (TLD.out _ hb6) ?_); rfl)
          | (go_at_call 12; (with_reducible refine (TGD.out _ hb6).mono ?_); rintro e w7 ⟨rfl, hb7⟩; obtain ⟨x1, x2, x3⟩ := TFZ.out _ hb7)
          | ((with_reducible refine wpList_buildV (o := ⟨some 58, _, _, _, _, _⟩) rfl 28 #[] rfl #[] ?_ _ (HBZ.out _) ?_); rfl)
          | ((with_reducible refine wpList_storeM (o := ⟨none, _, _, _, _, _⟩) rfl (.tmp 2) (.tmp 58) rfl w.heap.size (encM zeroM) HZ.out HZO.out ?_ ?_ x1 ?_); rfl; rfl))
        refine bodyPost_ret (results_cs (p := 2) (t := 3) (ty := 28) rfl _ _ w.heap.size 0 (encM zeroM) _ _ rfl rfl x2 Tryz.underlying28 rfl (by rw [HZ.out]; exact size28m)) rfl ?_
        exact ⟨zeroM, by simp, by simpa using zero_is _, x3⟩
      | true =>
        go_wp2_with (first
          | (go_at_call 48; (with_reducible refine TDN.out.mono ?_); rintro e w6 ⟨rfl, hb6⟩)
          | ((with_reducible refine wpList_loadG (o := ⟨some 54, _, _, _, _, _⟩) rfl 28 (.tmp 6) rfl _ ?_ _ (TLD.out _ hb6) ?_); rfl)
          | (go_at_call 12; (with_reducible refine (TGD.out _ hb6).mono ?_); rintro e w7 ⟨rfl, hb7⟩; obtain ⟨x1, x2, x3, x4⟩ := TFM.out _ hb7)
          | ((with_reducible refine wpList_loadV (op := ⟨some 59, _, _, _, _, _⟩) rfl 28 (.tmp 6) rfl _ ?_ _ (TLD.out _ hb7) ?_); rfl)
          | ((with_reducible refine wpList_storeM (o := ⟨none, _, _, _, _, _⟩) rfl (.tmp 2) (.tmp 59) rfl w.heap.size (encM m) HML.out HMO.out ?_ ?_ x1 ?_); rfl; rfl))
        refine bodyPost_ret (results_cs (p := 2) (t := 3) (ty := 28) rfl _ _ w.heap.size 0 (encM m) _ _ rfl rfl x2 Tryz.underlying28 rfl (by rw [HML.out]; exact size28m)) rfl ?_
        exact ⟨m, by simp, by simpa using x4, x3⟩
    · have bd := bneT h0
      go_wp2_with (first
        | (go_at_call 48; (with_reducible refine TDN.out.mono ?_); rintro e w6 ⟨rfl, hb6⟩; obtain ⟨x1, x2, x3⟩ := TFZ.out _ hb6)
        | ((with_reducible refine wpList_buildV (o := ⟨some 58, _, _, _, _, _⟩) rfl 28 #[] rfl #[] ?_ _ (HBZ.out _) ?_); rfl)
        | ((with_reducible refine wpList_storeM (o := ⟨none, _, _, _, _, _⟩) rfl (.tmp 2) (.tmp 58) rfl w.heap.size (encM zeroM) HZ.out HZO.out ?_ ?_ x1 ?_); rfl; rfl))
      refine bodyPost_ret (results_cs (p := 2) (t := 3) (ty := 28) rfl _ _ w.heap.size 0 (encM zeroM) _ _ rfl rfl x2 Tryz.underlying28 rfl (by rw [HZ.out]; exact size28m)) rfl ?_
      exact ⟨zeroM, by simp [h0], by simpa [h0] using zero_is _, x3⟩
  · have bv := bneT (show ¬ (v : Int) = 1 by omega)
    obtain ⟨x1, x2, x3⟩ := TFZ.out _ TR.out
    go_wp2_with (first
      | ((with_reducible refine wpList_buildV (o := ⟨some 58, _, _, _, _, _⟩) rfl 28 #[] rfl #[] ?_ _ (HBZ.out _) ?_); rfl)
      | ((with_reducible refine wpList_storeM (o := ⟨none, _, _, _, _, _⟩) rfl (.tmp 2) (.tmp 58) rfl w.heap.size (encM zeroM) HZ.out HZO.out ?_ ?_ x1 ?_); rfl; rfl))
    refine bodyPost_ret (results_cs (p := 2) (t := 3) (ty := 28) rfl _ _ w.heap.size 0 (encM zeroM) _ _ rfl rfl x2 Tryz.underlying28 rfl (by rw [HZ.out]; exact size28m)) rfl ?_
    exact ⟨zeroM, by simp [hv], by simpa [hv] using zero_is _, x3⟩
end Go.Proofs.YtehgpnnfjgmiiaaGreat
end
section
namespace Go.Proofs.YtehgpnnfjgmiiaaGreat
open Go.Shelf Go.RowKit Go.Lib Go.Great
set_option maxRecDepth 100000
set_option maxHeartbeats 2000000
theorem rdecode_c {w : World} {A : Option Addr} {c : Nat} {xs : List UInt8} {v v1 t2 : Nat} {V1 F V2 Y : List UInt8} {s0 s1 s2 s3 s4 s5 : St} (K : RdK w A c xs v v1 t2 V1 F V2 Y s0 s1 s2 s3 s4 s5) (h6 : v1 = 6) (hk : rkeyM (v1 : Int) = true) (hl : lstM (v1 : Int) = false) {L : List Con} {ll : Nat} {sE : St} (H6 : ∀ W q cq, RDW w (w.heap.size + 1) A c xs q s5 cq W → Calls Tryz.prog 46 #[.pointer (some ⟨w.heap.size + 1, 0, none⟩)] W fun e W' => ∃ B k, e = .returned (.slice B ll k) ∧ RDW w (w.heap.size + 1) A c xs q sE cq W' ∧ CAt W' W'.heap.size B L) (H7 : ∀ W B k, CAt W W.heap.size B L → Calls Tryz.prog 45 #[.slice B ll k] W fun e W' => ∃ B' k', e = .returned (.slice B' ll k') ∧ ConV W' (.slice B' ll k') L ∧ Below W.heap.size W W') {dn : Int} {gd : Bool} (hdn : doneE sE = dn)
    (H12 : ∀ W m, IsM W m ⟨(v1 : Int), t2, F, Y, L, []⟩ → Calls Tryz.prog 12 #[.agg (encM m).toArray] W fun e w' => e = .returned (.bool gd) ∧ Below W.heap.size W w') :
    Calls Tryz.prog 20 #[.slice A xs.length c] w fun e w' => ∃ m : Msg, e = .returned (.tuple #[.agg (encM m).toArray, .int .i64 (if v = 1 ∧ dn = 0 ∧ gd = true then 0 else 10)]) ∧ IsM w' m (if v = 1 ∧ dn = 0 ∧ gd = true then ⟨(v1 : Int), t2, F, Y, L, []⟩ else ⟨0, 0, zero20, zero20, [], []⟩) ∧ Below w.heap.size w w' := by
  subst h6
  simp only [show ((6 : Nat) : Int) = 6 from rfl] at *
  have hz : zero20.length = 20 := by simp [zero20]
  have h256 := K.v1l
  have hv256 := K.vl
  have h32 := K.t2l
  have hw1 : (t2 : Int) % 4294967296 = (t2 : Int) := by omega
  have hw2 : t2 % 4294967296 = t2 := Nat.mod_eq_of_lt h32
  have D0 := Lib.hid K.d0
  have C1 := Lib.hid K.c1
  have C2 := Lib.hid K.c2
  have C3 := Lib.hid K.c3
  have C4 := Lib.hid K.c4
  have L1 := Lib.hid K.l1
  have HBU := Lib.hid (fun W => run_build28k 6 W)
  have HBZ := Lib.hid run_build28z
  have HZ := Lib.hid (encM_length zeroM)
  have HZO := Lib.hid (encM_one zeroM)
  have H27 : Hid (∀ W, Calls Tryz.prog 27 #[.int .i64 6] W fun e w' => e = .returned (.bool true) ∧ w' = W) := Lib.hid (fun W => by rw [← hk]; exact keyed_any _ W)
  have H30 : Hid (∀ W, Calls Tryz.prog 30 #[.int .i64 6] W fun e w' => e = .returned (.bool false) ∧ w' = W) := Lib.hid (fun W => by rw [← hl]; exact listed_any _ W)
  have hl0 : (encMr 6 0 zero20 zero20 nilS nilS).length = 44 := encMr_length hz hz
  have ho0 : ∀ v ∈ encMr 6 0 zero20 zero20 nilS nilS, v.oneCell' = true := encMr_one rfl rfl
  have HL0 := Lib.hid hl0
  have HO0 := Lib.hid ho0
  have N3 : Hid (∀ W, RDV w (w.heap.size + 1) A c xs s2 W → RDW w (w.heap.size + 1) A c xs W.heap.size s2 (encMr 6 0 zero20 zero20 nilS nilS) (W.alloc (.cells (encMr 6 0 zero20 zero20 nilS nilS).toArray 28))) := Lib.hid (fun W d => ⟨d.bel ((Below.refl _ W).alloc (Nat.le_refl _) _), heap_alloc_new W _, d.lt.2⟩)
  have P3 : Hid (∀ W q, RDW w (w.heap.size + 1) A c xs q s3 (encMr 6 0 zero20 zero20 nilS nilS) W → RDW w (w.heap.size + 1) A c xs q s3 (encMr 6 t2 zero20 zero20 nilS nilS) (W.setCell ⟨q, 1, none⟩ (.int .u32 (t2 : Int)))) := Lib.hid (fun W q d => d.set (mput_t d.hq _))
  have hm4 := K.m4
  have hm5 := K.m5
  clear hl0 ho0
  have HFL := Lib.hid K.hF
  have HYL := Lib.hid K.hY
  have P4L : Hid ((encMr 6 t2 zero20 zero20 nilS nilS).length = 44) := Lib.hid (encMr_length hz hz)
  have C5 := Lib.hid K.c5
  have L2 := Lib.hid K.l2
  have P5L : Hid ((encMr 6 t2 F zero20 nilS nilS).length = 44) := Lib.hid (encMr_length HFL.out hz)
  have C6 := Lib.hid H6
  clear H6
  have C7 := Lib.hid H7
  clear H7
  have P6 : Hid (∀ W q v, RDW w (w.heap.size + 1) A c xs q sE (encMr 6 t2 F Y nilS nilS) W → RDW w (w.heap.size + 1) A c xs q sE (encMr 6 t2 F Y v nilS) (W.setCell ⟨q, 42, none⟩ v)) := Lib.hid (fun W q v d => d.set (mput_c HFL.out HYL.out d.hq v))
  have HG6 := Lib.hid (mget_c (k := 6) (t := t2) (vc := nilS) (vr := nilS) HFL.out HYL.out).1
  have P4 : Hid (∀ (q : Nat) (w4 w5 : World), RDW w (w.heap.size + 1) A c xs q s4 (encMr 6 t2 zero20 zero20 nilS nilS) w4 → w5.heap[q]? = some (.cells (splice (encMr 6 t2 zero20 zero20 nilS nilS) 2 (bcells V1)).toArray 28 (0, 0)) → w4.grownBy w5 (some q) → RDW w (w.heap.size + 1) A c xs q s4 (encMr 6 t2 F zero20 nilS nilS) w5) := Lib.hid (fun q w4 w5 d h1 h2 => by
    rw [hm4] at h1
    exact d.put h1 h2)
  have P5 : Hid (∀ (q : Nat) (w4 w5 : World), RDW w (w.heap.size + 1) A c xs q s5 (encMr 6 t2 F zero20 nilS nilS) w4 → w5.heap[q]? = some (.cells (splice (encMr 6 t2 F zero20 nilS nilS) 22 (bcells V2)).toArray 28 (0, 0)) → w4.grownBy w5 (some q) → RDW w (w.heap.size + 1) A c xs q s5 (encMr 6 t2 F Y nilS nilS) w5) := Lib.hid (fun q w4 w5 d h1 h2 => by
    rw [hm5] at h1
    exact d.put h1 h2)
  clear K hm4 hm5 hk hl
  go_enter Tryz.func20, Tryz.ntmps20
  go_upto_region 2 with (first
    | (with_reducible refine wpList_allocM (o := ⟨some 2, _, _, _, _, _⟩) w.heap.size rfl rfl 2 rfl rfl ?_))
  generalize (w.alloc (.cells (encM zeroM).toArray 28)).alloc (.cells #[.slice A xs.length c, .int .i64 0, .bool false] 72) = W0 at *
  go_upto_region 4 with (first
    | (go_at_call 43; (with_reducible refine (C1.out _ D0.out).mono ?_); rintro e w1 ⟨rfl, d1⟩)
    | (go_at_call 43; (with_reducible refine (C2.out _ d1).mono ?_); rintro e w2 ⟨rfl, d2⟩)
    | ((with_reducible refine wpList_buildV (o := ⟨some 15, _, _, _, _, _⟩) rfl 28 _ rfl _ ?_ _ (HBU.out _) ?_); rfl)
    | (with_reducible refine wpList_allocM (o := ⟨some 6, _, _, _, _, _⟩) w2.heap.size rfl rfl 6 rfl rfl ?_)
    | ((with_reducible refine wpList_storeMn (o := ⟨none, _, _, _, _, _⟩) rfl (.tmp 6) (.tmp 15) rfl w2.heap.size rfl (encM zeroM) (encMr 6 0 zero20 zero20 nilS nilS) HZ.out HL0.out HO0.out ?_ ?_ ?_); rfl; rfl))
  have d3 := N3.out _ d2
  generalize w2.alloc (.cells (encMr 6 0 zero20 zero20 nilS nilS).toArray 28) = W3 at *
  generalize w2.heap.size = q at *
  clear d1 d2 C1 C2 N3 D0 HBU HL0 HO0
  go_upto_region 5 with (go_at_call 43; (with_reducible refine (C3.out _ _ _ d3).mono ?_); rintro e w3 ⟨rfl, d4⟩; obtain ⟨a4, f4⟩ := d4.cell (j := 1) (v := .int .u32 0) rfl)
  have d5 := P3.out _ _ d4
  generalize w3.setCell ⟨q, 1, none⟩ (.int .u32 (t2 : Int)) = W5 at *
  clear d3 d4 a4 f4 C3 P3
  have e6 := d5.bel (Below.refl _ _).drew
  refine wp_region_noPanic ?_
  refine wp_region_held_drew (S := fun _ => True) (by kernel_rfl) trivial (fun hHeld => ?_)
  refine takeH_at 0 20 (v := ?_) rfl rfl (by kernel_rfl) (by kernel_rfl) (by kernel_rfl) (fun _ _ _ h => h) (Or.inl ⟨by rfl, ?_⟩) (by trivial) ?_
  rotate_left
  · (intro wx hSw; (try dsimp only at hSw); go_simp) <;> with_reducible rfl
  simp only [Act.put, List.setIfInBounds_toArray, List.set_cons_zero, List.set_cons_succ]
  refine takeH_at 1 21 (v := ?_) rfl rfl (by kernel_rfl) (by kernel_rfl) (by kernel_rfl) (fun _ _ _ h => h) (Or.inl ⟨by rfl, ?_⟩) (by trivial) ?_
  rotate_left
  · (intro wx hSw; (try dsimp only at hSw); go_simp) <;> with_reducible rfl
  simp only [Act.put, List.setIfInBounds_toArray, List.set_cons_zero, List.set_cons_succ]
  refine takeH_at 2 22 (v := ?_) rfl rfl (by kernel_rfl) (by kernel_rfl) (by kernel_rfl) (fun _ _ _ h => h) (Or.inl ⟨by rfl, ?_⟩) (by trivial) ?_
  rotate_left
  · (intro wx hSw; (try dsimp only at hSw); go_simp) <;> with_reducible rfl
  simp only [Act.put, List.setIfInBounds_toArray, List.set_cons_zero, List.set_cons_succ]
  refine wpAnyH_ready (rs := [3]) (by kernel_rfl) (by simp) ?_
  refine AllReadyH.cons rfl (fun K hK => ?_) AllReadyH.nil
  go_simp
  go_wp2_with (go_at_call 44; (with_reducible refine (C4.out _ _ _ e6).mono ?_); rintro e w55 ⟨A6, c6, rfl, t6, hA6⟩)
  refine hK.out _ _ (by trivial) (fun hHeld => ?_)
  clear hK K
  refine wpAnyH_ready (rs := [4]) (by kernel_rfl) (by simp) ?_
  refine AllReadyH.cons rfl (fun K hK => ?_) AllReadyH.nil
  refine step_copy_row rfl 24 rfl (.tmp 21) (.tmp 23) 31 31 rfl 5 Tryz.underlying31 size5c (some ⟨q, 2, none⟩) _ 20 20 V1.length c6 rfl rfl q 2 (encMr 6 t2 zero20 zero20 nilS nilS) 28 t6.hq (bcells V1) (splice_len L1.out) (fun hp => ⟨rfl, hA6.cells hp⟩) (splice_fit L1.out 2 _ (by rw [P4L.out]; omega)) (bcells_oneI V1) ?_
  intro w6 hq6 hg6
  refine hK.out _ _ (by trivial) (fun hHeld => ?_)
  clear hK K
  refine wpAnyH_done (by kernel_rfl) ?_ _
  refine NoPanic.normal ?_
  simp only [Act.put, List.setIfInBounds_toArray, List.set_cons_zero, List.set_cons_succ]
  have d6 := P4.out _ _ _ t6 hq6 hg6
  clear t6 hq6 hg6 hA6 e6
  obtain ⟨a6, f6⟩ := d6.cell (j := 0) (v := .int .i64 6) rfl
  clear C4 P4 d5
  go_upto_region 7 with (go_at_call 27; (with_reducible refine (H27.out _).mono ?_); rintro e w66 ⟨rfl, rfl⟩)
  have e8 := d6.bel (Below.refl _ _).drew
  refine wp_region_noPanic ?_
  refine wp_region_held_drew (S := fun _ => True) (by kernel_rfl) trivial (fun hHeld => ?_)
  refine takeH_at 0 28 (v := ?_) rfl rfl (by kernel_rfl) (by kernel_rfl) (by kernel_rfl) (fun _ _ _ h => h) (Or.inl ⟨by rfl, ?_⟩) (by trivial) ?_
  rotate_left
  · (intro wx hSw; (try dsimp only at hSw); go_simp) <;> with_reducible rfl
  simp only [Act.put, List.setIfInBounds_toArray, List.set_cons_zero, List.set_cons_succ]
  refine takeH_at 1 29 (v := ?_) rfl rfl (by kernel_rfl) (by kernel_rfl) (by kernel_rfl) (fun _ _ _ h => h) (Or.inl ⟨by rfl, ?_⟩) (by trivial) ?_
  rotate_left
  · (intro wx hSw; (try dsimp only at hSw); go_simp) <;> with_reducible rfl
  simp only [Act.put, List.setIfInBounds_toArray, List.set_cons_zero, List.set_cons_succ]
  refine takeH_at 2 30 (v := ?_) rfl rfl (by kernel_rfl) (by kernel_rfl) (by kernel_rfl) (fun _ _ _ h => h) (Or.inl ⟨by rfl, ?_⟩) (by trivial) ?_
  rotate_left
  · (intro wx hSw; (try dsimp only at hSw); go_simp) <;> with_reducible rfl
  simp only [Act.put, List.setIfInBounds_toArray, List.set_cons_zero, List.set_cons_succ]
  refine wpAnyH_ready (rs := [3]) (by kernel_rfl) (by simp) ?_
  refine AllReadyH.cons rfl (fun K hK => ?_) AllReadyH.nil
  go_simp
  go_wp2_with (go_at_call 44; (with_reducible refine (C5.out _ _ _ e8).mono ?_); rintro e w67 ⟨A8, c8, rfl, t8, hA8⟩)
  refine hK.out _ _ (by trivial) (fun hHeld => ?_)
  clear hK K
  refine wpAnyH_ready (rs := [4]) (by kernel_rfl) (by simp) ?_
  refine AllReadyH.cons rfl (fun K hK => ?_) AllReadyH.nil
  refine step_copy_row rfl 32 rfl (.tmp 29) (.tmp 31) 31 31 rfl 5 Tryz.underlying31 size5c (some ⟨q, 22, none⟩) _ 20 20 V2.length c8 rfl rfl q 22 (encMr 6 t2 F zero20 nilS nilS) 28 t8.hq (bcells V2) (splice_len L2.out) (fun hp => ⟨rfl, hA8.cells hp⟩) (splice_fit L2.out 22 _ (by rw [P5L.out]; omega)) (bcells_oneI V2) ?_
  intro w8 hq8 hg8
  refine hK.out _ _ (by trivial) (fun hHeld => ?_)
  clear hK K
  refine wpAnyH_done (by kernel_rfl) ?_ _
  refine NoPanic.normal ?_
  simp only [Act.put, List.setIfInBounds_toArray, List.set_cons_zero, List.set_cons_succ]
  have d8 := P5.out _ _ _ t8 hq8 hg8
  clear t8 hq8 hg8 hA8 e8
  obtain ⟨a8, f8⟩ := d8.cell (j := 0) (v := .int .i64 6) rfl
  clear C5 P5
  go_upto_region 12 with (first
    | (go_at_call 46; (with_reducible refine (C6.out _ _ _ d8).mono ?_); rintro e w9 ⟨B9, k9, rfl, d9, h9⟩)
    | (go_at_call 45; (with_reducible refine (C7.out _ _ _ h9).mono ?_); rintro e w10 ⟨B10, k10, rfl, h10, hb10⟩; have d10 := d9.bel hb10; obtain ⟨a10, f10⟩ := d10.cell (j := 42) HG6.out; have d11 := P6.out _ _ (.slice B10 ll k10) d10; obtain ⟨a11, f11⟩ := d11.cell (j := 0) (v := .int .i64 6) rfl)
    | (go_at_call 30; (with_reducible refine (H30.out _).mono ?_); rintro e w68 ⟨rfl, rfl⟩))
  obtain ⟨WE, hWE⟩ : ∃ W, W = w10.setCell ⟨q, 42, none⟩ (.slice B10 ll k10) := ⟨_, rfl⟩
  obtain ⟨m, hm⟩ : ∃ m : Msg, m = ⟨6, t2, F, Y, (.slice B10 ll k10), nilS, by omega, h32, HFL.out, HYL.out, rfl, rfl⟩ := ⟨_, rfl⟩
  have hmE : IsM WE m ⟨6, t2, F, Y, L, []⟩ := by
    subst hm hWE
    exact ⟨rfl, rfl, rfl, rfl, conv_set h10 d10.hq slV_nil slV_nil 42 (.slice B10 ll k10), insV_nil _⟩
  have dE : RDW w (w.heap.size + 1) A c xs q sE (encM m) WE := by
    subst hm hWE
    exact d11
  rw [← hWE]
  clear hm hWE
  have TK := rtail dE hdn hmE H12
  have TDN := Lib.hid TK.dnC
  have TLD := Lib.hid TK.ld
  have TGD := Lib.hid TK.gdC
  have TFZ := Lib.hid TK.fz
  have TFM := Lib.hid TK.fm
  have TR := Lib.hid (Below.refl WE.heap.size WE)
  have HML := Lib.hid (encM_length m)
  have HMO := Lib.hid (encM_one m)
  clear TK dE hdn hmE
  by_cases hv : v = 1
  · subst hv
    by_cases h0 : dn = 0
    · subst h0
      cases gd with
      | false =>
        go_wp2_with (first
          | (go_at_call 48; (with_reducible refine TDN.out.mono ?_); rintro e w6 ⟨rfl, hb6⟩)
          | ((with_reducible refine wpList_loadG (o := ⟨some 54, _, _, _, _, _⟩) rfl 28 (.tmp 6) rfl _ ?_ _ (TLD.out _ hb6) ?_); rfl)
          | (go_at_call 12; (with_reducible refine (TGD.out _ hb6).mono ?_); rintro e w7 ⟨rfl, hb7⟩; obtain ⟨x1, x2, x3⟩ := TFZ.out _ hb7)
          | ((with_reducible refine wpList_buildV (o := ⟨some 58, _, _, _, _, _⟩) rfl 28 #[] rfl #[] ?_ _ (HBZ.out _) ?_); rfl)
          | ((with_reducible refine wpList_storeM (o := ⟨none, _, _, _, _, _⟩) rfl (.tmp 2) (.tmp 58) rfl w.heap.size (encM zeroM) HZ.out HZO.out ?_ ?_ x1 ?_); rfl; rfl))
        refine bodyPost_ret (results_cs (p := 2) (t := 3) (ty := 28) rfl _ _ w.heap.size 0 (encM zeroM) _ _ rfl rfl x2 Tryz.underlying28 rfl (by rw [HZ.out]; exact size28m)) rfl ?_
        exact ⟨zeroM, by simp, by simpa using zero_is _, x3⟩
      | true =>
        go_wp2_with (first
          | (go_at_call 48; (with_reducible refine TDN.out.mono ?_); rintro e w6 ⟨rfl, hb6⟩)
          | ((with_reducible refine wpList_loadG (o := ⟨some 54, _, _, _, _, _⟩) rfl 28 (.tmp 6) rfl _ ?_ _ (TLD.out _ hb6) ?_); rfl)
          | (go_at_call 12; (with_reducible refine (TGD.out _ hb6).mono ?_); rintro e w7 ⟨rfl, hb7⟩; obtain ⟨x1, x2, x3, x4⟩ := TFM.out _ hb7)
          | ((with_reducible refine wpList_loadV (op := ⟨some 59, _, _, _, _, _⟩) rfl 28 (.tmp 6) rfl _ ?_ _ (TLD.out _ hb7) ?_); rfl)
          | ((with_reducible refine wpList_storeM (o := ⟨none, _, _, _, _, _⟩) rfl (.tmp 2) (.tmp 59) rfl w.heap.size (encM m) HML.out HMO.out ?_ ?_ x1 ?_); rfl; rfl))
        refine bodyPost_ret (results_cs (p := 2) (t := 3) (ty := 28) rfl _ _ w.heap.size 0 (encM m) _ _ rfl rfl x2 Tryz.underlying28 rfl (by rw [HML.out]; exact size28m)) rfl ?_
        exact ⟨m, by simp, by simpa using x4, x3⟩
    · have bd := bneT h0
      go_wp2_with (first
        | (go_at_call 48; (with_reducible refine TDN.out.mono ?_); rintro e w6 ⟨rfl, hb6⟩; obtain ⟨x1, x2, x3⟩ := TFZ.out _ hb6)
        | ((with_reducible refine wpList_buildV (o := ⟨some 58, _, _, _, _, _⟩) rfl 28 #[] rfl #[] ?_ _ (HBZ.out _) ?_); rfl)
        | ((with_reducible refine wpList_storeM (o := ⟨none, _, _, _, _, _⟩) rfl (.tmp 2) (.tmp 58) rfl w.heap.size (encM zeroM) HZ.out HZO.out ?_ ?_ x1 ?_); rfl; rfl))
      refine bodyPost_ret (results_cs (p := 2) (t := 3) (ty := 28) rfl _ _ w.heap.size 0 (encM zeroM) _ _ rfl rfl x2 Tryz.underlying28 rfl (by rw [HZ.out]; exact size28m)) rfl ?_
      exact ⟨zeroM, by simp [h0], by simpa [h0] using zero_is _, x3⟩
  · have bv := bneT (show ¬ (v : Int) = 1 by omega)
    obtain ⟨x1, x2, x3⟩ := TFZ.out _ TR.out
    go_wp2_with (first
      | ((with_reducible refine wpList_buildV (o := ⟨some 58, _, _, _, _, _⟩) rfl 28 #[] rfl #[] ?_ _ (HBZ.out _) ?_); rfl)
      | ((with_reducible refine wpList_storeM (o := ⟨none, _, _, _, _, _⟩) rfl (.tmp 2) (.tmp 58) rfl w.heap.size (encM zeroM) HZ.out HZO.out ?_ ?_ x1 ?_); rfl; rfl))
    refine bodyPost_ret (results_cs (p := 2) (t := 3) (ty := 28) rfl _ _ w.heap.size 0 (encM zeroM) _ _ rfl rfl x2 Tryz.underlying28 rfl (by rw [HZ.out]; exact size28m)) rfl ?_
    exact ⟨zeroM, by simp [hv], by simpa [hv] using zero_is _, x3⟩
end Go.Proofs.YtehgpnnfjgmiiaaGreat
end
