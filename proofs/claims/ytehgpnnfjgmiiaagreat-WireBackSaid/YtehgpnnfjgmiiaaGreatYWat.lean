/- next of the program, walked. No condition. -/
import Derived.Test.YtehgpnnfjgmiiaaGreatYWaq
namespace Go.Proofs.YtehgpnnfjgmiiaaGreat
open Go.Shelf Go.RowKit Go.Lib Go.Great
set_option maxRecDepth 100000
set_option maxHeartbeats 2000000
theorem next_a {w : World} {g B : Nat} {s : St} {v1 t2 : Nat} {F Y : List UInt8} {s1 s2 s3 s4 : St} (h6 : ¬ v1 = 6) (h4 : ¬ v1 = 4) (h7 : ¬ v1 = 7) (K : NexK w g B w.heap.size (w.heap.size + 1) s v1 t2 F Y false s1 s2 s3 s4 ((w.alloc (.cells (encM zeroM).toArray 28)).alloc (.cells (encM zeroM).toArray 28))) :
    Calls Tryz.prog 41 #[.pointer (some ⟨g, 0, none⟩)] w fun e w' => ∃ vc vr, e = .returned (.agg (encMr (v1 : Int) t2 F Y vc vr).toArray) ∧ vc.oneCell' = true ∧ vr.oneCell' = true ∧ FrV w.heap.size vc ∧ FrV w.heap.size vr ∧ ConV w' vc [] ∧ InsV w' vr [] ∧ RdrB w' g s4 B ∧ w.grownBy w' (some g) := by
  have b6 := beqF (show ¬ (v1 : Int) = 6 by omega)
  have b4 := beqF (show ¬ (v1 : Int) = 4 by omega)
  have b7 := beqF (show ¬ (v1 : Int) = 7 by omega)
  have hF := K.hF
  have hY := K.hY
  have hz : zero20.length = 20 := by simp [zero20]
  have h256 := K.v1l
  have h32 := K.t2l
  have hw1 : (t2 : Int) % 4294967296 = (t2 : Int) := by omega
  have hw2 : t2 % 4294967296 = t2 := Nat.mod_eq_of_lt h32
  have N0 := Lib.hid K.n0
  have C1 := Lib.hid K.c1
  have C2 := Lib.hid K.c2
  have C3 := Lib.hid K.c3
  obtain ⟨hYz, hs4⟩ := K.c5 rfl
  have H23 : Hid (∀ W, Calls Tryz.prog 23 #[.int .i64 (v1 : Int)] W fun e w' => e = .returned (.bool false) ∧ w' = W) := Lib.hid (fun W => by rw [← K.hk]; exact haskey_any _ W)
  have HW : Hid ((w.alloc (.cells (encM zeroM).toArray 28)).heap.size = w.heap.size + 1) := Lib.hid (by simp)
  have P1 : Hid (∀ W, NXM w g B w.heap.size (w.heap.size + 1) s1 (encM zeroM) W → NXM w g B w.heap.size (w.heap.size + 1) s1 (encMr (v1 : Int) 0 zero20 zero20 nilS nilS) (W.setCell ⟨w.heap.size + 1, 0, none⟩ (.int .i64 (v1 : Int)))) := Lib.hid (fun W n => n.set (mput_k n.hq _))
  have P2 : Hid (∀ W, NXM w g B w.heap.size (w.heap.size + 1) s2 (encMr (v1 : Int) 0 zero20 zero20 nilS nilS) W → NXM w g B w.heap.size (w.heap.size + 1) s2 (encMr (v1 : Int) t2 zero20 zero20 nilS nilS) (W.setCell ⟨w.heap.size + 1, 1, none⟩ (.int .u32 (t2 : Int)))) := Lib.hid (fun W n => n.set (mput_t n.hq _))
  have P3 : Hid (∀ W, NXM w g B w.heap.size (w.heap.size + 1) s3 (encMr (v1 : Int) t2 zero20 zero20 nilS nilS) W → NXM w g B w.heap.size (w.heap.size + 1) s3 (encMr (v1 : Int) t2 F zero20 nilS nilS) (W.setCells (w.heap.size + 1) 2 (bcells F))) := Lib.hid (fun W n => n.sets (mput_f hz hz n.hq F hF))
  have T3 : Hid (∀ W, NXM w g B w.heap.size (w.heap.size + 1) s3 (encMr (v1 : Int) t2 zero20 zero20 nilS nilS) W → W.there (w.heap.size + 1) 2 20) := Lib.hid (fun W n => NXM.part hz hz n 2 20 (by omega))
  have HFL := Lib.hid hF
  have HYL := Lib.hid hY
  have HYZ := Lib.hid hYz
  have HS4 := Lib.hid hs4
  clear hYz hs4
  clear K hF hY hz
  generalize hq : w.heap.size + 1 = q at *
  have HQ := Lib.hid hq
  clear hq
  go_enter Tryz.func41, Tryz.ntmps41
  go_upto_region 2 with (first
    | (with_reducible refine wpList_allocM (o := ⟨some 2, _, _, _, _, _⟩) w.heap.size rfl rfl 2 rfl rfl ?_)
    | (with_reducible refine wpList_allocM (o := ⟨some 3, _, _, _, _, _⟩) q (by rw [← HQ.out]; simp) rfl 3 rfl rfl ?_))
  generalize (w.alloc (.cells (encM zeroM).toArray 28)).alloc (.cells (encM zeroM).toArray 28) = W0 at *
  go_upto_region 14 with (first
    | (go_at_call 40; (with_reducible refine (C1.out _ N0.out).mono ?_); rintro e w1 ⟨rfl, n1⟩; obtain ⟨a1, f1⟩ := n1.cell (j := 0) (v := .int .i64 0) rfl)
    | (go_at_call 40; (with_reducible refine (C2.out _ _ (P1.out _ n1)).mono ?_); rintro e w2 ⟨rfl, n2⟩; obtain ⟨a2, f2⟩ := n2.cell (j := 1) (v := .int .u32 0) rfl)
    | (go_at_call 68; (with_reducible refine (C3.out _ _ _ (P2.out _ n2)).mono ?_); rintro e w3 ⟨rfl, n3⟩; have t3 := T3.out _ n3; have m3 := P3.out _ n3; obtain ⟨a3, f3⟩ := m3.cell (j := 0) (v := .int .i64 (v1 : Int)) rfl)
    | ((with_reducible refine wpList_store24 (o := ⟨none, _, _, _, _, _⟩) rfl (.tmp 20) (.tmp 19) rfl q 2 F HFL.out ?_ ?_ t3 ?_); rfl; rfl)
    | (go_at_call 23; (with_reducible refine (H23.out _).mono ?_); rintro e w4 ⟨rfl, rfl⟩))
  have hYz := HYZ.out
  have hs4 := HS4.out
  subst hYz hs4
  have mE := m3
  have hl := encMr_length (k := (v1 : Int)) (t := t2) (vc := nilS) (vr := nilS) (y := zero20) HFL.out (by simp [zero20])
  have h1 : ∀ v ∈ encMr (v1 : Int) t2 F zero20 nilS nilS, v.oneCell' = true := encMr_one rfl rfl
  obtain ⟨h91, h92, h93, h94⟩ := mE.fin (encMr (v1 : Int) t2 F zero20 nilS nilS) (by rw [hl, encM_length])
  rw [encM_length] at h91
  have HLD := Lib.hid (run_loadVar_mid _ q 0 28 _ _ (row_range mE.hq) Tryz.underlying28 rfl (by rw [hl]; exact size28m))
  have H91 := Lib.hid h91
  have H92 := Lib.hid h92
  have H93 := Lib.hid (And.intro h93 h94)
  have HL := Lib.hid hl
  have H1 := Lib.hid h1
  have HLT := Lib.hid mE.lt
  clear h91 h92 h93 h94 hl h1 mE C1 C2 C3 P1 P2 P3 T3 N0
  generalize hcs : encMr (v1 : Int) t2 F zero20 nilS nilS = cs at *
  have HCS := Lib.hid hcs
  clear hcs
  go_wp2_with (first
    | ((with_reducible refine wpList_loadV (op := ⟨some 40, _, _, _, _, _⟩) rfl 28 (.tmp 3) rfl ⟨q, 0, none⟩ ?_ _ HLD.out ?_); rfl)
    | ((with_reducible refine wpList_storeM (o := ⟨none, _, _, _, _, _⟩) rfl (.tmp 2) (.tmp 40) rfl w.heap.size cs HL.out H1.out ?_ ?_ H91.out ?_); rfl; rfl))
  refine bodyPost_ret (v := .agg cs.toArray) ?_ rfl ?_
  · exact results_cell1 (p := 2) (ty := 28) rfl _ _ w.heap.size 0 cs _ rfl H92.out Tryz.underlying28 rfl (by rw [HL.out]; exact size28m)
  · exact ⟨nilS, nilS, by rw [← HCS.out], rfl, rfl, frV_nil _, frV_nil _, conV_nil _, insV_nil _, H93.out.1, H93.out.2⟩
theorem next_b {w : World} {g B : Nat} {s : St} {v1 t2 : Nat} {F Y : List UInt8} {s1 s2 s3 s4 : St} (h6 : ¬ v1 = 6) (h4 : ¬ v1 = 4) (h7 : ¬ v1 = 7) (K : NexK w g B w.heap.size (w.heap.size + 1) s v1 t2 F Y true s1 s2 s3 s4 ((w.alloc (.cells (encM zeroM).toArray 28)).alloc (.cells (encM zeroM).toArray 28))) :
    Calls Tryz.prog 41 #[.pointer (some ⟨g, 0, none⟩)] w fun e w' => ∃ vc vr, e = .returned (.agg (encMr (v1 : Int) t2 F Y vc vr).toArray) ∧ vc.oneCell' = true ∧ vr.oneCell' = true ∧ FrV w.heap.size vc ∧ FrV w.heap.size vr ∧ ConV w' vc [] ∧ InsV w' vr [] ∧ RdrB w' g s4 B ∧ w.grownBy w' (some g) := by
  have b6 := beqF (show ¬ (v1 : Int) = 6 by omega)
  have b4 := beqF (show ¬ (v1 : Int) = 4 by omega)
  have b7 := beqF (show ¬ (v1 : Int) = 7 by omega)
  have hF := K.hF
  have hY := K.hY
  have hz : zero20.length = 20 := by simp [zero20]
  have h256 := K.v1l
  have h32 := K.t2l
  have hw1 : (t2 : Int) % 4294967296 = (t2 : Int) := by omega
  have hw2 : t2 % 4294967296 = t2 := Nat.mod_eq_of_lt h32
  have N0 := Lib.hid K.n0
  have C1 := Lib.hid K.c1
  have C2 := Lib.hid K.c2
  have C3 := Lib.hid K.c3
  have C4 := Lib.hid (K.c4 rfl)
  have H23 : Hid (∀ W, Calls Tryz.prog 23 #[.int .i64 (v1 : Int)] W fun e w' => e = .returned (.bool true) ∧ w' = W) := Lib.hid (fun W => by rw [← K.hk]; exact haskey_any _ W)
  have HW : Hid ((w.alloc (.cells (encM zeroM).toArray 28)).heap.size = w.heap.size + 1) := Lib.hid (by simp)
  have P1 : Hid (∀ W, NXM w g B w.heap.size (w.heap.size + 1) s1 (encM zeroM) W → NXM w g B w.heap.size (w.heap.size + 1) s1 (encMr (v1 : Int) 0 zero20 zero20 nilS nilS) (W.setCell ⟨w.heap.size + 1, 0, none⟩ (.int .i64 (v1 : Int)))) := Lib.hid (fun W n => n.set (mput_k n.hq _))
  have P2 : Hid (∀ W, NXM w g B w.heap.size (w.heap.size + 1) s2 (encMr (v1 : Int) 0 zero20 zero20 nilS nilS) W → NXM w g B w.heap.size (w.heap.size + 1) s2 (encMr (v1 : Int) t2 zero20 zero20 nilS nilS) (W.setCell ⟨w.heap.size + 1, 1, none⟩ (.int .u32 (t2 : Int)))) := Lib.hid (fun W n => n.set (mput_t n.hq _))
  have P3 : Hid (∀ W, NXM w g B w.heap.size (w.heap.size + 1) s3 (encMr (v1 : Int) t2 zero20 zero20 nilS nilS) W → NXM w g B w.heap.size (w.heap.size + 1) s3 (encMr (v1 : Int) t2 F zero20 nilS nilS) (W.setCells (w.heap.size + 1) 2 (bcells F))) := Lib.hid (fun W n => n.sets (mput_f hz hz n.hq F hF))
  have T3 : Hid (∀ W, NXM w g B w.heap.size (w.heap.size + 1) s3 (encMr (v1 : Int) t2 zero20 zero20 nilS nilS) W → W.there (w.heap.size + 1) 2 20) := Lib.hid (fun W n => NXM.part hz hz n 2 20 (by omega))
  have P4 : Hid (∀ W, NXM w g B w.heap.size (w.heap.size + 1) s4 (encMr (v1 : Int) t2 F zero20 nilS nilS) W → NXM w g B w.heap.size (w.heap.size + 1) s4 (encMr (v1 : Int) t2 F Y nilS nilS) (W.setCells (w.heap.size + 1) 22 (bcells Y))) := Lib.hid (fun W n => n.sets (mput_y hF hz n.hq Y hY))
  have T4 : Hid (∀ W, NXM w g B w.heap.size (w.heap.size + 1) s4 (encMr (v1 : Int) t2 F zero20 nilS nilS) W → W.there (w.heap.size + 1) 22 20) := Lib.hid (fun W n => NXM.part hF hz n 22 20 (by omega))
  have HFL := Lib.hid hF
  have HYL := Lib.hid hY
  clear K hF hY hz
  generalize hq : w.heap.size + 1 = q at *
  have HQ := Lib.hid hq
  clear hq
  go_enter Tryz.func41, Tryz.ntmps41
  go_upto_region 2 with (first
    | (with_reducible refine wpList_allocM (o := ⟨some 2, _, _, _, _, _⟩) w.heap.size rfl rfl 2 rfl rfl ?_)
    | (with_reducible refine wpList_allocM (o := ⟨some 3, _, _, _, _, _⟩) q (by rw [← HQ.out]; simp) rfl 3 rfl rfl ?_))
  generalize (w.alloc (.cells (encM zeroM).toArray 28)).alloc (.cells (encM zeroM).toArray 28) = W0 at *
  go_upto_region 14 with (first
    | (go_at_call 40; (with_reducible refine (C1.out _ N0.out).mono ?_); rintro e w1 ⟨rfl, n1⟩; obtain ⟨a1, f1⟩ := n1.cell (j := 0) (v := .int .i64 0) rfl)
    | (go_at_call 40; (with_reducible refine (C2.out _ _ (P1.out _ n1)).mono ?_); rintro e w2 ⟨rfl, n2⟩; obtain ⟨a2, f2⟩ := n2.cell (j := 1) (v := .int .u32 0) rfl)
    | (go_at_call 68; (with_reducible refine (C3.out _ _ _ (P2.out _ n2)).mono ?_); rintro e w3 ⟨rfl, n3⟩; have t3 := T3.out _ n3; have m3 := P3.out _ n3; obtain ⟨a3, f3⟩ := m3.cell (j := 0) (v := .int .i64 (v1 : Int)) rfl)
    | ((with_reducible refine wpList_store24 (o := ⟨none, _, _, _, _, _⟩) rfl (.tmp 20) (.tmp 19) rfl q 2 F HFL.out ?_ ?_ t3 ?_); rfl; rfl)
    | (go_at_call 23; (with_reducible refine (H23.out _).mono ?_); rintro e w4 ⟨rfl, rfl⟩)
    | (go_at_call 68; (with_reducible refine (C4.out _ _ _ m3).mono ?_); rintro e w5 ⟨rfl, n4⟩; have t4 := T4.out _ n4; have m4 := P4.out _ n4; obtain ⟨a4, f4⟩ := m4.cell (j := 0) (v := .int .i64 (v1 : Int)) rfl)
    | ((with_reducible refine wpList_store24 (o := ⟨none, _, _, _, _, _⟩) rfl (.tmp 26) (.tmp 25) rfl q 22 Y HYL.out ?_ ?_ t4 ?_); rfl; rfl))
  have mE := m4
  have hl := encMr_length (k := (v1 : Int)) (t := t2) (vc := nilS) (vr := nilS) (y := Y) HFL.out HYL.out
  have h1 : ∀ v ∈ encMr (v1 : Int) t2 F Y nilS nilS, v.oneCell' = true := encMr_one rfl rfl
  obtain ⟨h91, h92, h93, h94⟩ := mE.fin (encMr (v1 : Int) t2 F Y nilS nilS) (by rw [hl, encM_length])
  rw [encM_length] at h91
  have HLD := Lib.hid (run_loadVar_mid _ q 0 28 _ _ (row_range mE.hq) Tryz.underlying28 rfl (by rw [hl]; exact size28m))
  have H91 := Lib.hid h91
  have H92 := Lib.hid h92
  have H93 := Lib.hid (And.intro h93 h94)
  have HL := Lib.hid hl
  have H1 := Lib.hid h1
  have HLT := Lib.hid mE.lt
  clear h91 h92 h93 h94 hl h1 mE C1 C2 C3 P1 P2 P3 T3 N0
  generalize hcs : encMr (v1 : Int) t2 F Y nilS nilS = cs at *
  have HCS := Lib.hid hcs
  clear hcs
  go_wp2_with (first
    | ((with_reducible refine wpList_loadV (op := ⟨some 40, _, _, _, _, _⟩) rfl 28 (.tmp 3) rfl ⟨q, 0, none⟩ ?_ _ HLD.out ?_); rfl)
    | ((with_reducible refine wpList_storeM (o := ⟨none, _, _, _, _, _⟩) rfl (.tmp 2) (.tmp 40) rfl w.heap.size cs HL.out H1.out ?_ ?_ H91.out ?_); rfl; rfl))
  refine bodyPost_ret (v := .agg cs.toArray) ?_ rfl ?_
  · exact results_cell1 (p := 2) (ty := 28) rfl _ _ w.heap.size 0 cs _ rfl H92.out Tryz.underlying28 rfl (by rw [HL.out]; exact size28m)
  · exact ⟨nilS, nilS, by rw [← HCS.out], rfl, rfl, frV_nil _, frV_nil _, conV_nil _, insV_nil _, H93.out.1, H93.out.2⟩
theorem next_c {w : World} {g B : Nat} {s : St} {v1 t2 : Nat} {F Y : List UInt8} {s1 s2 s3 s4 : St} (h6 : v1 = 6) (K : NexK w g B w.heap.size (w.heap.size + 1) s v1 t2 F Y true s1 s2 s3 s4 ((w.alloc (.cells (encM zeroM).toArray 28)).alloc (.cells (encM zeroM).toArray 28))) :
    Calls Tryz.prog 41 #[.pointer (some ⟨g, 0, none⟩)] w fun e w' => ∃ vc vr, e = .returned (.agg (encMr (v1 : Int) t2 F Y vc vr).toArray) ∧ vc.oneCell' = true ∧ vr.oneCell' = true ∧ FrV w.heap.size vc ∧ FrV w.heap.size vr ∧ ConV w' vc (rlL s4) ∧ InsV w' vr [] ∧ RdrB w' g (rlS s4) B ∧ w.grownBy w' (some g) := by
  have hF := K.hF
  have hY := K.hY
  have hz : zero20.length = 20 := by simp [zero20]
  have h256 := K.v1l
  have h32 := K.t2l
  have hw1 : (t2 : Int) % 4294967296 = (t2 : Int) := by omega
  have hw2 : t2 % 4294967296 = t2 := Nat.mod_eq_of_lt h32
  have N0 := Lib.hid K.n0
  have C1 := Lib.hid K.c1
  have C2 := Lib.hid K.c2
  have C3 := Lib.hid K.c3
  have C4 := Lib.hid (K.c4 rfl)
  have H23 : Hid (∀ W, Calls Tryz.prog 23 #[.int .i64 (v1 : Int)] W fun e w' => e = .returned (.bool true) ∧ w' = W) := Lib.hid (fun W => by rw [← K.hk]; exact haskey_any _ W)
  have HW : Hid ((w.alloc (.cells (encM zeroM).toArray 28)).heap.size = w.heap.size + 1) := Lib.hid (by simp)
  have P1 : Hid (∀ W, NXM w g B w.heap.size (w.heap.size + 1) s1 (encM zeroM) W → NXM w g B w.heap.size (w.heap.size + 1) s1 (encMr (v1 : Int) 0 zero20 zero20 nilS nilS) (W.setCell ⟨w.heap.size + 1, 0, none⟩ (.int .i64 (v1 : Int)))) := Lib.hid (fun W n => n.set (mput_k n.hq _))
  have P2 : Hid (∀ W, NXM w g B w.heap.size (w.heap.size + 1) s2 (encMr (v1 : Int) 0 zero20 zero20 nilS nilS) W → NXM w g B w.heap.size (w.heap.size + 1) s2 (encMr (v1 : Int) t2 zero20 zero20 nilS nilS) (W.setCell ⟨w.heap.size + 1, 1, none⟩ (.int .u32 (t2 : Int)))) := Lib.hid (fun W n => n.set (mput_t n.hq _))
  have P3 : Hid (∀ W, NXM w g B w.heap.size (w.heap.size + 1) s3 (encMr (v1 : Int) t2 zero20 zero20 nilS nilS) W → NXM w g B w.heap.size (w.heap.size + 1) s3 (encMr (v1 : Int) t2 F zero20 nilS nilS) (W.setCells (w.heap.size + 1) 2 (bcells F))) := Lib.hid (fun W n => n.sets (mput_f hz hz n.hq F hF))
  have T3 : Hid (∀ W, NXM w g B w.heap.size (w.heap.size + 1) s3 (encMr (v1 : Int) t2 zero20 zero20 nilS nilS) W → W.there (w.heap.size + 1) 2 20) := Lib.hid (fun W n => NXM.part hz hz n 2 20 (by omega))
  have P4 : Hid (∀ W, NXM w g B w.heap.size (w.heap.size + 1) s4 (encMr (v1 : Int) t2 F zero20 nilS nilS) W → NXM w g B w.heap.size (w.heap.size + 1) s4 (encMr (v1 : Int) t2 F Y nilS nilS) (W.setCells (w.heap.size + 1) 22 (bcells Y))) := Lib.hid (fun W n => n.sets (mput_y hF hz n.hq Y hY))
  have T4 : Hid (∀ W, NXM w g B w.heap.size (w.heap.size + 1) s4 (encMr (v1 : Int) t2 F zero20 nilS nilS) W → W.there (w.heap.size + 1) 22 20) := Lib.hid (fun W n => NXM.part hF hz n 22 20 (by omega))
  have C5 : Hid (∀ W, NXM w g B w.heap.size (w.heap.size + 1) s4 (encMr (v1 : Int) t2 F Y nilS nilS) W → Calls Tryz.prog 69 #[.pointer (some ⟨g, 0, none⟩)] W fun e W' => ∃ A c, e = .returned (.slice A (rlL s4).length c) ∧ NXM w g B w.heap.size (w.heap.size + 1) (rlS s4) (encMr (v1 : Int) t2 F Y nilS nilS) W' ∧ CAt W' W'.heap.size A (rlL s4) ∧ (A = none ∨ ∃ g off, A = some ⟨g, off, none⟩ ∧ w.heap.size + 2 ≤ g)) := Lib.hid (fun W n => by
    refine (readlist_anyB n.rd (by have := n.hB; have := n.gr.size; omega)).mono ?_
    rintro e W' ⟨A, c, rfl, hA, hf, hr, hg⟩
    refine ⟨A, c, rfl, n.read hr hg, hA, ?_⟩
    rcases hf with h | ⟨b, o, h, hge⟩
    · exact .inl h
    · exact .inr ⟨b, o, h, by have := n.lt.2; omega⟩)
  have P5 : Hid (∀ W v, NXM w g B w.heap.size (w.heap.size + 1) (rlS s4) (encMr (v1 : Int) t2 F Y nilS nilS) W → NXM w g B w.heap.size (w.heap.size + 1) (rlS s4) (encMr (v1 : Int) t2 F Y v nilS) (W.setCell ⟨w.heap.size + 1, 42, none⟩ v)) := Lib.hid (fun W v n => n.set (mput_c hF hY n.hq v))
  have HG5 := Lib.hid (mget_c (k := (v1 : Int)) (t := t2) (vc := nilS) (vr := nilS) hF hY).1
  obtain ⟨ll, hll⟩ : ∃ ll, ll = (rlL s4).length := ⟨_, rfl⟩
  have HLL := Lib.hid hll
  rw [← hll] at C5
  clear hll
  have HFL := Lib.hid hF
  have HYL := Lib.hid hY
  clear K hF hY hz
  subst h6
  simp only [show ((6 : Nat) : Int) = 6 from rfl] at *
  generalize hq : w.heap.size + 1 = q at *
  have HQ := Lib.hid hq
  clear hq
  go_enter Tryz.func41, Tryz.ntmps41
  go_upto_region 2 with (first
    | (with_reducible refine wpList_allocM (o := ⟨some 2, _, _, _, _, _⟩) w.heap.size rfl rfl 2 rfl rfl ?_)
    | (with_reducible refine wpList_allocM (o := ⟨some 3, _, _, _, _, _⟩) q (by rw [← HQ.out]; simp) rfl 3 rfl rfl ?_))
  generalize (w.alloc (.cells (encM zeroM).toArray 28)).alloc (.cells (encM zeroM).toArray 28) = W0 at *
  go_upto_region 14 with (first
    | (go_at_call 40; (with_reducible refine (C1.out _ N0.out).mono ?_); rintro e w1 ⟨rfl, n1⟩; obtain ⟨a1, f1⟩ := n1.cell (j := 0) (v := .int .i64 0) rfl)
    | (go_at_call 40; (with_reducible refine (C2.out _ _ (P1.out _ n1)).mono ?_); rintro e w2 ⟨rfl, n2⟩; obtain ⟨a2, f2⟩ := n2.cell (j := 1) (v := .int .u32 0) rfl)
    | (go_at_call 68; (with_reducible refine (C3.out _ _ _ (P2.out _ n2)).mono ?_); rintro e w3 ⟨rfl, n3⟩; have t3 := T3.out _ n3; have m3 := P3.out _ n3; obtain ⟨a3, f3⟩ := m3.cell (j := 0) (v := .int .i64 6) rfl)
    | ((with_reducible refine wpList_store24 (o := ⟨none, _, _, _, _, _⟩) rfl (.tmp 20) (.tmp 19) rfl q 2 F HFL.out ?_ ?_ t3 ?_); rfl; rfl)
    | (go_at_call 23; (with_reducible refine (H23.out _).mono ?_); rintro e w4 ⟨rfl, rfl⟩)
    | (go_at_call 68; (with_reducible refine (C4.out _ _ _ m3).mono ?_); rintro e w5 ⟨rfl, n4⟩; have t4 := T4.out _ n4; have m4 := P4.out _ n4; obtain ⟨a4, f4⟩ := m4.cell (j := 0) (v := .int .i64 6) rfl)
    | ((with_reducible refine wpList_store24 (o := ⟨none, _, _, _, _, _⟩) rfl (.tmp 26) (.tmp 25) rfl q 22 Y HYL.out ?_ ?_ t4 ?_); rfl; rfl)
    | (go_at_call 69; (with_reducible refine (C5.out _ m4).mono ?_); rintro e w6 ⟨A6, c6, rfl, n5, hA6, hf6⟩; obtain ⟨a5, f5⟩ := n5.cell (j := 42) HG5.out; have H6 := Lib.hid (And.intro hA6 hf6); clear hA6 hf6))
  have mE := P5.out _ (.slice A6 ll c6) n5
  have hl := encMr_length (k := 6) (t := t2) (vc := (.slice A6 ll c6)) (vr := nilS) (y := Y) HFL.out HYL.out
  have h1 : ∀ v ∈ encMr 6 t2 F Y (.slice A6 ll c6) nilS, v.oneCell' = true := encMr_one rfl rfl
  obtain ⟨h91, h92, h93, h94⟩ := mE.fin (encMr 6 t2 F Y (.slice A6 ll c6) nilS) (by rw [hl, encM_length])
  rw [encM_length] at h91
  have HLD := Lib.hid (run_loadVar_mid _ q 0 28 _ _ (row_range mE.hq) Tryz.underlying28 rfl (by rw [hl]; exact size28m))
  have H91 := Lib.hid h91
  have H92 := Lib.hid h92
  have H93 := Lib.hid (And.intro h93 h94)
  have HL := Lib.hid hl
  have H1 := Lib.hid h1
  have HLT := Lib.hid mE.lt
  have HN5 := Lib.hid n5.lt
  clear h91 h92 h93 h94 hl h1 mE C1 C2 C3 P1 P2 P3 T3 N0
  generalize hcs : encMr 6 t2 F Y (.slice A6 ll c6) nilS = cs at *
  have HCS := Lib.hid hcs
  clear hcs
  go_wp2_with (first
    | ((with_reducible refine wpList_loadV (op := ⟨some 40, _, _, _, _, _⟩) rfl 28 (.tmp 3) rfl ⟨q, 0, none⟩ ?_ _ HLD.out ?_); rfl)
    | ((with_reducible refine wpList_storeM (o := ⟨none, _, _, _, _, _⟩) rfl (.tmp 2) (.tmp 40) rfl w.heap.size cs HL.out H1.out ?_ ?_ H91.out ?_); rfl; rfl))
  refine bodyPost_ret (v := .agg cs.toArray) ?_ rfl ?_
  · exact results_cell1 (p := 2) (ty := 28) rfl _ _ w.heap.size 0 cs _ rfl H92.out Tryz.underlying28 rfl (by rw [HL.out]; exact size28m)
  · exact ⟨.slice A6 ll c6, nilS, by rw [← HCS.out], rfl, rfl, frV_of H6.out.2 (by omega), frV_nil _, ⟨A6, c6, by rw [HLL.out], cat_two H6.out.1 H6.out.2 (by have := HQ.out; omega) (by omega), H6.out.2.elim .inl (fun ⟨b, o, h, _⟩ => .inr ⟨b, o, h⟩)⟩, insV_nil _, H93.out.1, H93.out.2⟩
theorem next_d4 {w : World} {g B : Nat} {s : St} {v1 t2 : Nat} {F Y : List UInt8} {s1 s2 s3 s4 : St} (h47 : v1 = 4) (K : NexK w g B w.heap.size (w.heap.size + 1) s v1 t2 F Y true s1 s2 s3 s4 ((w.alloc (.cells (encM zeroM).toArray 28)).alloc (.cells (encM zeroM).toArray 28))) :
    Calls Tryz.prog 41 #[.pointer (some ⟨g, 0, none⟩)] w fun e w' => ∃ vc vr, e = .returned (.agg (encMr (v1 : Int) t2 F Y vc vr).toArray) ∧ vc.oneCell' = true ∧ vr.oneCell' = true ∧ FrV w.heap.size vc ∧ FrV w.heap.size vr ∧ ConV w' vc [] ∧ InsV w' vr (rosL s4) ∧ RdrB w' g (rosS s4) B ∧ w.grownBy w' (some g) := by
  have hF := K.hF
  have hY := K.hY
  have hz : zero20.length = 20 := by simp [zero20]
  have h256 := K.v1l
  have h32 := K.t2l
  have hw1 : (t2 : Int) % 4294967296 = (t2 : Int) := by omega
  have hw2 : t2 % 4294967296 = t2 := Nat.mod_eq_of_lt h32
  have N0 := Lib.hid K.n0
  have C1 := Lib.hid K.c1
  have C2 := Lib.hid K.c2
  have C3 := Lib.hid K.c3
  have C4 := Lib.hid (K.c4 rfl)
  have H23 : Hid (∀ W, Calls Tryz.prog 23 #[.int .i64 (v1 : Int)] W fun e w' => e = .returned (.bool true) ∧ w' = W) := Lib.hid (fun W => by rw [← K.hk]; exact haskey_any _ W)
  have HW : Hid ((w.alloc (.cells (encM zeroM).toArray 28)).heap.size = w.heap.size + 1) := Lib.hid (by simp)
  have P1 : Hid (∀ W, NXM w g B w.heap.size (w.heap.size + 1) s1 (encM zeroM) W → NXM w g B w.heap.size (w.heap.size + 1) s1 (encMr (v1 : Int) 0 zero20 zero20 nilS nilS) (W.setCell ⟨w.heap.size + 1, 0, none⟩ (.int .i64 (v1 : Int)))) := Lib.hid (fun W n => n.set (mput_k n.hq _))
  have P2 : Hid (∀ W, NXM w g B w.heap.size (w.heap.size + 1) s2 (encMr (v1 : Int) 0 zero20 zero20 nilS nilS) W → NXM w g B w.heap.size (w.heap.size + 1) s2 (encMr (v1 : Int) t2 zero20 zero20 nilS nilS) (W.setCell ⟨w.heap.size + 1, 1, none⟩ (.int .u32 (t2 : Int)))) := Lib.hid (fun W n => n.set (mput_t n.hq _))
  have P3 : Hid (∀ W, NXM w g B w.heap.size (w.heap.size + 1) s3 (encMr (v1 : Int) t2 zero20 zero20 nilS nilS) W → NXM w g B w.heap.size (w.heap.size + 1) s3 (encMr (v1 : Int) t2 F zero20 nilS nilS) (W.setCells (w.heap.size + 1) 2 (bcells F))) := Lib.hid (fun W n => n.sets (mput_f hz hz n.hq F hF))
  have T3 : Hid (∀ W, NXM w g B w.heap.size (w.heap.size + 1) s3 (encMr (v1 : Int) t2 zero20 zero20 nilS nilS) W → W.there (w.heap.size + 1) 2 20) := Lib.hid (fun W n => NXM.part hz hz n 2 20 (by omega))
  have P4 : Hid (∀ W, NXM w g B w.heap.size (w.heap.size + 1) s4 (encMr (v1 : Int) t2 F zero20 nilS nilS) W → NXM w g B w.heap.size (w.heap.size + 1) s4 (encMr (v1 : Int) t2 F Y nilS nilS) (W.setCells (w.heap.size + 1) 22 (bcells Y))) := Lib.hid (fun W n => n.sets (mput_y hF hz n.hq Y hY))
  have T4 : Hid (∀ W, NXM w g B w.heap.size (w.heap.size + 1) s4 (encMr (v1 : Int) t2 F zero20 nilS nilS) W → W.there (w.heap.size + 1) 22 20) := Lib.hid (fun W n => NXM.part hF hz n 22 20 (by omega))
  have C5 : Hid (∀ W, NXM w g B w.heap.size (w.heap.size + 1) s4 (encMr (v1 : Int) t2 F Y nilS nilS) W → Calls Tryz.prog 70 #[.pointer (some ⟨g, 0, none⟩)] W fun e W' => ∃ A c, e = .returned (.slice A (rosL s4).length c) ∧ NXM w g B w.heap.size (w.heap.size + 1) (rosS s4) (encMr (v1 : Int) t2 F Y nilS nilS) W' ∧ IAt W' W'.heap.size A (rosL s4) ∧ (A = none ∨ ∃ g off, A = some ⟨g, off, none⟩ ∧ w.heap.size + 2 ≤ g)) := Lib.hid (fun W n => by
    refine (rosread_any n.rd (by have := n.hB; have := n.gr.size; omega)).mono ?_
    rintro e W' ⟨A, c, rfl, hA, hf, hr, hg⟩
    refine ⟨A, c, rfl, n.read hr hg, hA, ?_⟩
    rcases hf with h | ⟨b, o, h, hge⟩
    · exact .inl h
    · exact .inr ⟨b, o, h, by have := n.lt.2; omega⟩)
  have P5 : Hid (∀ W v, NXM w g B w.heap.size (w.heap.size + 1) (rosS s4) (encMr (v1 : Int) t2 F Y nilS nilS) W → NXM w g B w.heap.size (w.heap.size + 1) (rosS s4) (encMr (v1 : Int) t2 F Y nilS v) (W.setCell ⟨w.heap.size + 1, 43, none⟩ v)) := Lib.hid (fun W v n => n.set (mput_r hF hY n.hq v))
  have HG5 := Lib.hid (mget_c (k := (v1 : Int)) (t := t2) (vc := nilS) (vr := nilS) hF hY).2
  obtain ⟨ll, hll⟩ : ∃ ll, ll = (rosL s4).length := ⟨_, rfl⟩
  have HLL := Lib.hid hll
  rw [← hll] at C5
  clear hll
  have HFL := Lib.hid hF
  have HYL := Lib.hid hY
  clear K hF hY hz
  subst h47
  simp only [show ((4 : Nat) : Int) = 4 from rfl] at *
  generalize hq : w.heap.size + 1 = q at *
  have HQ := Lib.hid hq
  clear hq
  go_enter Tryz.func41, Tryz.ntmps41
  go_upto_region 2 with (first
    | (with_reducible refine wpList_allocM (o := ⟨some 2, _, _, _, _, _⟩) w.heap.size rfl rfl 2 rfl rfl ?_)
    | (with_reducible refine wpList_allocM (o := ⟨some 3, _, _, _, _, _⟩) q (by rw [← HQ.out]; simp) rfl 3 rfl rfl ?_))
  generalize (w.alloc (.cells (encM zeroM).toArray 28)).alloc (.cells (encM zeroM).toArray 28) = W0 at *
  go_upto_region 14 with (first
    | (go_at_call 40; (with_reducible refine (C1.out _ N0.out).mono ?_); rintro e w1 ⟨rfl, n1⟩; obtain ⟨a1, f1⟩ := n1.cell (j := 0) (v := .int .i64 0) rfl)
    | (go_at_call 40; (with_reducible refine (C2.out _ _ (P1.out _ n1)).mono ?_); rintro e w2 ⟨rfl, n2⟩; obtain ⟨a2, f2⟩ := n2.cell (j := 1) (v := .int .u32 0) rfl)
    | (go_at_call 68; (with_reducible refine (C3.out _ _ _ (P2.out _ n2)).mono ?_); rintro e w3 ⟨rfl, n3⟩; have t3 := T3.out _ n3; have m3 := P3.out _ n3; obtain ⟨a3, f3⟩ := m3.cell (j := 0) (v := .int .i64 4) rfl)
    | ((with_reducible refine wpList_store24 (o := ⟨none, _, _, _, _, _⟩) rfl (.tmp 20) (.tmp 19) rfl q 2 F HFL.out ?_ ?_ t3 ?_); rfl; rfl)
    | (go_at_call 23; (with_reducible refine (H23.out _).mono ?_); rintro e w4 ⟨rfl, rfl⟩)
    | (go_at_call 68; (with_reducible refine (C4.out _ _ _ m3).mono ?_); rintro e w5 ⟨rfl, n4⟩; have t4 := T4.out _ n4; have m4 := P4.out _ n4; obtain ⟨a4, f4⟩ := m4.cell (j := 0) (v := .int .i64 4) rfl)
    | ((with_reducible refine wpList_store24 (o := ⟨none, _, _, _, _, _⟩) rfl (.tmp 26) (.tmp 25) rfl q 22 Y HYL.out ?_ ?_ t4 ?_); rfl; rfl)
    | (go_at_call 70; (with_reducible refine (C5.out _ m4).mono ?_); rintro e w6 ⟨A6, c6, rfl, n5, hA6, hf6⟩; obtain ⟨a5, f5⟩ := n5.cell (j := 43) HG5.out; have H6 := Lib.hid (And.intro hA6 hf6); clear hA6 hf6))
  have mE := P5.out _ (.slice A6 ll c6) n5
  have hl := encMr_length (k := 4) (t := t2) (vc := nilS) (vr := (.slice A6 ll c6)) (y := Y) HFL.out HYL.out
  have h1 : ∀ v ∈ encMr 4 t2 F Y nilS (.slice A6 ll c6), v.oneCell' = true := encMr_one rfl rfl
  obtain ⟨h91, h92, h93, h94⟩ := mE.fin (encMr 4 t2 F Y nilS (.slice A6 ll c6)) (by rw [hl, encM_length])
  rw [encM_length] at h91
  have HLD := Lib.hid (run_loadVar_mid _ q 0 28 _ _ (row_range mE.hq) Tryz.underlying28 rfl (by rw [hl]; exact size28m))
  have H91 := Lib.hid h91
  have H92 := Lib.hid h92
  have H93 := Lib.hid (And.intro h93 h94)
  have HL := Lib.hid hl
  have H1 := Lib.hid h1
  have HLT := Lib.hid mE.lt
  have HN5 := Lib.hid n5.lt
  clear h91 h92 h93 h94 hl h1 mE C1 C2 C3 P1 P2 P3 T3 N0
  generalize hcs : encMr 4 t2 F Y nilS (.slice A6 ll c6) = cs at *
  have HCS := Lib.hid hcs
  clear hcs
  go_wp2_with (first
    | ((with_reducible refine wpList_loadV (op := ⟨some 40, _, _, _, _, _⟩) rfl 28 (.tmp 3) rfl ⟨q, 0, none⟩ ?_ _ HLD.out ?_); rfl)
    | ((with_reducible refine wpList_storeM (o := ⟨none, _, _, _, _, _⟩) rfl (.tmp 2) (.tmp 40) rfl w.heap.size cs HL.out H1.out ?_ ?_ H91.out ?_); rfl; rfl))
  refine bodyPost_ret (v := .agg cs.toArray) ?_ rfl ?_
  · exact results_cell1 (p := 2) (ty := 28) rfl _ _ w.heap.size 0 cs _ rfl H92.out Tryz.underlying28 rfl (by rw [HL.out]; exact size28m)
  · exact ⟨nilS, .slice A6 ll c6, by rw [← HCS.out], rfl, rfl, frV_nil _, frV_of H6.out.2 (by omega), conV_nil _, ⟨A6, c6, by rw [HLL.out], iat_two H6.out.1 H6.out.2 (by have := HQ.out; omega) (by omega)⟩, H93.out.1, H93.out.2⟩
theorem next_d7 {w : World} {g B : Nat} {s : St} {v1 t2 : Nat} {F Y : List UInt8} {s1 s2 s3 s4 : St} (h47 : v1 = 7) (K : NexK w g B w.heap.size (w.heap.size + 1) s v1 t2 F Y true s1 s2 s3 s4 ((w.alloc (.cells (encM zeroM).toArray 28)).alloc (.cells (encM zeroM).toArray 28))) :
    Calls Tryz.prog 41 #[.pointer (some ⟨g, 0, none⟩)] w fun e w' => ∃ vc vr, e = .returned (.agg (encMr (v1 : Int) t2 F Y vc vr).toArray) ∧ vc.oneCell' = true ∧ vr.oneCell' = true ∧ FrV w.heap.size vc ∧ FrV w.heap.size vr ∧ ConV w' vc [] ∧ InsV w' vr (rosL s4) ∧ RdrB w' g (rosS s4) B ∧ w.grownBy w' (some g) := by
  have hF := K.hF
  have hY := K.hY
  have hz : zero20.length = 20 := by simp [zero20]
  have h256 := K.v1l
  have h32 := K.t2l
  have hw1 : (t2 : Int) % 4294967296 = (t2 : Int) := by omega
  have hw2 : t2 % 4294967296 = t2 := Nat.mod_eq_of_lt h32
  have N0 := Lib.hid K.n0
  have C1 := Lib.hid K.c1
  have C2 := Lib.hid K.c2
  have C3 := Lib.hid K.c3
  have C4 := Lib.hid (K.c4 rfl)
  have H23 : Hid (∀ W, Calls Tryz.prog 23 #[.int .i64 (v1 : Int)] W fun e w' => e = .returned (.bool true) ∧ w' = W) := Lib.hid (fun W => by rw [← K.hk]; exact haskey_any _ W)
  have HW : Hid ((w.alloc (.cells (encM zeroM).toArray 28)).heap.size = w.heap.size + 1) := Lib.hid (by simp)
  have P1 : Hid (∀ W, NXM w g B w.heap.size (w.heap.size + 1) s1 (encM zeroM) W → NXM w g B w.heap.size (w.heap.size + 1) s1 (encMr (v1 : Int) 0 zero20 zero20 nilS nilS) (W.setCell ⟨w.heap.size + 1, 0, none⟩ (.int .i64 (v1 : Int)))) := Lib.hid (fun W n => n.set (mput_k n.hq _))
  have P2 : Hid (∀ W, NXM w g B w.heap.size (w.heap.size + 1) s2 (encMr (v1 : Int) 0 zero20 zero20 nilS nilS) W → NXM w g B w.heap.size (w.heap.size + 1) s2 (encMr (v1 : Int) t2 zero20 zero20 nilS nilS) (W.setCell ⟨w.heap.size + 1, 1, none⟩ (.int .u32 (t2 : Int)))) := Lib.hid (fun W n => n.set (mput_t n.hq _))
  have P3 : Hid (∀ W, NXM w g B w.heap.size (w.heap.size + 1) s3 (encMr (v1 : Int) t2 zero20 zero20 nilS nilS) W → NXM w g B w.heap.size (w.heap.size + 1) s3 (encMr (v1 : Int) t2 F zero20 nilS nilS) (W.setCells (w.heap.size + 1) 2 (bcells F))) := Lib.hid (fun W n => n.sets (mput_f hz hz n.hq F hF))
  have T3 : Hid (∀ W, NXM w g B w.heap.size (w.heap.size + 1) s3 (encMr (v1 : Int) t2 zero20 zero20 nilS nilS) W → W.there (w.heap.size + 1) 2 20) := Lib.hid (fun W n => NXM.part hz hz n 2 20 (by omega))
  have P4 : Hid (∀ W, NXM w g B w.heap.size (w.heap.size + 1) s4 (encMr (v1 : Int) t2 F zero20 nilS nilS) W → NXM w g B w.heap.size (w.heap.size + 1) s4 (encMr (v1 : Int) t2 F Y nilS nilS) (W.setCells (w.heap.size + 1) 22 (bcells Y))) := Lib.hid (fun W n => n.sets (mput_y hF hz n.hq Y hY))
  have T4 : Hid (∀ W, NXM w g B w.heap.size (w.heap.size + 1) s4 (encMr (v1 : Int) t2 F zero20 nilS nilS) W → W.there (w.heap.size + 1) 22 20) := Lib.hid (fun W n => NXM.part hF hz n 22 20 (by omega))
  have C5 : Hid (∀ W, NXM w g B w.heap.size (w.heap.size + 1) s4 (encMr (v1 : Int) t2 F Y nilS nilS) W → Calls Tryz.prog 70 #[.pointer (some ⟨g, 0, none⟩)] W fun e W' => ∃ A c, e = .returned (.slice A (rosL s4).length c) ∧ NXM w g B w.heap.size (w.heap.size + 1) (rosS s4) (encMr (v1 : Int) t2 F Y nilS nilS) W' ∧ IAt W' W'.heap.size A (rosL s4) ∧ (A = none ∨ ∃ g off, A = some ⟨g, off, none⟩ ∧ w.heap.size + 2 ≤ g)) := Lib.hid (fun W n => by
    refine (rosread_any n.rd (by have := n.hB; have := n.gr.size; omega)).mono ?_
    rintro e W' ⟨A, c, rfl, hA, hf, hr, hg⟩
    refine ⟨A, c, rfl, n.read hr hg, hA, ?_⟩
    rcases hf with h | ⟨b, o, h, hge⟩
    · exact .inl h
    · exact .inr ⟨b, o, h, by have := n.lt.2; omega⟩)
  have P5 : Hid (∀ W v, NXM w g B w.heap.size (w.heap.size + 1) (rosS s4) (encMr (v1 : Int) t2 F Y nilS nilS) W → NXM w g B w.heap.size (w.heap.size + 1) (rosS s4) (encMr (v1 : Int) t2 F Y nilS v) (W.setCell ⟨w.heap.size + 1, 43, none⟩ v)) := Lib.hid (fun W v n => n.set (mput_r hF hY n.hq v))
  have HG5 := Lib.hid (mget_c (k := (v1 : Int)) (t := t2) (vc := nilS) (vr := nilS) hF hY).2
  obtain ⟨ll, hll⟩ : ∃ ll, ll = (rosL s4).length := ⟨_, rfl⟩
  have HLL := Lib.hid hll
  rw [← hll] at C5
  clear hll
  have HFL := Lib.hid hF
  have HYL := Lib.hid hY
  clear K hF hY hz
  subst h47
  simp only [show ((7 : Nat) : Int) = 7 from rfl] at *
  generalize hq : w.heap.size + 1 = q at *
  have HQ := Lib.hid hq
  clear hq
  go_enter Tryz.func41, Tryz.ntmps41
  go_upto_region 2 with (first
    | (with_reducible refine wpList_allocM (o := ⟨some 2, _, _, _, _, _⟩) w.heap.size rfl rfl 2 rfl rfl ?_)
    | (with_reducible refine wpList_allocM (o := ⟨some 3, _, _, _, _, _⟩) q (by rw [← HQ.out]; simp) rfl 3 rfl rfl ?_))
  generalize (w.alloc (.cells (encM zeroM).toArray 28)).alloc (.cells (encM zeroM).toArray 28) = W0 at *
  go_upto_region 14 with (first
    | (go_at_call 40; (with_reducible refine (C1.out _ N0.out).mono ?_); rintro e w1 ⟨rfl, n1⟩; obtain ⟨a1, f1⟩ := n1.cell (j := 0) (v := .int .i64 0) rfl)
    | (go_at_call 40; (with_reducible refine (C2.out _ _ (P1.out _ n1)).mono ?_); rintro e w2 ⟨rfl, n2⟩; obtain ⟨a2, f2⟩ := n2.cell (j := 1) (v := .int .u32 0) rfl)
    | (go_at_call 68; (with_reducible refine (C3.out _ _ _ (P2.out _ n2)).mono ?_); rintro e w3 ⟨rfl, n3⟩; have t3 := T3.out _ n3; have m3 := P3.out _ n3; obtain ⟨a3, f3⟩ := m3.cell (j := 0) (v := .int .i64 7) rfl)
    | ((with_reducible refine wpList_store24 (o := ⟨none, _, _, _, _, _⟩) rfl (.tmp 20) (.tmp 19) rfl q 2 F HFL.out ?_ ?_ t3 ?_); rfl; rfl)
    | (go_at_call 23; (with_reducible refine (H23.out _).mono ?_); rintro e w4 ⟨rfl, rfl⟩)
    | (go_at_call 68; (with_reducible refine (C4.out _ _ _ m3).mono ?_); rintro e w5 ⟨rfl, n4⟩; have t4 := T4.out _ n4; have m4 := P4.out _ n4; obtain ⟨a4, f4⟩ := m4.cell (j := 0) (v := .int .i64 7) rfl)
    | ((with_reducible refine wpList_store24 (o := ⟨none, _, _, _, _, _⟩) rfl (.tmp 26) (.tmp 25) rfl q 22 Y HYL.out ?_ ?_ t4 ?_); rfl; rfl)
    | (go_at_call 70; (with_reducible refine (C5.out _ m4).mono ?_); rintro e w6 ⟨A6, c6, rfl, n5, hA6, hf6⟩; obtain ⟨a5, f5⟩ := n5.cell (j := 43) HG5.out; have H6 := Lib.hid (And.intro hA6 hf6); clear hA6 hf6))
  have mE := P5.out _ (.slice A6 ll c6) n5
  have hl := encMr_length (k := 7) (t := t2) (vc := nilS) (vr := (.slice A6 ll c6)) (y := Y) HFL.out HYL.out
  have h1 : ∀ v ∈ encMr 7 t2 F Y nilS (.slice A6 ll c6), v.oneCell' = true := encMr_one rfl rfl
  obtain ⟨h91, h92, h93, h94⟩ := mE.fin (encMr 7 t2 F Y nilS (.slice A6 ll c6)) (by rw [hl, encM_length])
  rw [encM_length] at h91
  have HLD := Lib.hid (run_loadVar_mid _ q 0 28 _ _ (row_range mE.hq) Tryz.underlying28 rfl (by rw [hl]; exact size28m))
  have H91 := Lib.hid h91
  have H92 := Lib.hid h92
  have H93 := Lib.hid (And.intro h93 h94)
  have HL := Lib.hid hl
  have H1 := Lib.hid h1
  have HLT := Lib.hid mE.lt
  have HN5 := Lib.hid n5.lt
  clear h91 h92 h93 h94 hl h1 mE C1 C2 C3 P1 P2 P3 T3 N0
  generalize hcs : encMr 7 t2 F Y nilS (.slice A6 ll c6) = cs at *
  have HCS := Lib.hid hcs
  clear hcs
  go_wp2_with (first
    | ((with_reducible refine wpList_loadV (op := ⟨some 40, _, _, _, _, _⟩) rfl 28 (.tmp 3) rfl ⟨q, 0, none⟩ ?_ _ HLD.out ?_); rfl)
    | ((with_reducible refine wpList_storeM (o := ⟨none, _, _, _, _, _⟩) rfl (.tmp 2) (.tmp 40) rfl w.heap.size cs HL.out H1.out ?_ ?_ H91.out ?_); rfl; rfl))
  refine bodyPost_ret (v := .agg cs.toArray) ?_ rfl ?_
  · exact results_cell1 (p := 2) (ty := 28) rfl _ _ w.heap.size 0 cs _ rfl H92.out Tryz.underlying28 rfl (by rw [HL.out]; exact size28m)
  · exact ⟨nilS, .slice A6 ll c6, by rw [← HCS.out], rfl, rfl, frV_nil _, frV_of H6.out.2 (by omega), conV_nil _, ⟨A6, c6, by rw [HLL.out], iat_two H6.out.1 H6.out.2 (by have := HQ.out; omega) (by omega)⟩, H93.out.1, H93.out.2⟩
theorem mnext_any {w : World} {g B : Nat} {s : St} (h : RdrB w g s B) (hB : B ≤ w.heap.size) : Calls Tryz.prog 41 #[.pointer (some ⟨g, 0, none⟩)] w (NexIs w g B s) := by
  have K := nexK h hB
  unfold NexIs
  by_cases h6 : nxV s = 6
  · have hk : keyM (nxV s : Int) = true := by rw [h6]; decide
    have e1 : ∀ S, nxL (nxV s) S = rlL S := fun S => by unfold nxL; rw [if_pos h6]
    have e2 : ∀ S, nxR (nxV s) S = [] := fun S => by unfold nxR; rw [if_neg (by omega)]
    have e3 : ∀ S, nxE (nxV s) S = rlS S := fun S => by unfold nxE; rw [if_pos h6]
    rw [hk] at K ⊢
    rw [e1, e2, e3]
    exact next_c h6 K
  · by_cases h47 : nxV s = 4 ∨ nxV s = 7
    · have hk : keyM (nxV s : Int) = true := by rcases h47 with h | h <;> rw [h] <;> decide
      have e1 : ∀ S, nxL (nxV s) S = [] := fun S => by unfold nxL; rw [if_neg h6]
      have e2 : ∀ S, nxR (nxV s) S = rosL S := fun S => by unfold nxR; rw [if_pos h47]
      have e3 : ∀ S, nxE (nxV s) S = rosS S := fun S => by unfold nxE; rw [if_neg h6, if_pos h47]
      rw [hk] at K ⊢
      rw [e1, e2, e3]
      rcases h47 with h4 | h7
      · exact next_d4 h4 K
      · exact next_d7 h7 K
    · have e1 : ∀ S, nxL (nxV s) S = [] := fun S => by unfold nxL; rw [if_neg h6]
      have e2 : ∀ S, nxR (nxV s) S = [] := fun S => by unfold nxR; rw [if_neg h47]
      have e3 : ∀ S, nxE (nxV s) S = S := fun S => by unfold nxE; rw [if_neg h6, if_neg h47]
      rw [e1, e2, e3]
      cases hk : keyM (nxV s : Int) with
      | false =>
        rw [hk] at K
        exact next_a h6 (fun h => h47 (.inl h)) (fun h => h47 (.inr h)) K
      | true =>
        rw [hk] at K
        exact next_b h6 (fun h => h47 (.inl h)) (fun h => h47 (.inr h)) K
end Go.Proofs.YtehgpnnfjgmiiaaGreat
