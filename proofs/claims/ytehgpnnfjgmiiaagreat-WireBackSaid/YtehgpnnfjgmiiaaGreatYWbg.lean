/- The walk of WireBack. Conditions: what Light says. -/
import Derived.Test.YtehgpnnfjgmiiaaGreatYWal
namespace Go.Proofs.YtehgpnnfjgmiiaaGreat
open Go.Shelf Go.RowKit Go.Lib Go.Great
set_option maxRecDepth 100000
set_option maxHeartbeats 2000000
theorem wbk_dark (m n : Msg) (L L' : List Con) (R R' : List Ins) (w W2 : World) (X Y : Array Value) (K : TwoK w W2 m n X Y L L' R R') (hR : R.length ≤ 9223372036854775807) (hR' : R'.length ≤ 9223372036854775807) (hl : (lightM L R && lightM L' R') = false) :
    Calls Tryz.prog 5 #[.agg X, .agg Y] w fun e w' => e = .returned (.bool true) ∧ Below w.heap.size w w' := by
  have HW := Lib.hid K.w2
  have HLM : Hid (∀ W, Below (w.heap.size + 2) W2 W → (loadVar 28 ⟨w.heap.size, 0, none⟩).run Tryz.prog W = .ok (.agg X) W) := Lib.hid (fun W hW => by rw [K.x]; exact (K.f1 hW).all)
  have HLN : Hid (∀ W, Below (w.heap.size + 2) W2 W → (loadVar 28 ⟨w.heap.size + 1, 0, none⟩).run Tryz.prog W = .ok (.agg Y) W) := Lib.hid (fun W hW => by rw [K.y]; exact (K.f2 hW).all)
  have H6m : Hid (∀ W, Below (w.heap.size + 2) W2 W → Calls Tryz.prog 6 #[.agg X] W fun e w' => e = .returned (.bool (lightM L R)) ∧ Below (w.heap.size + 2) W2 w') := Lib.hid (fun W hW => by
    rw [K.x]
    refine (mlight_any m L R W (K.c1.below (K.bel hW).1) (K.i1.below (K.bel hW).1) hR).mono ?_
    rintro e w' ⟨rfl, h⟩
    exact ⟨rfl, hW.trans (h.mono (K.bel hW).2)⟩)
  have H6n : Hid (∀ W, Below (w.heap.size + 2) W2 W → Calls Tryz.prog 6 #[.agg Y] W fun e w' => e = .returned (.bool (lightM L' R')) ∧ Below (w.heap.size + 2) W2 w') := Lib.hid (fun W hW => by
    rw [K.y]
    refine (mlight_any n L' R' W (K.c2.below (K.bel hW).1) (K.i2.below (K.bel hW).1) hR').mono ?_
    rintro e w' ⟨rfl, h⟩
    exact ⟨rfl, hW.trans (h.mono (K.bel hW).2)⟩)
  have H7 : Hid (∀ W, Below (w.heap.size + 2) W2 W → Calls Tryz.prog 7 #[] W fun e w' => e = .returned (.bool true) ∧ Below w.heap.size w w') := Lib.hid (fun W hW => (wlives_any W).mono (by
    rintro e w' ⟨rfl, h⟩
    exact ⟨rfl, (K.bel hW).1.trans (h.mono (K.bel hW).1.size)⟩))
  have HB := Lib.hid (Below.refl (w.heap.size + 2) W2)
  clear K
  cases h1 : lightM L R with
  | false =>
    rw [h1] at H6m
    go_enter Tryz.func5, Tryz.ntmps5
    go_upto_region 1 with fail
    rw [← HW.out]
    go_wp2_with (first
      | ((with_reducible refine wpList_loadV (op := ⟨some 11, _, _, _, _, _⟩) rfl 28 (.tmp 2) rfl _ ?_ _ (HLM.out _ HB.out) ?_); rfl)
      | (go_at_call 6; (with_reducible refine (H6m.out _ HB.out).mono ?_); rintro e w1 ⟨rfl, hb1⟩)
      | (go_at_call 7; (with_reducible refine (H7.out _ hb1).mono ?_); rintro e w2 ⟨rfl, hb2⟩))
    go_ret
    exact ⟨rfl, hb2⟩
  | true =>
    rw [h1, Bool.true_and] at hl
    rw [h1] at H6m
    rw [hl] at H6n
    go_enter Tryz.func5, Tryz.ntmps5
    go_upto_region 1 with fail
    rw [← HW.out]
    go_wp2_with (first
      | ((with_reducible refine wpList_loadV (op := ⟨some 11, _, _, _, _, _⟩) rfl 28 (.tmp 2) rfl _ ?_ _ (HLM.out _ HB.out) ?_); rfl)
      | (go_at_call 6; (with_reducible refine (H6m.out _ HB.out).mono ?_); rintro e w1 ⟨rfl, hb1⟩)
      | ((with_reducible refine wpList_loadG (o := ⟨some 15, _, _, _, _, _⟩) rfl 28 (.tmp 3) rfl _ ?_ _ (HLN.out _ hb1) ?_); rfl)
      | (go_at_call 6; (with_reducible refine (H6n.out _ hb1).mono ?_); rintro e w3 ⟨rfl, hb3⟩)
      | (go_at_call 7; (with_reducible refine (H7.out _ hb3).mono ?_); rintro e w2 ⟨rfl, hb2⟩))
    go_ret
    exact ⟨rfl, hb2⟩
theorem wbk_bad (m n : Msg) (L L' : List Con) (R R' : List Ins) (w W2 : World) (X Y : Array Value) (K : TwoK w W2 m n X Y L L' R R') (hl : lightM L R = true) (hl' : lightM L' R' = true) (hg : goodM m.kind m.key L R = false) :
    Calls Tryz.prog 5 #[.agg X, .agg Y] w fun e w' => e = .returned (.bool true) ∧ Below w.heap.size w w' := by
  obtain ⟨z1, z2, z3⟩ := lightM_len hl
  obtain ⟨z1', z2', z3'⟩ := lightM_len hl'
  have ht : ∀ x ∈ R, x.tgt.length ≤ 100000 := fun x hx => by have := z3 x hx; omega
  have ht' : ∀ x ∈ R', x.tgt.length ≤ 100000 := fun x hx => by have := z3' x hx; omega
  have hR : R.length ≤ 9223372036854775807 := by omega
  have hR' : R'.length ≤ 9223372036854775807 := by omega
  have HW := Lib.hid K.w2
  have HLM : Hid (∀ W, Below (w.heap.size + 2) W2 W → (loadVar 28 ⟨w.heap.size, 0, none⟩).run Tryz.prog W = .ok (.agg X) W) := Lib.hid (fun W hW => by rw [K.x]; exact (K.f1 hW).all)
  have HLN : Hid (∀ W, Below (w.heap.size + 2) W2 W → (loadVar 28 ⟨w.heap.size + 1, 0, none⟩).run Tryz.prog W = .ok (.agg Y) W) := Lib.hid (fun W hW => by rw [K.y]; exact (K.f2 hW).all)
  have H6m : Hid (∀ W, Below (w.heap.size + 2) W2 W → Calls Tryz.prog 6 #[.agg X] W fun e w' => e = .returned (.bool (lightM L R)) ∧ Below (w.heap.size + 2) W2 w') := Lib.hid (fun W hW => by
    rw [K.x]
    refine (mlight_any m L R W (K.c1.below (K.bel hW).1) (K.i1.below (K.bel hW).1) hR).mono ?_
    rintro e w' ⟨rfl, h⟩
    exact ⟨rfl, hW.trans (h.mono (K.bel hW).2)⟩)
  have H6n : Hid (∀ W, Below (w.heap.size + 2) W2 W → Calls Tryz.prog 6 #[.agg Y] W fun e w' => e = .returned (.bool (lightM L' R')) ∧ Below (w.heap.size + 2) W2 w') := Lib.hid (fun W hW => by
    rw [K.y]
    refine (mlight_any n L' R' W (K.c2.below (K.bel hW).1) (K.i2.below (K.bel hW).1) hR').mono ?_
    rintro e w' ⟨rfl, h⟩
    exact ⟨rfl, hW.trans (h.mono (K.bel hW).2)⟩)
  have H7 : Hid (∀ W, Below (w.heap.size + 2) W2 W → Calls Tryz.prog 7 #[] W fun e w' => e = .returned (.bool true) ∧ Below w.heap.size w w') := Lib.hid (fun W hW => (wlives_any W).mono (by
    rintro e w' ⟨rfl, h⟩
    exact ⟨rfl, (K.bel hW).1.trans (h.mono (K.bel hW).1.size)⟩))
  have H8m : Hid (∀ W, Below (w.heap.size + 2) W2 W → Calls Tryz.prog 8 #[.agg X] W fun e w' => ∃ A c, e = .returned (.tuple #[.slice A (bytesM m.kind m.txn m.frm m.key L R).length c, .int .i64 2]) ∧ (bytesM m.kind m.txn m.frm m.key L R).length ≤ c ∧ BAt w' w'.heap.size A (bytesM m.kind m.txn m.frm m.key L R) ∧ Below W.heap.size W w') := Lib.hid (fun W hW => by
    rw [K.x]
    have h := encode_any m L R W (K.c1.below (K.bel hW).1) (K.i1.below (K.bel hW).1) (by omega) ht
    unfold EncIs at h
    rw [hg] at h
    exact h)
  have H8n : Hid (∀ W, Below (w.heap.size + 2) W2 W → Calls Tryz.prog 8 #[.agg Y] W fun e w' => ∃ A c, e = .returned (.tuple #[.slice A (bytesM n.kind n.txn n.frm n.key L' R').length c, .int .i64 (errM (goodM n.kind n.key L' R'))]) ∧ (bytesM n.kind n.txn n.frm n.key L' R').length ≤ c ∧ BAt w' w'.heap.size A (bytesM n.kind n.txn n.frm n.key L' R') ∧ Below W.heap.size W w') := Lib.hid (fun W hW => by
    rw [K.y]
    have h := encode_any n L' R' W (K.c2.below (K.bel hW).1) (K.i2.below (K.bel hW).1) (by omega) ht'
    unfold EncIs at h
    exact h)
  have HSZ : Hid (∀ W, Below (w.heap.size + 2) W2 W → w.heap.size + 2 ≤ W.heap.size ∧ Below w.heap.size w W) := Lib.hid (fun W hW => ⟨(K.bel hW).2, (K.bel hW).1⟩)
  have HB0 := Lib.hid (Below.refl (w.heap.size + 2) W2)
  have H11 : Hid (∀ W, Below (w.heap.size + 2) W2 W → Calls Tryz.prog 11 #[.agg X] W fun e w' => e = .returned (.bool false) ∧ Below (w.heap.size + 2) W2 w') := Lib.hid (fun W hW => by
    rw [K.x, ← hg]
    refine (mgood_any m L R W (K.c1.below (K.bel hW).1) (K.i1.below (K.bel hW).1) (by omega) ht).mono ?_
    rintro e w' ⟨rfl, h⟩
    exact ⟨rfl, hW.trans (h.mono (K.bel hW).2)⟩)
  have hbl : (bytesM m.kind m.txn m.frm m.key L R).length = 0 := by unfold bytesM; rw [hg]; rfl
  rw [hbl] at H8m
  rw [hl] at H6m
  rw [hl'] at H6n
  generalize errM (goodM n.kind n.key L' R') = er at *
  generalize (bytesM n.kind n.txn n.frm n.key L' R').length = bn at *
  clear K ht ht' z1 z2 z3 z1' z2' z3' hl hl' hg hbl
  go_enter Tryz.func5, Tryz.ntmps5
  go_upto_region 1 with fail
  rw [← HW.out]
  go_wp2_with (first
    | ((with_reducible refine wpList_loadV (op := ⟨some 11, _, _, _, _, _⟩) rfl 28 (.tmp 2) rfl _ ?_ _ (HLM.out _ HB0.out) ?_); rfl)
    | (go_at_call 6; (with_reducible refine (H6m.out _ HB0.out).mono ?_); rintro e w1 ⟨rfl, hb1⟩)
    | ((with_reducible refine wpList_loadG (o := ⟨some 15, _, _, _, _, _⟩) rfl 28 (.tmp 3) rfl _ ?_ _ (HLN.out _ hb1) ?_); rfl)
    | (go_at_call 6; (with_reducible refine (H6n.out _ hb1).mono ?_); rintro e w2 ⟨rfl, hb2⟩)
    | ((with_reducible refine wpList_loadV (op := ⟨some 21, _, _, _, _, _⟩) rfl 28 (.tmp 2) rfl _ ?_ _ (HLM.out _ hb2) ?_); rfl)
    | (go_at_call 8; (with_reducible refine (H8m.out _ hb2).mono ?_); rintro e w3 ⟨A3, c3, rfl, hq3, hA3, hk3⟩; have hb3 := hb2.trans (hk3.mono (HSZ.out _ hb2).1))
    | ((with_reducible refine wpList_loadV (op := ⟨some 26, _, _, _, _, _⟩) rfl 28 (.tmp 3) rfl _ ?_ _ (HLN.out _ hb3) ?_); rfl)
    | (go_at_call 8; (with_reducible refine (H8n.out _ hb3).mono ?_); rintro e w4 ⟨A4, c4, rfl, hq4, hA4, hk4⟩; have hb4 := hb3.trans (hk4.mono (HSZ.out _ hb3).1); have hA3b := (hA3.below hk4).more hk4.size)
    | ((with_reducible refine wpList_loadV (op := ⟨some 32, _, _, _, _, _⟩) rfl 28 (.tmp 2) rfl _ ?_ _ (HLM.out _ hb4) ?_); rfl)
    | (go_at_call 11; (with_reducible refine (H11.out _ hb4).mono ?_); rintro e w5 ⟨rfl, hb5⟩)
    | (go_at_call 7; (with_reducible refine (H7.out _ hb5).mono ?_); rintro e w6 ⟨rfl, hb6⟩))
  go_ret
  exact ⟨rfl, hb6⟩
theorem wbk_n (m n : Msg) (L L' : List Con) (R R' : List Ins) (w W2 : World) (X Y : Array Value) (K : TwoK w W2 m n X Y L L' R R') (hl : lightM L R = true) (hl' : lightM L' R' = true) (hg : goodM m.kind m.key L R = true) (hg' : goodM n.kind n.key L' R' = false) :
    Calls Tryz.prog 5 #[.agg X, .agg Y] w fun e w' => e = .returned (.bool true) ∧ Below w.heap.size w w' := by
  obtain ⟨z1, z2, z3⟩ := lightM_len hl
  obtain ⟨z1', z2', z3'⟩ := lightM_len hl'
  have ht : ∀ x ∈ R, x.tgt.length ≤ 100000 := fun x hx => by have := z3 x hx; omega
  have ht' : ∀ x ∈ R', x.tgt.length ≤ 100000 := fun x hx => by have := z3' x hx; omega
  have hR : R.length ≤ 9223372036854775807 := by omega
  have hR' : R'.length ≤ 9223372036854775807 := by omega
  have HW := Lib.hid K.w2
  have HLM : Hid (∀ W, Below (w.heap.size + 2) W2 W → (loadVar 28 ⟨w.heap.size, 0, none⟩).run Tryz.prog W = .ok (.agg X) W) := Lib.hid (fun W hW => by rw [K.x]; exact (K.f1 hW).all)
  have HLN : Hid (∀ W, Below (w.heap.size + 2) W2 W → (loadVar 28 ⟨w.heap.size + 1, 0, none⟩).run Tryz.prog W = .ok (.agg Y) W) := Lib.hid (fun W hW => by rw [K.y]; exact (K.f2 hW).all)
  have H6m : Hid (∀ W, Below (w.heap.size + 2) W2 W → Calls Tryz.prog 6 #[.agg X] W fun e w' => e = .returned (.bool (lightM L R)) ∧ Below (w.heap.size + 2) W2 w') := Lib.hid (fun W hW => by
    rw [K.x]
    refine (mlight_any m L R W (K.c1.below (K.bel hW).1) (K.i1.below (K.bel hW).1) hR).mono ?_
    rintro e w' ⟨rfl, h⟩
    exact ⟨rfl, hW.trans (h.mono (K.bel hW).2)⟩)
  have H6n : Hid (∀ W, Below (w.heap.size + 2) W2 W → Calls Tryz.prog 6 #[.agg Y] W fun e w' => e = .returned (.bool (lightM L' R')) ∧ Below (w.heap.size + 2) W2 w') := Lib.hid (fun W hW => by
    rw [K.y]
    refine (mlight_any n L' R' W (K.c2.below (K.bel hW).1) (K.i2.below (K.bel hW).1) hR').mono ?_
    rintro e w' ⟨rfl, h⟩
    exact ⟨rfl, hW.trans (h.mono (K.bel hW).2)⟩)
  have H7 : Hid (∀ W, Below (w.heap.size + 2) W2 W → Calls Tryz.prog 7 #[] W fun e w' => e = .returned (.bool true) ∧ Below w.heap.size w w') := Lib.hid (fun W hW => (wlives_any W).mono (by
    rintro e w' ⟨rfl, h⟩
    exact ⟨rfl, (K.bel hW).1.trans (h.mono (K.bel hW).1.size)⟩))
  have H8m : Hid (∀ W, Below (w.heap.size + 2) W2 W → Calls Tryz.prog 8 #[.agg X] W fun e w' => ∃ A c, e = .returned (.tuple #[.slice A (bytesM m.kind m.txn m.frm m.key L R).length c, .int .i64 0]) ∧ (bytesM m.kind m.txn m.frm m.key L R).length ≤ c ∧ BAt w' w'.heap.size A (bytesM m.kind m.txn m.frm m.key L R) ∧ Below W.heap.size W w') := Lib.hid (fun W hW => by
    rw [K.x]
    have h := encode_any m L R W (K.c1.below (K.bel hW).1) (K.i1.below (K.bel hW).1) (by omega) ht
    unfold EncIs at h
    rw [hg] at h
    exact h)
  have H8n : Hid (∀ W, Below (w.heap.size + 2) W2 W → Calls Tryz.prog 8 #[.agg Y] W fun e w' => ∃ A c, e = .returned (.tuple #[.slice A (bytesM n.kind n.txn n.frm n.key L' R').length c, .int .i64 2]) ∧ (bytesM n.kind n.txn n.frm n.key L' R').length ≤ c ∧ BAt w' w'.heap.size A (bytesM n.kind n.txn n.frm n.key L' R') ∧ Below W.heap.size W w') := Lib.hid (fun W hW => by
    rw [K.y]
    have h := encode_any n L' R' W (K.c2.below (K.bel hW).1) (K.i2.below (K.bel hW).1) (by omega) ht'
    unfold EncIs at h
    rw [hg'] at h
    exact h)
  have HSZ : Hid (∀ W, Below (w.heap.size + 2) W2 W → w.heap.size + 2 ≤ W.heap.size ∧ Below w.heap.size w W) := Lib.hid (fun W hW => ⟨(K.bel hW).2, (K.bel hW).1⟩)
  have HB0 := Lib.hid (Below.refl (w.heap.size + 2) W2)
  obtain ⟨BB, hBB⟩ : ∃ BB, BB = bytesM m.kind m.txn m.frm m.key L R := ⟨_, rfl⟩
  obtain ⟨BN, hBN⟩ : ∃ BN, BN = bytesM n.kind n.txn n.frm n.key L' R' := ⟨_, rfl⟩
  rw [← hBB] at H8m
  rw [← hBN] at H8n
  obtain ⟨ed1, ed2⟩ := enc_dec (t := m.txn) (f := m.frm) hg m.ht m.hf m.hy
  rw [← hBB] at ed1 ed2
  have hlen : BB.length ≤ 6447 := by rw [hBB]; exact bytesM_len m.hf m.hy
  have hl8 : (BB.length : Int) ≤ 8192 := by omega
  have H19 : Hid (∀ W A c, BAt W W.heap.size A BB → Calls Tryz.prog 19 #[.slice A BB.length c] W fun e w' => ∃ x : Msg, e = .returned (.tuple #[.agg (encM x).toArray, .int .i64 0]) ∧ IsM w' x ⟨m.kind, m.txn, m.frm, m.key, L, R⟩ ∧ Below W.heap.size W w') := Lib.hid (fun W A c hA => by
    have h := decode_any A c BB W hA (by omega)
    unfold DecIs at h
    rw [ed1, ed2] at h
    exact h)
  have H18x : Hid (∀ W x, Below (w.heap.size + 2) W2 W → IsM W x ⟨m.kind, m.txn, m.frm, m.key, L, R⟩ → Calls Tryz.prog 18 #[.agg (encM x).toArray, .agg X] W fun e w' => e = .returned (.bool true) ∧ Below W.heap.size W w') := Lib.hid (fun W x hW hx => by
    rw [K.x, ← (sameM_iff x m L L R R).2 (by rw [hx.1, hx.2.1, hx.2.2.1, hx.2.2.2.1])]
    exact mrsame_any x m L L R R W hx.2.2.2.2.1 hx.2.2.2.2.2 (K.c1.below (K.bel hW).1) (K.i1.below (K.bel hW).1) (by omega) (by omega))
  have HZ := Lib.hid (encM_length zeroM)
  have HML := Lib.hid encM_length
  have HMO := Lib.hid encM_one
  rw [hl] at H6m
  rw [hl'] at H6n
  clear K ht ht' z1 z2 z3 z1' z2' z3' hl hl' hg hg' hlen hBB hBN ed1 ed2
  go_enter Tryz.func5, Tryz.ntmps5
  go_upto_region 1 with fail
  rw [← HW.out]
  go_upto_region 8 with (first
    | ((with_reducible refine wpList_loadV (op := ⟨some 11, _, _, _, _, _⟩) rfl 28 (.tmp 2) rfl _ ?_ _ (HLM.out _ HB0.out) ?_); rfl)
    | (go_at_call 6; (with_reducible refine (H6m.out _ HB0.out).mono ?_); rintro e w1 ⟨rfl, hb1⟩)
    | ((with_reducible refine wpList_loadG (o := ⟨some 15, _, _, _, _, _⟩) rfl 28 (.tmp 3) rfl _ ?_ _ (HLN.out _ hb1) ?_); rfl)
    | (go_at_call 6; (with_reducible refine (H6n.out _ hb1).mono ?_); rintro e w2 ⟨rfl, hb2⟩)
    | ((with_reducible refine wpList_loadV (op := ⟨some 21, _, _, _, _, _⟩) rfl 28 (.tmp 2) rfl _ ?_ _ (HLM.out _ hb2) ?_); rfl)
    | (go_at_call 8; (with_reducible refine (H8m.out _ hb2).mono ?_); rintro e w3 ⟨A3, c3, rfl, hq3, hA3, hk3⟩; have hb3 := hb2.trans (hk3.mono (HSZ.out _ hb2).1))
    | ((with_reducible refine wpList_loadV (op := ⟨some 26, _, _, _, _, _⟩) rfl 28 (.tmp 3) rfl _ ?_ _ (HLN.out _ hb3) ?_); rfl)
    | (go_at_call 8; (with_reducible refine (H8n.out _ hb3).mono ?_); rintro e w4 ⟨A4, c4, rfl, hq4, hA4, hk4⟩; have hb4 := hb3.trans (hk4.mono (HSZ.out _ hb3).1); have hA3b := (hA3.below hk4).more hk4.size)
    | (go_at_call 19; (with_reducible refine (H19.out _ _ _ hA3b).mono ?_); rintro e w7 ⟨x, rfl, ix, hk7⟩)
    | (with_reducible refine wpList_allocM (o := ⟨some 9, _, _, _, _, _⟩) w7.heap.size rfl rfl 9 rfl rfl ?_)
    | ((with_reducible refine wpList_storeMn (o := ⟨none, _, _, _, _, _⟩) rfl (.tmp 9) (.tmp 46) rfl w7.heap.size rfl (encM zeroM) (encM x) HZ.out (HML.out x) (HMO.out x) ?_ ?_ ?_); rfl; rfl))
  have ba : Below w7.heap.size w7 (w7.alloc (.cells (encM x).toArray 28)) := (Below.refl _ w7).alloc (Nat.le_refl _) _
  have hk8 : Below w4.heap.size w4 (w7.alloc (.cells (encM x).toArray 28)) := hk7.trans (ba.mono hk7.size)
  have hb8 := hb4.trans (hk8.mono (HSZ.out _ hb4).1)
  have hi3 : IsB (.slice A3 BB.length c3) BB (w7.alloc (.cells (encM x).toArray 28)) := ⟨A3, c3, rfl, hq3, (hA3b.below hk8).more hk8.size⟩
  have hi4 : IsB (.slice A4 BN.length c4) BN (w7.alloc (.cells (encM x).toArray 28)) := ⟨A4, c4, rfl, hq4, (hA4.below hk8).more hk8.size⟩
  have ix8 := ix.bel ba
  have hn8 := heap_alloc_new w7 (.cells (encM x).toArray 28)
  generalize w7.heap.size = p9 at *
  generalize w7.alloc (.cells (encM x).toArray 28) = W8 at *
  have HB8 := Lib.hid hb8
  have HKE : Hid (∀ q : Kept W8.heap.size W8, Below (w.heap.size + 2) W2 q.val) := Lib.hid (fun q => HB8.out.trans (q.property.mono (HSZ.out _ HB8.out).1))
  have HV1 : Hid (∀ q : Kept W8.heap.size W8, (convert 31 9 (.slice A3 BB.length c3)).run Tryz.prog q.val = .ok (.string (bstr BB)) q.val) := Lib.hid (fun q => (hi3.below q.property).conv)
  have HV2 : Hid (∀ q : Kept W8.heap.size W8, (convert 31 9 (.slice A4 BN.length c4)).run Tryz.prog q.val = .ok (.string (bstr BN)) q.val) := Lib.hid (fun q => (hi4.below q.property).conv)
  have HQ9 : Hid (∀ q : Kept W8.heap.size W8, (loadVar 28 ⟨p9, 0, none⟩).run Tryz.prog q.val = .ok (.agg (encM x).toArray) q.val) := Lib.hid (fun q => run_loadVar_row ((q.property.block _ (Array.getElem?_eq_some_iff.1 hn8).1).trans hn8) (HML.out x))
  have HQ2 : Hid (∀ q : Kept W8.heap.size W8, (loadVar 28 ⟨w.heap.size, 0, none⟩).run Tryz.prog q.val = .ok (.agg X) q.val) := Lib.hid (fun q => HLM.out _ (HKE.out q))
  have HQ3 : Hid (∀ q : Kept W8.heap.size W8, (loadVar 28 ⟨w.heap.size + 1, 0, none⟩).run Tryz.prog q.val = .ok (.agg Y) q.val) := Lib.hid (fun q => HLN.out _ (HKE.out q))
  have K18x := Lib.hid (fun q => kept_ofS (Nat.le_refl _) (fun z : Kept W8.heap.size W8 => H18x.out _ x (HKE.out z) (ix8.bel z.property)) q)
  have K7 := Lib.hid (fun q => kept_of (B := W8.heap.size) (W0 := W8) (Nat.le_refl _) wlives_any q)
  have HFE : Hid (∀ W, Below W8.heap.size W8 W → Below w.heap.size w W) := Lib.hid (fun W h => (HSZ.out _ (HB8.out.trans (h.mono (HSZ.out _ HB8.out).1))).2)
  clear hb1 hb2 hb3 hb4 hb8 hk3 hk4 hk7 hk8 ba hi3 hi4 hA3 hA3b hA4 hq3 hq4 ix ix8 hn8 HLM HLN H6m H6n H8m H8n H7 H19 H18x HML HMO HZ HKE HSZ HB8 HB0
  generalize bstr BB = SB at *
  generalize bstr BN = SN at *
  generalize BB.length = bl at *
  generalize BN.length = bn at *
  generalize (encM x).toArray = XX at *
  refine wp_region_kept W8.heap.size W8 (Below.refl _ _) (by kernel_rfl) (by kernel_rfl) ?_
  (try simp only [Act.put, List.setIfInBounds_toArray, List.set_cons_zero, List.set_cons_succ])
  repeat (first
      | (go_big_quiet_want; (with_reducible refine quiet_loadV (o := ⟨some 51, _, _, _, _, _⟩) 28 (.tmp 9) rfl _ ?_ _ HQ9.out ?_); rfl; simp only [Act.put, List.setIfInBounds_toArray, List.set_cons_zero, List.set_cons_succ]; go_big_quiet_on)
      | (go_big_quiet_want; (with_reducible refine quiet_loadV (o := ⟨some 52, _, _, _, _, _⟩) 28 (.tmp 2) rfl _ ?_ _ HQ2.out ?_); rfl; simp only [Act.put, List.setIfInBounds_toArray, List.set_cons_zero, List.set_cons_succ]; go_big_quiet_on)
      | go_big_quiet_step (first | (go_at_call 18; with_reducible exact K18x.out _) | (go_at_call 7; with_reducible exact K7.out _)))
  refine wpQuiet_nil ?_
  rintro wm ⟨⟨_, hwm⟩, rfl⟩
  have HWM := Lib.hid (HFE.out _ hwm)
  clear hwm
  go_wp2
  go_ret
  exact ⟨by first | rfl | simp, HWM.out⟩
theorem wbk_t (m n : Msg) (L L' : List Con) (R R' : List Ins) (w W2 : World) (X Y : Array Value) (K : TwoK w W2 m n X Y L L' R R') (hl : lightM L R = true) (hl' : lightM L' R' = true) (hg : goodM m.kind m.key L R = true) (hg' : goodM n.kind n.key L' R' = true) (hsm : sameM m n L L' R R' = true) :
    Calls Tryz.prog 5 #[.agg X, .agg Y] w fun e w' => e = .returned (.bool true) ∧ Below w.heap.size w w' := by
  obtain ⟨z1, z2, z3⟩ := lightM_len hl
  obtain ⟨z1', z2', z3'⟩ := lightM_len hl'
  have ht : ∀ x ∈ R, x.tgt.length ≤ 100000 := fun x hx => by have := z3 x hx; omega
  have ht' : ∀ x ∈ R', x.tgt.length ≤ 100000 := fun x hx => by have := z3' x hx; omega
  have hR : R.length ≤ 9223372036854775807 := by omega
  have hR' : R'.length ≤ 9223372036854775807 := by omega
  have HW := Lib.hid K.w2
  have HLM : Hid (∀ W, Below (w.heap.size + 2) W2 W → (loadVar 28 ⟨w.heap.size, 0, none⟩).run Tryz.prog W = .ok (.agg X) W) := Lib.hid (fun W hW => by rw [K.x]; exact (K.f1 hW).all)
  have HLN : Hid (∀ W, Below (w.heap.size + 2) W2 W → (loadVar 28 ⟨w.heap.size + 1, 0, none⟩).run Tryz.prog W = .ok (.agg Y) W) := Lib.hid (fun W hW => by rw [K.y]; exact (K.f2 hW).all)
  have H6m : Hid (∀ W, Below (w.heap.size + 2) W2 W → Calls Tryz.prog 6 #[.agg X] W fun e w' => e = .returned (.bool (lightM L R)) ∧ Below (w.heap.size + 2) W2 w') := Lib.hid (fun W hW => by
    rw [K.x]
    refine (mlight_any m L R W (K.c1.below (K.bel hW).1) (K.i1.below (K.bel hW).1) hR).mono ?_
    rintro e w' ⟨rfl, h⟩
    exact ⟨rfl, hW.trans (h.mono (K.bel hW).2)⟩)
  have H6n : Hid (∀ W, Below (w.heap.size + 2) W2 W → Calls Tryz.prog 6 #[.agg Y] W fun e w' => e = .returned (.bool (lightM L' R')) ∧ Below (w.heap.size + 2) W2 w') := Lib.hid (fun W hW => by
    rw [K.y]
    refine (mlight_any n L' R' W (K.c2.below (K.bel hW).1) (K.i2.below (K.bel hW).1) hR').mono ?_
    rintro e w' ⟨rfl, h⟩
    exact ⟨rfl, hW.trans (h.mono (K.bel hW).2)⟩)
  have H7 : Hid (∀ W, Below (w.heap.size + 2) W2 W → Calls Tryz.prog 7 #[] W fun e w' => e = .returned (.bool true) ∧ Below w.heap.size w w') := Lib.hid (fun W hW => (wlives_any W).mono (by
    rintro e w' ⟨rfl, h⟩
    exact ⟨rfl, (K.bel hW).1.trans (h.mono (K.bel hW).1.size)⟩))
  have H8m : Hid (∀ W, Below (w.heap.size + 2) W2 W → Calls Tryz.prog 8 #[.agg X] W fun e w' => ∃ A c, e = .returned (.tuple #[.slice A (bytesM m.kind m.txn m.frm m.key L R).length c, .int .i64 0]) ∧ (bytesM m.kind m.txn m.frm m.key L R).length ≤ c ∧ BAt w' w'.heap.size A (bytesM m.kind m.txn m.frm m.key L R) ∧ Below W.heap.size W w') := Lib.hid (fun W hW => by
    rw [K.x]
    have h := encode_any m L R W (K.c1.below (K.bel hW).1) (K.i1.below (K.bel hW).1) (by omega) ht
    unfold EncIs at h
    rw [hg] at h
    exact h)
  have H8n : Hid (∀ W, Below (w.heap.size + 2) W2 W → Calls Tryz.prog 8 #[.agg Y] W fun e w' => ∃ A c, e = .returned (.tuple #[.slice A (bytesM n.kind n.txn n.frm n.key L' R').length c, .int .i64 0]) ∧ (bytesM n.kind n.txn n.frm n.key L' R').length ≤ c ∧ BAt w' w'.heap.size A (bytesM n.kind n.txn n.frm n.key L' R') ∧ Below W.heap.size W w') := Lib.hid (fun W hW => by
    rw [K.y]
    have h := encode_any n L' R' W (K.c2.below (K.bel hW).1) (K.i2.below (K.bel hW).1) (by omega) ht'
    unfold EncIs at h
    rw [hg'] at h
    exact h)
  have HSZ : Hid (∀ W, Below (w.heap.size + 2) W2 W → w.heap.size + 2 ≤ W.heap.size ∧ Below w.heap.size w W) := Lib.hid (fun W hW => ⟨(K.bel hW).2, (K.bel hW).1⟩)
  have HB0 := Lib.hid (Below.refl (w.heap.size + 2) W2)
  obtain ⟨BB, hBB⟩ : ∃ BB, BB = bytesM m.kind m.txn m.frm m.key L R := ⟨_, rfl⟩
  obtain ⟨BN, hBN⟩ : ∃ BN, BN = bytesM n.kind n.txn n.frm n.key L' R' := ⟨_, rfl⟩
  rw [← hBB] at H8m
  rw [← hBN] at H8n
  obtain ⟨ed1, ed2⟩ := enc_dec (t := m.txn) (f := m.frm) hg m.ht m.hf m.hy
  rw [← hBB] at ed1 ed2
  have hlen : BB.length ≤ 6447 := by rw [hBB]; exact bytesM_len m.hf m.hy
  have hl8 : (BB.length : Int) ≤ 8192 := by omega
  have H19 : Hid (∀ W A c, BAt W W.heap.size A BB → Calls Tryz.prog 19 #[.slice A BB.length c] W fun e w' => ∃ x : Msg, e = .returned (.tuple #[.agg (encM x).toArray, .int .i64 0]) ∧ IsM w' x ⟨m.kind, m.txn, m.frm, m.key, L, R⟩ ∧ Below W.heap.size W w') := Lib.hid (fun W A c hA => by
    have h := decode_any A c BB W hA (by omega)
    unfold DecIs at h
    rw [ed1, ed2] at h
    exact h)
  have H18x : Hid (∀ W x, Below (w.heap.size + 2) W2 W → IsM W x ⟨m.kind, m.txn, m.frm, m.key, L, R⟩ → Calls Tryz.prog 18 #[.agg (encM x).toArray, .agg X] W fun e w' => e = .returned (.bool true) ∧ Below W.heap.size W w') := Lib.hid (fun W x hW hx => by
    rw [K.x, ← (sameM_iff x m L L R R).2 (by rw [hx.1, hx.2.1, hx.2.2.1, hx.2.2.2.1])]
    exact mrsame_any x m L L R R W hx.2.2.2.2.1 hx.2.2.2.2.2 (K.c1.below (K.bel hW).1) (K.i1.below (K.bel hW).1) (by omega) (by omega))
  have HZ := Lib.hid (encM_length zeroM)
  have HML := Lib.hid encM_length
  have HMO := Lib.hid encM_one
  have hse : ((bstr BB).toList == (bstr BN).toList) = true := by rw [bstr_list, bstr_list, hBB, hBN, bytes_same hg hg', hsm]
  have HSE := Lib.hid hse
  have H18n : Hid (∀ W, Below (w.heap.size + 2) W2 W → Calls Tryz.prog 18 #[.agg X, .agg Y] W fun e w' => e = .returned (.bool true) ∧ Below W.heap.size W w') := Lib.hid (fun W hW => by
    rw [K.x, K.y, ← hsm]
    exact mrsame_any m n L L' R R' W (K.c1.below (K.bel hW).1) (K.i1.below (K.bel hW).1) (K.c2.below (K.bel hW).1) (K.i2.below (K.bel hW).1) (by omega) (by omega))
  clear hse hsm
  rw [hl] at H6m
  rw [hl'] at H6n
  clear K ht ht' z1 z2 z3 z1' z2' z3' hl hl' hg hg' hlen hBB hBN ed1 ed2
  go_enter Tryz.func5, Tryz.ntmps5
  go_upto_region 1 with fail
  rw [← HW.out]
  go_upto_region 8 with (first
    | ((with_reducible refine wpList_loadV (op := ⟨some 11, _, _, _, _, _⟩) rfl 28 (.tmp 2) rfl _ ?_ _ (HLM.out _ HB0.out) ?_); rfl)
    | (go_at_call 6; (with_reducible refine (H6m.out _ HB0.out).mono ?_); rintro e w1 ⟨rfl, hb1⟩)
    | ((with_reducible refine wpList_loadG (o := ⟨some 15, _, _, _, _, _⟩) rfl 28 (.tmp 3) rfl _ ?_ _ (HLN.out _ hb1) ?_); rfl)
    | (go_at_call 6; (with_reducible refine (H6n.out _ hb1).mono ?_); rintro e w2 ⟨rfl, hb2⟩)
    | ((with_reducible refine wpList_loadV (op := ⟨some 21, _, _, _, _, _⟩) rfl 28 (.tmp 2) rfl _ ?_ _ (HLM.out _ hb2) ?_); rfl)
    | (go_at_call 8; (with_reducible refine (H8m.out _ hb2).mono ?_); rintro e w3 ⟨A3, c3, rfl, hq3, hA3, hk3⟩; have hb3 := hb2.trans (hk3.mono (HSZ.out _ hb2).1))
    | ((with_reducible refine wpList_loadV (op := ⟨some 26, _, _, _, _, _⟩) rfl 28 (.tmp 3) rfl _ ?_ _ (HLN.out _ hb3) ?_); rfl)
    | (go_at_call 8; (with_reducible refine (H8n.out _ hb3).mono ?_); rintro e w4 ⟨A4, c4, rfl, hq4, hA4, hk4⟩; have hb4 := hb3.trans (hk4.mono (HSZ.out _ hb3).1); have hA3b := (hA3.below hk4).more hk4.size)
    | (go_at_call 19; (with_reducible refine (H19.out _ _ _ hA3b).mono ?_); rintro e w7 ⟨x, rfl, ix, hk7⟩)
    | (with_reducible refine wpList_allocM (o := ⟨some 9, _, _, _, _, _⟩) w7.heap.size rfl rfl 9 rfl rfl ?_)
    | ((with_reducible refine wpList_storeMn (o := ⟨none, _, _, _, _, _⟩) rfl (.tmp 9) (.tmp 46) rfl w7.heap.size rfl (encM zeroM) (encM x) HZ.out (HML.out x) (HMO.out x) ?_ ?_ ?_); rfl; rfl))
  have ba : Below w7.heap.size w7 (w7.alloc (.cells (encM x).toArray 28)) := (Below.refl _ w7).alloc (Nat.le_refl _) _
  have hk8 : Below w4.heap.size w4 (w7.alloc (.cells (encM x).toArray 28)) := hk7.trans (ba.mono hk7.size)
  have hb8 := hb4.trans (hk8.mono (HSZ.out _ hb4).1)
  have hi3 : IsB (.slice A3 BB.length c3) BB (w7.alloc (.cells (encM x).toArray 28)) := ⟨A3, c3, rfl, hq3, (hA3b.below hk8).more hk8.size⟩
  have hi4 : IsB (.slice A4 BN.length c4) BN (w7.alloc (.cells (encM x).toArray 28)) := ⟨A4, c4, rfl, hq4, (hA4.below hk8).more hk8.size⟩
  have ix8 := ix.bel ba
  have hn8 := heap_alloc_new w7 (.cells (encM x).toArray 28)
  generalize w7.heap.size = p9 at *
  generalize w7.alloc (.cells (encM x).toArray 28) = W8 at *
  have HB8 := Lib.hid hb8
  have HKE : Hid (∀ q : Kept W8.heap.size W8, Below (w.heap.size + 2) W2 q.val) := Lib.hid (fun q => HB8.out.trans (q.property.mono (HSZ.out _ HB8.out).1))
  have HV1 : Hid (∀ q : Kept W8.heap.size W8, (convert 31 9 (.slice A3 BB.length c3)).run Tryz.prog q.val = .ok (.string (bstr BB)) q.val) := Lib.hid (fun q => (hi3.below q.property).conv)
  have HV2 : Hid (∀ q : Kept W8.heap.size W8, (convert 31 9 (.slice A4 BN.length c4)).run Tryz.prog q.val = .ok (.string (bstr BN)) q.val) := Lib.hid (fun q => (hi4.below q.property).conv)
  have HQ9 : Hid (∀ q : Kept W8.heap.size W8, (loadVar 28 ⟨p9, 0, none⟩).run Tryz.prog q.val = .ok (.agg (encM x).toArray) q.val) := Lib.hid (fun q => run_loadVar_row ((q.property.block _ (Array.getElem?_eq_some_iff.1 hn8).1).trans hn8) (HML.out x))
  have HQ2 : Hid (∀ q : Kept W8.heap.size W8, (loadVar 28 ⟨w.heap.size, 0, none⟩).run Tryz.prog q.val = .ok (.agg X) q.val) := Lib.hid (fun q => HLM.out _ (HKE.out q))
  have HQ3 : Hid (∀ q : Kept W8.heap.size W8, (loadVar 28 ⟨w.heap.size + 1, 0, none⟩).run Tryz.prog q.val = .ok (.agg Y) q.val) := Lib.hid (fun q => HLN.out _ (HKE.out q))
  have K18x := Lib.hid (fun q => kept_ofS (Nat.le_refl _) (fun z : Kept W8.heap.size W8 => H18x.out _ x (HKE.out z) (ix8.bel z.property)) q)
  have K18n := Lib.hid (fun q => kept_ofS (Nat.le_refl _) (fun z : Kept W8.heap.size W8 => H18n.out _ (HKE.out z)) q)
  have K7 := Lib.hid (fun q => kept_of (B := W8.heap.size) (W0 := W8) (Nat.le_refl _) wlives_any q)
  have HFE : Hid (∀ W, Below W8.heap.size W8 W → Below w.heap.size w W) := Lib.hid (fun W h => (HSZ.out _ (HB8.out.trans (h.mono (HSZ.out _ HB8.out).1))).2)
  clear hb1 hb2 hb3 hb4 hb8 hk3 hk4 hk7 hk8 ba hi3 hi4 hA3 hA3b hA4 hq3 hq4 ix ix8 hn8 HLM HLN H6m H6n H8m H8n H7 H19 H18x HML HMO HZ HKE HSZ HB8 HB0
  clear H18n
  have hse := HSE.out
  clear HSE
  generalize bstr BB = SB at *
  generalize bstr BN = SN at *
  generalize BB.length = bl at *
  generalize BN.length = bn at *
  generalize (encM x).toArray = XX at *
  refine wp_region_kept W8.heap.size W8 (Below.refl _ _) (by kernel_rfl) (by kernel_rfl) ?_
  (try simp only [Act.put, List.setIfInBounds_toArray, List.set_cons_zero, List.set_cons_succ])
  repeat (first
      | (go_big_quiet_want; (with_reducible refine quiet_loadV (o := ⟨some 51, _, _, _, _, _⟩) 28 (.tmp 9) rfl _ ?_ _ HQ9.out ?_); rfl; simp only [Act.put, List.setIfInBounds_toArray, List.set_cons_zero, List.set_cons_succ]; go_big_quiet_on)
      | (go_big_quiet_want; (with_reducible refine quiet_loadV (o := ⟨some 52, _, _, _, _, _⟩) 28 (.tmp 2) rfl _ ?_ _ HQ2.out ?_); rfl; simp only [Act.put, List.setIfInBounds_toArray, List.set_cons_zero, List.set_cons_succ]; go_big_quiet_on)
      | (go_big_quiet_want; (with_reducible refine quiet_convV (o := ⟨some 65, _, _, _, _, _⟩) 31 9 (.tmp 64) rfl _ _ ?_ HV1.out ?_); rfl; simp only [Act.put, List.setIfInBounds_toArray, List.set_cons_zero, List.set_cons_succ]; go_big_quiet_on)
      | (go_big_quiet_want; (with_reducible refine quiet_convV (o := ⟨some 67, _, _, _, _, _⟩) 31 9 (.tmp 66) rfl _ _ ?_ HV2.out ?_); rfl; simp only [Act.put, List.setIfInBounds_toArray, List.set_cons_zero, List.set_cons_succ]; go_big_quiet_on)
      | (go_big_quiet_want; (with_reducible refine quiet_loadV (o := ⟨some 69, _, _, _, _, _⟩) 28 (.tmp 2) rfl _ ?_ _ HQ2.out ?_); rfl; simp only [Act.put, List.setIfInBounds_toArray, List.set_cons_zero, List.set_cons_succ]; go_big_quiet_on)
      | (go_big_quiet_want; (with_reducible refine quiet_loadV (o := ⟨some 70, _, _, _, _, _⟩) 28 (.tmp 3) rfl _ ?_ _ HQ3.out ?_); rfl; simp only [Act.put, List.setIfInBounds_toArray, List.set_cons_zero, List.set_cons_succ]; go_big_quiet_on)
      | go_big_quiet_step (first | (go_at_call 18; with_reducible exact K18x.out _) | (go_at_call 18; with_reducible exact K18n.out _) | (go_at_call 7; with_reducible exact K7.out _)))
  refine wpQuiet_nil ?_
  rintro wm ⟨⟨_, hwm⟩, rfl⟩
  have HWM := Lib.hid (HFE.out _ hwm)
  clear hwm
  go_wp2
  go_ret
  exact ⟨by first | rfl | simp, HWM.out⟩
theorem wbk_f (m n : Msg) (L L' : List Con) (R R' : List Ins) (w W2 : World) (X Y : Array Value) (K : TwoK w W2 m n X Y L L' R R') (hl : lightM L R = true) (hl' : lightM L' R' = true) (hg : goodM m.kind m.key L R = true) (hg' : goodM n.kind n.key L' R' = true) (hsm : sameM m n L L' R R' = false) :
    Calls Tryz.prog 5 #[.agg X, .agg Y] w fun e w' => e = .returned (.bool true) ∧ Below w.heap.size w w' := by
  obtain ⟨z1, z2, z3⟩ := lightM_len hl
  obtain ⟨z1', z2', z3'⟩ := lightM_len hl'
  have ht : ∀ x ∈ R, x.tgt.length ≤ 100000 := fun x hx => by have := z3 x hx; omega
  have ht' : ∀ x ∈ R', x.tgt.length ≤ 100000 := fun x hx => by have := z3' x hx; omega
  have hR : R.length ≤ 9223372036854775807 := by omega
  have hR' : R'.length ≤ 9223372036854775807 := by omega
  have HW := Lib.hid K.w2
  have HLM : Hid (∀ W, Below (w.heap.size + 2) W2 W → (loadVar 28 ⟨w.heap.size, 0, none⟩).run Tryz.prog W = .ok (.agg X) W) := Lib.hid (fun W hW => by rw [K.x]; exact (K.f1 hW).all)
  have HLN : Hid (∀ W, Below (w.heap.size + 2) W2 W → (loadVar 28 ⟨w.heap.size + 1, 0, none⟩).run Tryz.prog W = .ok (.agg Y) W) := Lib.hid (fun W hW => by rw [K.y]; exact (K.f2 hW).all)
  have H6m : Hid (∀ W, Below (w.heap.size + 2) W2 W → Calls Tryz.prog 6 #[.agg X] W fun e w' => e = .returned (.bool (lightM L R)) ∧ Below (w.heap.size + 2) W2 w') := Lib.hid (fun W hW => by
    rw [K.x]
    refine (mlight_any m L R W (K.c1.below (K.bel hW).1) (K.i1.below (K.bel hW).1) hR).mono ?_
    rintro e w' ⟨rfl, h⟩
    exact ⟨rfl, hW.trans (h.mono (K.bel hW).2)⟩)
  have H6n : Hid (∀ W, Below (w.heap.size + 2) W2 W → Calls Tryz.prog 6 #[.agg Y] W fun e w' => e = .returned (.bool (lightM L' R')) ∧ Below (w.heap.size + 2) W2 w') := Lib.hid (fun W hW => by
    rw [K.y]
    refine (mlight_any n L' R' W (K.c2.below (K.bel hW).1) (K.i2.below (K.bel hW).1) hR').mono ?_
    rintro e w' ⟨rfl, h⟩
    exact ⟨rfl, hW.trans (h.mono (K.bel hW).2)⟩)
  have H7 : Hid (∀ W, Below (w.heap.size + 2) W2 W → Calls Tryz.prog 7 #[] W fun e w' => e = .returned (.bool true) ∧ Below w.heap.size w w') := Lib.hid (fun W hW => (wlives_any W).mono (by
    rintro e w' ⟨rfl, h⟩
    exact ⟨rfl, (K.bel hW).1.trans (h.mono (K.bel hW).1.size)⟩))
  have H8m : Hid (∀ W, Below (w.heap.size + 2) W2 W → Calls Tryz.prog 8 #[.agg X] W fun e w' => ∃ A c, e = .returned (.tuple #[.slice A (bytesM m.kind m.txn m.frm m.key L R).length c, .int .i64 0]) ∧ (bytesM m.kind m.txn m.frm m.key L R).length ≤ c ∧ BAt w' w'.heap.size A (bytesM m.kind m.txn m.frm m.key L R) ∧ Below W.heap.size W w') := Lib.hid (fun W hW => by
    rw [K.x]
    have h := encode_any m L R W (K.c1.below (K.bel hW).1) (K.i1.below (K.bel hW).1) (by omega) ht
    unfold EncIs at h
    rw [hg] at h
    exact h)
  have H8n : Hid (∀ W, Below (w.heap.size + 2) W2 W → Calls Tryz.prog 8 #[.agg Y] W fun e w' => ∃ A c, e = .returned (.tuple #[.slice A (bytesM n.kind n.txn n.frm n.key L' R').length c, .int .i64 0]) ∧ (bytesM n.kind n.txn n.frm n.key L' R').length ≤ c ∧ BAt w' w'.heap.size A (bytesM n.kind n.txn n.frm n.key L' R') ∧ Below W.heap.size W w') := Lib.hid (fun W hW => by
    rw [K.y]
    have h := encode_any n L' R' W (K.c2.below (K.bel hW).1) (K.i2.below (K.bel hW).1) (by omega) ht'
    unfold EncIs at h
    rw [hg'] at h
    exact h)
  have HSZ : Hid (∀ W, Below (w.heap.size + 2) W2 W → w.heap.size + 2 ≤ W.heap.size ∧ Below w.heap.size w W) := Lib.hid (fun W hW => ⟨(K.bel hW).2, (K.bel hW).1⟩)
  have HB0 := Lib.hid (Below.refl (w.heap.size + 2) W2)
  obtain ⟨BB, hBB⟩ : ∃ BB, BB = bytesM m.kind m.txn m.frm m.key L R := ⟨_, rfl⟩
  obtain ⟨BN, hBN⟩ : ∃ BN, BN = bytesM n.kind n.txn n.frm n.key L' R' := ⟨_, rfl⟩
  rw [← hBB] at H8m
  rw [← hBN] at H8n
  obtain ⟨ed1, ed2⟩ := enc_dec (t := m.txn) (f := m.frm) hg m.ht m.hf m.hy
  rw [← hBB] at ed1 ed2
  have hlen : BB.length ≤ 6447 := by rw [hBB]; exact bytesM_len m.hf m.hy
  have hl8 : (BB.length : Int) ≤ 8192 := by omega
  have H19 : Hid (∀ W A c, BAt W W.heap.size A BB → Calls Tryz.prog 19 #[.slice A BB.length c] W fun e w' => ∃ x : Msg, e = .returned (.tuple #[.agg (encM x).toArray, .int .i64 0]) ∧ IsM w' x ⟨m.kind, m.txn, m.frm, m.key, L, R⟩ ∧ Below W.heap.size W w') := Lib.hid (fun W A c hA => by
    have h := decode_any A c BB W hA (by omega)
    unfold DecIs at h
    rw [ed1, ed2] at h
    exact h)
  have H18x : Hid (∀ W x, Below (w.heap.size + 2) W2 W → IsM W x ⟨m.kind, m.txn, m.frm, m.key, L, R⟩ → Calls Tryz.prog 18 #[.agg (encM x).toArray, .agg X] W fun e w' => e = .returned (.bool true) ∧ Below W.heap.size W w') := Lib.hid (fun W x hW hx => by
    rw [K.x, ← (sameM_iff x m L L R R).2 (by rw [hx.1, hx.2.1, hx.2.2.1, hx.2.2.2.1])]
    exact mrsame_any x m L L R R W hx.2.2.2.2.1 hx.2.2.2.2.2 (K.c1.below (K.bel hW).1) (K.i1.below (K.bel hW).1) (by omega) (by omega))
  have HZ := Lib.hid (encM_length zeroM)
  have HML := Lib.hid encM_length
  have HMO := Lib.hid encM_one
  have hse : ((bstr BB).toList == (bstr BN).toList) = false := by rw [bstr_list, bstr_list, hBB, hBN, bytes_same hg hg', hsm]
  have HSE := Lib.hid hse
  have H18n : Hid (∀ W, Below (w.heap.size + 2) W2 W → Calls Tryz.prog 18 #[.agg X, .agg Y] W fun e w' => e = .returned (.bool false) ∧ Below W.heap.size W w') := Lib.hid (fun W hW => by
    rw [K.x, K.y, ← hsm]
    exact mrsame_any m n L L' R R' W (K.c1.below (K.bel hW).1) (K.i1.below (K.bel hW).1) (K.c2.below (K.bel hW).1) (K.i2.below (K.bel hW).1) (by omega) (by omega))
  clear hse hsm
  rw [hl] at H6m
  rw [hl'] at H6n
  clear K ht ht' z1 z2 z3 z1' z2' z3' hl hl' hg hg' hlen hBB hBN ed1 ed2
  go_enter Tryz.func5, Tryz.ntmps5
  go_upto_region 1 with fail
  rw [← HW.out]
  go_upto_region 8 with (first
    | ((with_reducible refine wpList_loadV (op := ⟨some 11, _, _, _, _, _⟩) rfl 28 (.tmp 2) rfl _ ?_ _ (HLM.out _ HB0.out) ?_); rfl)
    | (go_at_call 6; (with_reducible refine (H6m.out _ HB0.out).mono ?_); rintro e w1 ⟨rfl, hb1⟩)
    | ((with_reducible refine wpList_loadG (o := ⟨some 15, _, _, _, _, _⟩) rfl 28 (.tmp 3) rfl _ ?_ _ (HLN.out _ hb1) ?_); rfl)
    | (go_at_call 6; (with_reducible refine (H6n.out _ hb1).mono ?_); rintro e w2 ⟨rfl, hb2⟩)
    | ((with_reducible refine wpList_loadV (op := ⟨some 21, _, _, _, _, _⟩) rfl 28 (.tmp 2) rfl _ ?_ _ (HLM.out _ hb2) ?_); rfl)
    | (go_at_call 8; (with_reducible refine (H8m.out _ hb2).mono ?_); rintro e w3 ⟨A3, c3, rfl, hq3, hA3, hk3⟩; have hb3 := hb2.trans (hk3.mono (HSZ.out _ hb2).1))
    | ((with_reducible refine wpList_loadV (op := ⟨some 26, _, _, _, _, _⟩) rfl 28 (.tmp 3) rfl _ ?_ _ (HLN.out _ hb3) ?_); rfl)
    | (go_at_call 8; (with_reducible refine (H8n.out _ hb3).mono ?_); rintro e w4 ⟨A4, c4, rfl, hq4, hA4, hk4⟩; have hb4 := hb3.trans (hk4.mono (HSZ.out _ hb3).1); have hA3b := (hA3.below hk4).more hk4.size)
    | (go_at_call 19; (with_reducible refine (H19.out _ _ _ hA3b).mono ?_); rintro e w7 ⟨x, rfl, ix, hk7⟩)
    | (with_reducible refine wpList_allocM (o := ⟨some 9, _, _, _, _, _⟩) w7.heap.size rfl rfl 9 rfl rfl ?_)
    | ((with_reducible refine wpList_storeMn (o := ⟨none, _, _, _, _, _⟩) rfl (.tmp 9) (.tmp 46) rfl w7.heap.size rfl (encM zeroM) (encM x) HZ.out (HML.out x) (HMO.out x) ?_ ?_ ?_); rfl; rfl))
  have ba : Below w7.heap.size w7 (w7.alloc (.cells (encM x).toArray 28)) := (Below.refl _ w7).alloc (Nat.le_refl _) _
  have hk8 : Below w4.heap.size w4 (w7.alloc (.cells (encM x).toArray 28)) := hk7.trans (ba.mono hk7.size)
  have hb8 := hb4.trans (hk8.mono (HSZ.out _ hb4).1)
  have hi3 : IsB (.slice A3 BB.length c3) BB (w7.alloc (.cells (encM x).toArray 28)) := ⟨A3, c3, rfl, hq3, (hA3b.below hk8).more hk8.size⟩
  have hi4 : IsB (.slice A4 BN.length c4) BN (w7.alloc (.cells (encM x).toArray 28)) := ⟨A4, c4, rfl, hq4, (hA4.below hk8).more hk8.size⟩
  have ix8 := ix.bel ba
  have hn8 := heap_alloc_new w7 (.cells (encM x).toArray 28)
  generalize w7.heap.size = p9 at *
  generalize w7.alloc (.cells (encM x).toArray 28) = W8 at *
  have HB8 := Lib.hid hb8
  have HKE : Hid (∀ q : Kept W8.heap.size W8, Below (w.heap.size + 2) W2 q.val) := Lib.hid (fun q => HB8.out.trans (q.property.mono (HSZ.out _ HB8.out).1))
  have HV1 : Hid (∀ q : Kept W8.heap.size W8, (convert 31 9 (.slice A3 BB.length c3)).run Tryz.prog q.val = .ok (.string (bstr BB)) q.val) := Lib.hid (fun q => (hi3.below q.property).conv)
  have HV2 : Hid (∀ q : Kept W8.heap.size W8, (convert 31 9 (.slice A4 BN.length c4)).run Tryz.prog q.val = .ok (.string (bstr BN)) q.val) := Lib.hid (fun q => (hi4.below q.property).conv)
  have HQ9 : Hid (∀ q : Kept W8.heap.size W8, (loadVar 28 ⟨p9, 0, none⟩).run Tryz.prog q.val = .ok (.agg (encM x).toArray) q.val) := Lib.hid (fun q => run_loadVar_row ((q.property.block _ (Array.getElem?_eq_some_iff.1 hn8).1).trans hn8) (HML.out x))
  have HQ2 : Hid (∀ q : Kept W8.heap.size W8, (loadVar 28 ⟨w.heap.size, 0, none⟩).run Tryz.prog q.val = .ok (.agg X) q.val) := Lib.hid (fun q => HLM.out _ (HKE.out q))
  have HQ3 : Hid (∀ q : Kept W8.heap.size W8, (loadVar 28 ⟨w.heap.size + 1, 0, none⟩).run Tryz.prog q.val = .ok (.agg Y) q.val) := Lib.hid (fun q => HLN.out _ (HKE.out q))
  have K18x := Lib.hid (fun q => kept_ofS (Nat.le_refl _) (fun z : Kept W8.heap.size W8 => H18x.out _ x (HKE.out z) (ix8.bel z.property)) q)
  have K18n := Lib.hid (fun q => kept_ofS (Nat.le_refl _) (fun z : Kept W8.heap.size W8 => H18n.out _ (HKE.out z)) q)
  have K7 := Lib.hid (fun q => kept_of (B := W8.heap.size) (W0 := W8) (Nat.le_refl _) wlives_any q)
  have HFE : Hid (∀ W, Below W8.heap.size W8 W → Below w.heap.size w W) := Lib.hid (fun W h => (HSZ.out _ (HB8.out.trans (h.mono (HSZ.out _ HB8.out).1))).2)
  clear hb1 hb2 hb3 hb4 hb8 hk3 hk4 hk7 hk8 ba hi3 hi4 hA3 hA3b hA4 hq3 hq4 ix ix8 hn8 HLM HLN H6m H6n H8m H8n H7 H19 H18x HML HMO HZ HKE HSZ HB8 HB0
  clear H18n
  have hse := HSE.out
  clear HSE
  generalize bstr BB = SB at *
  generalize bstr BN = SN at *
  generalize BB.length = bl at *
  generalize BN.length = bn at *
  generalize (encM x).toArray = XX at *
  refine wp_region_kept W8.heap.size W8 (Below.refl _ _) (by kernel_rfl) (by kernel_rfl) ?_
  (try simp only [Act.put, List.setIfInBounds_toArray, List.set_cons_zero, List.set_cons_succ])
  repeat (first
      | (go_big_quiet_want; (with_reducible refine quiet_loadV (o := ⟨some 51, _, _, _, _, _⟩) 28 (.tmp 9) rfl _ ?_ _ HQ9.out ?_); rfl; simp only [Act.put, List.setIfInBounds_toArray, List.set_cons_zero, List.set_cons_succ]; go_big_quiet_on)
      | (go_big_quiet_want; (with_reducible refine quiet_loadV (o := ⟨some 52, _, _, _, _, _⟩) 28 (.tmp 2) rfl _ ?_ _ HQ2.out ?_); rfl; simp only [Act.put, List.setIfInBounds_toArray, List.set_cons_zero, List.set_cons_succ]; go_big_quiet_on)
      | (go_big_quiet_want; (with_reducible refine quiet_convV (o := ⟨some 65, _, _, _, _, _⟩) 31 9 (.tmp 64) rfl _ _ ?_ HV1.out ?_); rfl; simp only [Act.put, List.setIfInBounds_toArray, List.set_cons_zero, List.set_cons_succ]; go_big_quiet_on)
      | (go_big_quiet_want; (with_reducible refine quiet_convV (o := ⟨some 67, _, _, _, _, _⟩) 31 9 (.tmp 66) rfl _ _ ?_ HV2.out ?_); rfl; simp only [Act.put, List.setIfInBounds_toArray, List.set_cons_zero, List.set_cons_succ]; go_big_quiet_on)
      | (go_big_quiet_want; (with_reducible refine quiet_loadV (o := ⟨some 69, _, _, _, _, _⟩) 28 (.tmp 2) rfl _ ?_ _ HQ2.out ?_); rfl; simp only [Act.put, List.setIfInBounds_toArray, List.set_cons_zero, List.set_cons_succ]; go_big_quiet_on)
      | (go_big_quiet_want; (with_reducible refine quiet_loadV (o := ⟨some 70, _, _, _, _, _⟩) 28 (.tmp 3) rfl _ ?_ _ HQ3.out ?_); rfl; simp only [Act.put, List.setIfInBounds_toArray, List.set_cons_zero, List.set_cons_succ]; go_big_quiet_on)
      | go_big_quiet_step (first | (go_at_call 18; with_reducible exact K18x.out _) | (go_at_call 18; with_reducible exact K18n.out _) | (go_at_call 7; with_reducible exact K7.out _)))
  refine wpQuiet_nil ?_
  rintro wm ⟨⟨_, hwm⟩, rfl⟩
  have HWM := Lib.hid (HFE.out _ hwm)
  clear hwm
  go_wp2
  go_ret
  exact ⟨by first | rfl | simp, HWM.out⟩
theorem wbk_walk (m n : Msg) (L L' : List Con) (R R' : List Ins) (w : World) (c1 : ConV w m.vc L) (c2 : ConV w n.vc L') (i1 : InsV w m.vr R) (i2 : InsV w n.vr R') (hR : R.length ≤ 9223372036854775807) (hR' : R'.length ≤ 9223372036854775807) :
    Calls Tryz.prog 5 #[.agg (encM m).toArray, .agg (encM n).toArray] w fun e w' => e = .returned (.bool true) ∧ Below w.heap.size w w' := by
  have K : TwoK w _ m n _ _ L L' R R' := ⟨rfl, rfl, rfl, c1, c2, i1, i2⟩
  cases h : (lightM L R && lightM L' R') with
  | false => exact wbk_dark m n L L' R R' w _ _ _ K hR hR' h
  | true =>
    rw [Bool.and_eq_true] at h
    cases hg : goodM m.kind m.key L R with
    | false => exact wbk_bad m n L L' R R' w _ _ _ K h.1 h.2 hg
    | true =>
      cases hg' : goodM n.kind n.key L' R' with
      | false => exact wbk_n m n L L' R R' w _ _ _ K h.1 h.2 hg hg'
      | true =>
        cases hs : sameM m n L L' R R' with
        | true => exact wbk_t m n L L' R R' w _ _ _ K h.1 h.2 hg hg' hs
        | false => exact wbk_f m n L L' R R' w _ _ _ K h.1 h.2 hg hg' hs
end Go.Proofs.YtehgpnnfjgmiiaaGreat
