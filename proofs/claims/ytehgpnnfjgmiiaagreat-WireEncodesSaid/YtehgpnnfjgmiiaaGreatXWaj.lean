/- Encode of the reference, whole. Conditions: at most 10,000 contacts and instances, targets of at most 100,000 bytes. The walk of WireEncodes. Conditions: what Light says. -/
import Derived.Test.YtehgpnnfjgmiiaaGreatXWai
import Derived.Test.YtehgpnnfjgmiiaaGreatXWam
import Derived.Test.YtehgpnnfjgmiiaaGreatXWal
section
namespace Go.Proofs.YtehgpnnfjgmiiaaGreat
open Go.Shelf Go.RowKit Go.Lib Go.Great
set_option maxRecDepth 100000
set_option maxHeartbeats 2000000
theorem mrencode_any (m : Msg) (L : List Con) (R : List Ins) (w : World) (hc : ConV w m.vc L) (hr : InsV w m.vr R) (hL : L.length ≤ 10000) (hR : R.length ≤ 10000) (ht : ∀ x ∈ R, x.tgt.length ≤ 100000) : Calls Tryz.prog 9 #[.agg (encM m).toArray] w (EncIs w m L R) := by
  have hG : ∀ W, EncW w m W → Calls Tryz.prog 12 #[.agg (encM m).toArray] W fun e W' => e = .returned (.bool (goodM m.kind m.key L R)) ∧ EncW w m W' := fun W r => (mrgood_any m L R W (hc.below r.be) (hr.below r.be) hL hR ht).mono (by
    rintro e w' ⟨rfl, hb⟩
    exact ⟨rfl, r.bel hb⟩)
  cases hg : goodM m.kind m.key L R with
  | false =>
    rw [hg] at hG
    refine (rencode_bad m w (Lib.hid hG)).mono ?_
    rintro e w' ⟨rfl, hb⟩
    have h1 : bytesM m.kind m.txn m.frm m.key L R = [] := by unfold bytesM; rw [hg]; rfl
    unfold EncIs
    rw [h1, hg]
    exact ⟨none, 0, rfl, by simp, .inl rfl, hb⟩
  | true =>
    rw [hg] at hG
    have hk := goodM_kind hg
    have hT := tailB_len hg
    have h1 : bytesM m.kind m.txn m.frm m.key L R = hedM m.kind.toNat m.txn m.frm m.key ++ tailB m.kind L R := by unfold bytesM; rw [hg]; rfl
    obtain ⟨kN, hkN⟩ : ∃ kN : Nat, m.kind = (kN : Int) := ⟨m.kind.toNat, by omega⟩
    have hto : m.kind.toNat = kN := by omega
    obtain ⟨A1, c1, hv1, hA1, hB1⟩ := id hc
    obtain ⟨A2, c2, hv2, hA2⟩ := id hr
    have K : ∀ ky ls : Bool, rkeyM (kN : Int) = ky → lstM (kN : Int) = ls → RenK w m kN ky ls (.slice A1 L.length c1) (.slice A2 R.length c2) (tailB m.kind L R) := fun ky ls h2 h3 => ⟨hkN, by omega, hG, fun W => by rw [← h2]; exact keyed_any _ W, fun W => by rw [← h3]; exact listed_any _ W, hv1, hv2, by omega⟩
    have fin : ∀ {e : Ending} {w' : World} {kb : List UInt8}, (if keyM (kN : Int) then m.key else []) = kb → (∃ A c, e = .returned (.tuple #[.slice A (putB 1 1 ++ putB kN 1 ++ putB m.txn 4 ++ m.frm ++ kb ++ tailB m.kind L R).length c, .int .i64 0]) ∧ (putB 1 1 ++ putB kN 1 ++ putB m.txn 4 ++ m.frm ++ kb ++ tailB m.kind L R).length ≤ c ∧ BAt w' w'.heap.size A (putB 1 1 ++ putB kN 1 ++ putB m.txn 4 ++ m.frm ++ kb ++ tailB m.kind L R) ∧ Below w.heap.size w w') → EncIs w m L R e w' := fun {e w' kb} h2 h3 => by
      unfold EncIs
      rw [h1, hg, hto]
      unfold hedM
      rw [h2]
      exact h3
    by_cases h15 : kN = 1 ∨ kN = 5
    · have hky : (if keyM (kN : Int) then m.key else []) = [] := by rw [show keyM (kN : Int) = false by unfold keyM; simp; omega]; rfl
      have hTn : tailB m.kind L R = [] := by unfold tailB; rw [if_neg (by omega), if_neg (by omega)]
      refine (rencode_a m kN (by omega) A1 A2 L.length R.length c1 c2 _ hTn w (K false false (by unfold rkeyM; simp; omega) (by unfold lstM; simp; omega))).mono ?_
      intro e w' h
      exact fin hky h
    · have hky : (if keyM (kN : Int) then m.key else []) = m.key := by rw [show keyM (kN : Int) = true by unfold keyM; simp; omega]; rfl
      have hrk : rkeyM (kN : Int) = true := by unfold rkeyM; simp; omega
      by_cases h6 : kN = 6
      · have hgc : goodC (ctsC L) = true := by
          unfold goodM at hg
          rw [if_neg (by omega), if_neg (by omega), if_pos (by omega)] at hg
          cases hq : goodC (ctsC L) with
          | true => rfl
          | false => rw [hq] at hg; cases hg
        have hTc : tailB m.kind L R = listC (ctsC L) := by unfold tailB; rw [if_pos (by omega), if_pos hgc]
        refine (rencode_c m kN h6 A1 A2 L.length R.length c1 c2 _ w (K true false hrk (by unfold lstM; simp; omega)) (Lib.hid (fun W r => ?_))).mono ?_
        · have hcW := hc.below r.be
          rw [hv1] at hcW
          refine (plain_any _ L W hcW hL).mono ?_
          rintro e w' ⟨v', rfl, ⟨B, q, rfl, hB, _⟩, hb⟩
          refine ⟨_, rfl, r.bel hb, hb, Lib.hid ((rclist_any B q L w' hL hB).mono ?_)⟩
          rintro e2 w2 ⟨v2, rfl, ho, hb2⟩
          rw [hgc] at ho
          simp only [if_true] at ho
          obtain ⟨B3, q3, rfl, hB3, _⟩ := own_bat ho
          have hb3 := hb.trans (hb2.mono hb.size)
          rw [hgc, hTc]
          exact ⟨B3, q3, rfl, hB3, r.bel hb3, hb3⟩
        · intro e w' h
          exact fin hky h
      · by_cases h47 : kN = 4 ∨ kN = 7
        · have hgr : goodR R = true := by
            unfold goodM at hg
            rw [if_neg (by omega), if_neg (by omega), if_neg (by omega), if_pos (by omega)] at hg
            cases hq : goodR R with
            | true => rfl
            | false => rw [hq, Bool.and_false, Bool.and_false] at hg; cases hg
          have hTc : tailB m.kind L R = byR R := by unfold tailB; rw [if_neg (by omega), if_pos (by omega)]
          have her : errR R = 0 := by unfold errR; rw [if_pos hgr]
          refine (rencode_d m kN h6 A1 A2 L.length R.length c1 c2 _ w (K true true hrk (by unfold lstM; simp; omega)) (Lib.hid (fun W r => ?_))).mono ?_
          · obtain ⟨B, q, hvb, hB⟩ := hr.below r.be
            rw [hv2] at hvb
            rw [hvb]
            refine (rrbytes_any B q R W hR ht hB).mono ?_
            rintro e2 w2 ⟨v2, rfl, ⟨B3, q3, rfl, _, hB3⟩, hb2⟩
            rw [her, hTc]
            exact ⟨B3, q3, rfl, hB3, r.bel hb2, hb2⟩
          · intro e w' h
            exact fin hky h
        · have hTn : tailB m.kind L R = [] := by unfold tailB; rw [if_neg (by omega), if_neg (by omega)]
          refine (rencode_b m kN h6 A1 A2 L.length R.length c1 c2 _ hTn w (K true false hrk (by unfold lstM; simp; omega))).mono ?_
          intro e w' h
          exact fin hky h
end Go.Proofs.YtehgpnnfjgmiiaaGreat
end
section
namespace Go.Proofs.YtehgpnnfjgmiiaaGreat
open Go.Shelf Go.RowKit Go.Lib Go.Great
set_option maxRecDepth 100000
set_option maxHeartbeats 2000000
theorem quiet_buildV {P : Program} {B : Nat} {W0 : World} {o : Oper} {a : Act} {K : Act → Prop} (t : TypeId) (parts : Array (Nat × Operand)) (ho : o.op = .build t parts) (vs : Array (Nat × Value)) (hv : (parts.map fun (i, x) => (i, a.eval x)) = vs) (v : Value) (hr : ∀ n : Kept B W0, (Instr.build t vs).run P n.val = .ok v n.val)
    (hk : K (a.put o.dst v)) : o.quiet P a (fun w' => ∃ n : Kept B W0, w' = n.val) K :=
  quiet_valV v (fun n => by
    unfold execOp
    simp only [ho, hv, Sem.run_bind, hr n, Result.andThen_ok, Sem.run_pure]) hk
theorem sameM_self (m : Msg) (L : List Con) (R : List Ins) : sameM m m L L R R = true := by
  unfold sameM
  simp only [beq_self_eq_true, Bool.true_and]
  rw [(sameC_iff L L).2 rfl, (sameR_iff R R).2 rfl]
  rfl
theorem lightM_len {L : List Con} {R : List Ins} (h : lightM L R = true) : L.length ≤ 80 ∧ R.length ≤ 40 ∧ ∀ x ∈ R, x.tgt.length ≤ 300 := by
  unfold lightM lightR at h
  simp only [Bool.and_eq_true, decide_eq_true_eq, List.all_eq_true] at h
  exact ⟨h.1, h.2.2, h.2.1⟩
/-- Two messages in their boxes. -/
structure TwoK (w W2 : World) (m n : Msg) (X Y : Array Value) (L L' : List Con) (R R' : List Ins) : Prop where
  w2 : W2 = (w.alloc (.cells X 28)).alloc (.cells Y 28)
  x : X = (encM m).toArray
  y : Y = (encM n).toArray
  c1 : ConV w m.vc L
  c2 : ConV w n.vc L'
  i1 : InsV w m.vr R
  i2 : InsV w n.vr R'
theorem TwoK.b {w W2 : World} {m n : Msg} {X Y : Array Value} {L L' : List Con} {R R' : List Ins} (K : TwoK w W2 m n X Y L L' R R') : Below w.heap.size w W2 ∧ W2.heap.size = w.heap.size + 2 := by
  obtain ⟨_, _, hb⟩ := heap2 w (.cells X 28) (.cells Y 28)
  rw [K.w2]
  exact ⟨hb, by simp⟩
theorem TwoK.bel {w W2 W : World} {m n : Msg} {X Y : Array Value} {L L' : List Con} {R R' : List Ins} (K : TwoK w W2 m n X Y L L' R R') (hW : Below (w.heap.size + 2) W2 W) : Below w.heap.size w W ∧ w.heap.size + 2 ≤ W.heap.size := by
  have := hW.size
  have h := K.b
  exact ⟨h.1.trans (hW.mono (by omega)), by omega⟩
theorem TwoK.f1 {w W2 W : World} {m n : Msg} {X Y : Array Value} {L L' : List Con} {R R' : List Ins} (K : TwoK w W2 m n X Y L L' R R') (hW : Below (w.heap.size + 2) W2 W) : FldM W w.heap.size m := by
  obtain ⟨h1, _, _⟩ := heap2 w (.cells X 28) (.cells Y 28)
  rw [← K.w2, K.x] at h1
  exact fldM_below h1 hW (by omega)
theorem TwoK.f2 {w W2 W : World} {m n : Msg} {X Y : Array Value} {L L' : List Con} {R R' : List Ins} (K : TwoK w W2 m n X Y L L' R R') (hW : Below (w.heap.size + 2) W2 W) : FldM W (w.heap.size + 1) n := by
  obtain ⟨_, h2, _⟩ := heap2 w (.cells X 28) (.cells Y 28)
  rw [← K.w2, K.y] at h2
  exact fldM_below h2 hW (by omega)
theorem wenc_dark (m n : Msg) (k : Int) (L L' : List Con) (R R' : List Ins) (w W2 : World) (X Y : Array Value) (K : TwoK w W2 m n X Y L L' R R') (hR : R.length ≤ 9223372036854775807) (hR' : R'.length ≤ 9223372036854775807) (hl : (lightM L R && lightM L' R') = false) :
    Calls Tryz.prog 3 #[.agg X, .agg Y, .int .i64 k] w fun e w' => e = .returned (.bool true) ∧ Below w.heap.size w w' := by
  have HW := Lib.hid K.w2
  have HLM : Hid (∀ W, Below (w.heap.size + 2) W2 W → (loadVar 28 ⟨w.heap.size, 0, none⟩).run Tryz.prog W = .ok (.agg X) W) := Lib.hid (fun W hW => by rw [K.x]; exact (K.f1 hW).all)
  have HLN : Hid (∀ W, Below (w.heap.size + 2) W2 W → (loadVar 28 ⟨w.heap.size + 1, 0, none⟩).run Tryz.prog W = .ok (.agg Y) W) := Lib.hid (fun W hW => by rw [K.y]; exact (K.f2 hW).all)
  have H6m : Hid (∀ W, Below (w.heap.size + 2) W2 W → Calls Tryz.prog 6 #[.agg X] W fun e w' => e = .returned (.bool (lightM L R)) ∧ Below (w.heap.size + 2) W2 w') := Lib.hid (fun W hW => by
    rw [K.x]
    refine (mlight_any m L R W (K.c1.below (K.bel hW).1) (K.i1.below (K.bel hW).1) hR).mono ?_
    rintro e w' ⟨rfl, h⟩
    exact ⟨rfl, hW.trans (h.mono (K.bel hW).2)⟩)
  have H6n : Hid (∀ W, Below (w.heap.size + 2) W2 W → Calls Tryz.prog 6 #[.agg Y] W fun e w' => e = .returned (.bool (lightM L' R')) ∧ Below (w.heap.size + 2) W2 w') := Lib.hid (fun W hW => by
    rw [K.y]
    refine (mlight_any n L' R' W (K.c2.below (K.bel hW).1) (K.i2.below (K.bel hW).1) hR').mono ?_
    rintro e w' ⟨rfl, h⟩
    exact ⟨rfl, hW.trans (h.mono (K.bel hW).2)⟩)
  have H7 : Hid (∀ W, Below (w.heap.size + 2) W2 W → Calls Tryz.prog 7 #[] W fun e w' => e = .returned (.bool true) ∧ Below w.heap.size w w') := Lib.hid (fun W hW => (wlives_any W).mono (by
    rintro e w' ⟨rfl, h⟩
    exact ⟨rfl, (K.bel hW).1.trans (h.mono (K.bel hW).1.size)⟩))
  have HB := Lib.hid (Below.refl (w.heap.size + 2) W2)
  clear K
  cases h1 : lightM L R with
  | false =>
    rw [h1] at H6m
    go_enter Tryz.func3, Tryz.ntmps3
    go_upto_region 1 with fail
    rw [← HW.out]
    go_wp2_with (first
      | ((with_reducible refine wpList_loadV (op := ⟨some 12, _, _, _, _, _⟩) rfl 28 (.tmp 3) rfl _ ?_ _ (HLM.out _ HB.out) ?_); rfl)
      | (go_at_call 6; (with_reducible refine (H6m.out _ HB.out).mono ?_); rintro e w1 ⟨rfl, hb1⟩)
      | (go_at_call 7; (with_reducible refine (H7.out _ hb1).mono ?_); rintro e w2 ⟨rfl, hb2⟩))
    go_ret
    exact ⟨rfl, hb2⟩
  | true =>
    rw [h1, Bool.true_and] at hl
    rw [h1] at H6m
    rw [hl] at H6n
    go_enter Tryz.func3, Tryz.ntmps3
    go_upto_region 1 with fail
    rw [← HW.out]
    go_wp2_with (first
      | ((with_reducible refine wpList_loadV (op := ⟨some 12, _, _, _, _, _⟩) rfl 28 (.tmp 3) rfl _ ?_ _ (HLM.out _ HB.out) ?_); rfl)
      | (go_at_call 6; (with_reducible refine (H6m.out _ HB.out).mono ?_); rintro e w1 ⟨rfl, hb1⟩)
      | ((with_reducible refine wpList_loadG (o := ⟨some 16, _, _, _, _, _⟩) rfl 28 (.tmp 4) rfl _ ?_ _ (HLN.out _ hb1) ?_); rfl)
      | (go_at_call 6; (with_reducible refine (H6n.out _ hb1).mono ?_); rintro e w3 ⟨rfl, hb3⟩)
      | (go_at_call 7; (with_reducible refine (H7.out _ hb3).mono ?_); rintro e w2 ⟨rfl, hb2⟩))
    go_ret
    exact ⟨rfl, hb2⟩
/-- What the callees answer, where both are light. -/
theorem wenc_main (m n : Msg) (k : Int) (hk : -9223372036854775808 ≤ k ∧ k ≤ 9223372036854775807) (L L' : List Con) (R R' : List Ins) (w W2 : World) (X Y : Array Value) (K : TwoK w W2 m n X Y L L' R R') (hl : lightM L R = true) (hl' : lightM L' R' = true) :
    Calls Tryz.prog 3 #[.agg X, .agg Y, .int .i64 k] w fun e w' => e = .returned (.bool true) ∧ Below w.heap.size w w' := by
  obtain ⟨z1, z2, z3⟩ := lightM_len hl
  obtain ⟨z1', z2', z3'⟩ := lightM_len hl'
  have ht : ∀ x ∈ R, x.tgt.length ≤ 100000 := fun x hx => by have := z3 x hx; omega
  have HW := Lib.hid K.w2
  have HLM : Hid (∀ W, Below (w.heap.size + 2) W2 W → (loadVar 28 ⟨w.heap.size, 0, none⟩).run Tryz.prog W = .ok (.agg X) W) := Lib.hid (fun W hW => by rw [K.x]; exact (K.f1 hW).all)
  have HLN : Hid (∀ W, Below (w.heap.size + 2) W2 W → (loadVar 28 ⟨w.heap.size + 1, 0, none⟩).run Tryz.prog W = .ok (.agg Y) W) := Lib.hid (fun W hW => by rw [K.y]; exact (K.f2 hW).all)
  have HNF : Hid (∀ W, Below (w.heap.size + 2) W2 W → (loadVar 24 ⟨w.heap.size + 1, 2, none⟩).run Tryz.prog W = .ok (.agg (bcells n.frm).toArray) W) := Lib.hid (fun W hW => (K.f2 hW).frm)
  have HMK : Hid (∀ W, Below (w.heap.size + 2) W2 W → (loadVar 24 ⟨w.heap.size, 22, none⟩).run Tryz.prog W = .ok (.agg (bcells m.key).toArray) W) := Lib.hid (fun W hW => (K.f1 hW).key)
  have HKI : Hid (∀ W, Below (w.heap.size + 2) W2 W → W.cell? ⟨w.heap.size, 0, none⟩ = some (.int .i64 m.kind) ∧ W.cell? ⟨w.heap.size, 1, none⟩ = some (.int .u32 (m.txn : Int))) := Lib.hid (fun W hW => ⟨(K.f1 hW).kind, (K.f1 hW).txn⟩)
  have HSZ : Hid (∀ W, Below (w.heap.size + 2) W2 W → w.heap.size + 2 ≤ W.heap.size ∧ Below w.heap.size w W) := Lib.hid (fun W hW => ⟨(K.bel hW).2, (K.bel hW).1⟩)
  have H6m : Hid (∀ W, Below (w.heap.size + 2) W2 W → Calls Tryz.prog 6 #[.agg X] W fun e w' => e = .returned (.bool true) ∧ Below (w.heap.size + 2) W2 w') := Lib.hid (fun W hW => by
    rw [K.x, ← hl]
    refine (mlight_any m L R W (K.c1.below (K.bel hW).1) (K.i1.below (K.bel hW).1) (by omega)).mono ?_
    rintro e w' ⟨rfl, h⟩
    exact ⟨rfl, hW.trans (h.mono (K.bel hW).2)⟩)
  have H6n : Hid (∀ W, Below (w.heap.size + 2) W2 W → Calls Tryz.prog 6 #[.agg Y] W fun e w' => e = .returned (.bool true) ∧ Below (w.heap.size + 2) W2 w') := Lib.hid (fun W hW => by
    rw [K.y, ← hl']
    refine (mlight_any n L' R' W (K.c2.below (K.bel hW).1) (K.i2.below (K.bel hW).1) (by omega)).mono ?_
    rintro e w' ⟨rfl, h⟩
    exact ⟨rfl, hW.trans (h.mono (K.bel hW).2)⟩)
  have HEN : Hid (∀ f, f = 8 ∨ f = 9 → ∀ W, Below (w.heap.size + 2) W2 W → Calls Tryz.prog f #[.agg X] W fun e w' => ∃ A c, e = .returned (.tuple #[.slice A (bytesM m.kind m.txn m.frm m.key L R).length c, .int .i64 (errM (goodM m.kind m.key L R))]) ∧ IsB (.slice A (bytesM m.kind m.txn m.frm m.key L R).length c) (bytesM m.kind m.txn m.frm m.key L R) w' ∧ Below W.heap.size W w') := Lib.hid (fun f hf W hW => by
    have h : Calls Tryz.prog f #[.agg X] W (EncIs W m L R) := by
      rw [K.x]
      rcases hf with rfl | rfl
      · exact encode_any m L R W (K.c1.below (K.bel hW).1) (K.i1.below (K.bel hW).1) (by omega) ht
      · exact mrencode_any m L R W (K.c1.below (K.bel hW).1) (K.i1.below (K.bel hW).1) (by omega) (by omega) ht
    refine h.mono ?_
    rintro e w' ⟨A, c, rfl, hq, hA, hb⟩
    exact ⟨A, c, rfl, ⟨A, c, rfl, hq, hA⟩, hb⟩)
  have H8 := Lib.hid (HEN.out 8 (.inl rfl))
  have H9 := Lib.hid (HEN.out 9 (.inr rfl))
  have H10 : Hid (∀ W, Calls Tryz.prog 10 #[.agg X, .int .i64 k, .agg (bcells n.frm).toArray] W fun e w' => e = .returned (.agg (encMr k m.txn n.frm m.key (.slice none 0 0) (.slice none 0 0)).toArray) ∧ Below W.heap.size W w') := Lib.hid (fun W => by rw [K.x]; exact reply_any m k n.frm n.hf W)
  have H11 : Hid (∀ W, Below (w.heap.size + 2) W2 W → Calls Tryz.prog 11 #[.agg X] W fun e w' => e = .returned (.bool (goodM m.kind m.key L R)) ∧ Below W.heap.size W w') := Lib.hid (fun W hW => by
    rw [K.x]
    exact mgood_any m L R W (K.c1.below (K.bel hW).1) (K.i1.below (K.bel hW).1) (by omega) ht)
  have H12 : Hid (∀ W, Below (w.heap.size + 2) W2 W → Calls Tryz.prog 12 #[.agg X] W fun e w' => e = .returned (.bool (goodM m.kind m.key L R)) ∧ Below W.heap.size W w') := Lib.hid (fun W hW => by
    rw [K.x]
    exact mrgood_any m L R W (K.c1.below (K.bel hW).1) (K.i1.below (K.bel hW).1) (by omega) (by omega) ht)
  have same0 : ∀ {f : FuncId} {args : Array Value} {v : Value}, (∀ W, Calls Tryz.prog f args W fun e w' => e = .returned v ∧ w' = W) → ∀ W, Calls Tryz.prog f args W fun e w' => e = .returned v ∧ Below W.heap.size W w' := fun h W => (h W).mono (by
    rintro e w' ⟨rfl, rfl⟩
    exact ⟨rfl, Below.refl _ _⟩)
  have H13 := Lib.hid (same0 (request_any k))
  have H14 := Lib.hid (same0 (rrequest_any k))
  have H15 := Lib.hid (same0 (answers_any m.kind k))
  have H16 := Lib.hid (same0 (ranswers_any m.kind k))
  have H17 : Hid (∀ W, Below (w.heap.size + 2) W2 W → Calls Tryz.prog 17 #[.agg X, .agg Y] W fun e w' => e = .returned (.bool (sameM m n L L' R R')) ∧ Below W.heap.size W w') := Lib.hid (fun W hW => by
    rw [K.x, K.y]
    exact msame_any m n L L' R R' W (K.c1.below (K.bel hW).1) (K.i1.below (K.bel hW).1) (K.c2.below (K.bel hW).1) (K.i2.below (K.bel hW).1) (by omega) (by omega))
  have H18 : Hid (∀ W, Below (w.heap.size + 2) W2 W → Calls Tryz.prog 18 #[.agg X, .agg Y] W fun e w' => e = .returned (.bool (sameM m n L L' R R')) ∧ Below W.heap.size W w') := Lib.hid (fun W hW => by
    rw [K.x, K.y]
    exact mrsame_any m n L L' R R' W (K.c1.below (K.bel hW).1) (K.i1.below (K.bel hW).1) (K.c2.below (K.bel hW).1) (K.i2.below (K.bel hW).1) (by omega) (by omega))
  have H17s : Hid (∀ W, Below (w.heap.size + 2) W2 W → Calls Tryz.prog 17 #[.agg X, .agg X] W fun e w' => e = .returned (.bool true) ∧ Below W.heap.size W w') := Lib.hid (fun W hW => by
    rw [K.x, ← sameM_self m L R]
    exact msame_any m m L L R R W (K.c1.below (K.bel hW).1) (K.i1.below (K.bel hW).1) (K.c1.below (K.bel hW).1) (K.i1.below (K.bel hW).1) (by omega) (by omega))
  have H18s : Hid (∀ W, Calls Tryz.prog 18 #[.agg (encMr k m.txn n.frm m.key (.slice none 0 0) (.slice none 0 0)).toArray, .agg (encMr k m.txn n.frm m.key (.slice none 0 0) (.slice none 0 0)).toArray] W fun e w' => e = .returned (.bool true) ∧ Below W.heap.size W w') := Lib.hid (fun W => by
    rw [← sameM_self (replyM m k hk n.frm n.hf) [] []]
    exact mrsame_any (replyM m k hk n.frm n.hf) (replyM m k hk n.frm n.hf) [] [] [] [] W (conV_nil W) (insV_nil W) (conV_nil W) (insV_nil W) (by simp) (by simp))
  have H7 := Lib.hid wlives_any
  have HBU := Lib.hid (fun W => run_build28r k m.txn n.frm m.key n.hf m.hy W)
  have hrl := encMr_length (k := k) (t := m.txn) (vc := .slice none 0 0) (vr := .slice none 0 0) n.hf m.hy
  have hro : ∀ v ∈ encMr k m.txn n.frm m.key (.slice none 0 0) (.slice none 0 0), v.oneCell' = true := encMr_one rfl rfl
  obtain ⟨rs, hrs⟩ : ∃ rs, rs = encMr k m.txn n.frm m.key (.slice none 0 0) (.slice none 0 0) := ⟨_, rfl⟩
  rw [← hrs] at H10 H18s HBU hrl hro
  have HRL := Lib.hid hrl
  have HRO := Lib.hid hro
  have HZ := Lib.hid (encM_length zeroM)
  have HR28 : Hid (∀ (W W' : World) (g : Nat), W.heap[g]? = some (.cells rs.toArray 28 (0, 0)) → Below W.heap.size W W' → (loadVar 28 ⟨g, 0, none⟩).run Tryz.prog W' = .ok (.agg rs.toArray) W') := Lib.hid (fun W W' g h hb => run_loadVar_mid W' g 0 28 rs _ (row_range ((hb.block _ (Array.getElem?_eq_some_iff.1 h).1).trans h)) Tryz.underlying28 rfl (by rw [HRL.out]; exact size28m))
  have HB0 := Lib.hid (Below.refl (w.heap.size + 2) W2)
  clear K same0 hrs hrl hro ht z1 z2 z3 z1' z2' z3' hl hl' HEN
  generalize (bcells n.frm).toArray = NF at *
  generalize (bcells m.key).toArray = KX at *
  generalize errM (goodM m.kind m.key L R) = er at *
  generalize goodM m.kind m.key L R = gd at *
  generalize sameM m n L L' R R' = sm at *
  generalize reqM k = rq at *
  generalize ansM m.kind k = an at *
  generalize m.kind = mk at *
  generalize m.txn = tx at *
  obtain ⟨BB, hBB⟩ : ∃ BB, BB = bytesM mk tx m.frm m.key L R := ⟨_, rfl⟩
  rw [← hBB] at H8 H9
  clear hBB
  go_enter Tryz.func3, Tryz.ntmps3
  go_upto_region 1 with fail
  rw [← HW.out]
  go_upto_region 6 with (first
    | ((with_reducible refine wpList_loadV (op := ⟨some 12, _, _, _, _, _⟩) rfl 28 (.tmp 3) rfl _ ?_ _ (HLM.out _ HB0.out) ?_); rfl)
    | (go_at_call 6; (with_reducible refine (H6m.out _ HB0.out).mono ?_); rintro e w1 ⟨rfl, hb1⟩)
    | ((with_reducible refine wpList_loadG (o := ⟨some 16, _, _, _, _, _⟩) rfl 28 (.tmp 4) rfl _ ?_ _ (HLN.out _ hb1) ?_); rfl)
    | (go_at_call 6; (with_reducible refine (H6n.out _ hb1).mono ?_); rintro e w2 ⟨rfl, hb2⟩)
    | ((with_reducible refine wpList_loadV (op := ⟨some 22, _, _, _, _, _⟩) rfl 28 (.tmp 3) rfl _ ?_ _ (HLM.out _ hb2) ?_); rfl)
    | (go_at_call 8; (with_reducible refine (H8.out _ hb2).mono ?_); rintro e w3 ⟨A3, c3, rfl, hi3, hk3⟩; have hb3 := hb2.trans (hk3.mono (HSZ.out _ hb2).1))
    | ((with_reducible refine wpList_loadV (op := ⟨some 27, _, _, _, _, _⟩) rfl 28 (.tmp 3) rfl _ ?_ _ (HLM.out _ hb3) ?_); rfl)
    | (go_at_call 9; (with_reducible refine (H9.out _ hb3).mono ?_); rintro e w4 ⟨A4, c4, rfl, hi4, hk4⟩; have hb4 := hb3.trans (hk4.mono (HSZ.out _ hb3).1); have hi3b := hi3.below hk4)
    | ((with_reducible refine wpList_loadV (op := ⟨some 31, _, _, _, _, _⟩) rfl 28 (.tmp 3) rfl _ ?_ _ (HLM.out _ hb4) ?_); rfl)
    | ((with_reducible refine wpList_loadV (op := ⟨some 34, _, _, _, _, _⟩) rfl 24 (.tmp 33) rfl _ ?_ _ (HNF.out _ hb4) ?_); rfl)
    | (go_at_call 10; (with_reducible refine (H10.out _).mono ?_); rintro e w5 ⟨rfl, hk5⟩)
    | (with_reducible refine wpList_allocM (o := ⟨some 11, _, _, _, _, _⟩) w5.heap.size rfl rfl 11 rfl rfl ?_)
    | ((with_reducible refine wpList_storeMn (o := ⟨none, _, _, _, _, _⟩) rfl (.tmp 11) (.tmp 35) rfl w5.heap.size rfl (encM zeroM) rs HZ.out HRL.out HRO.out ?_ ?_ ?_); rfl; rfl))
  have hk6 : Below w4.heap.size w4 (w5.alloc (.cells rs.toArray 28)) := hk5.trans (((Below.refl w5.heap.size w5).alloc (Nat.le_refl _) _).mono hk5.size)
  have hb6 := hb4.trans (hk6.mono (HSZ.out _ hb4).1)
  have hi3c := hi3b.below hk6
  have hi4c := hi4.below hk6
  have hn6 := heap_alloc_new w5 (.cells rs.toArray 28)
  generalize w5.heap.size = k11 at *
  generalize w5.alloc (.cells rs.toArray 28) = W6 at *
  have HB6 := Lib.hid hb6
  have HKE : Hid (∀ q : Kept W6.heap.size W6, Below (w.heap.size + 2) W2 q.val) := Lib.hid (fun q => HB6.out.trans (q.property.mono (HSZ.out _ HB6.out).1))
  have HV1 : Hid (∀ q : Kept W6.heap.size W6, (convert 31 9 (.slice A3 BB.length c3)).run Tryz.prog q.val = .ok (.string (bstr BB)) q.val) := Lib.hid (fun q => (hi3c.below q.property).conv)
  have HV2 : Hid (∀ q : Kept W6.heap.size W6, (convert 31 9 (.slice A4 BB.length c4)).run Tryz.prog q.val = .ok (.string (bstr BB)) q.val) := Lib.hid (fun q => (hi4c.below q.property).conv)
  have HQ3 : Hid (∀ q : Kept W6.heap.size W6, (loadVar 28 ⟨w.heap.size, 0, none⟩).run Tryz.prog q.val = .ok (.agg X) q.val) := Lib.hid (fun q => HLM.out _ (HKE.out q))
  have HQ4 : Hid (∀ q : Kept W6.heap.size W6, (loadVar 28 ⟨w.heap.size + 1, 0, none⟩).run Tryz.prog q.val = .ok (.agg Y) q.val) := Lib.hid (fun q => HLN.out _ (HKE.out q))
  have HQR : Hid (∀ q : Kept W6.heap.size W6, (loadVar 28 ⟨k11, 0, none⟩).run Tryz.prog q.val = .ok (.agg rs.toArray) q.val) := Lib.hid (fun q => HR28.out W6 _ _ hn6 q.property)
  have HQF : Hid (∀ q : Kept W6.heap.size W6, (loadVar 24 ⟨w.heap.size + 1, 2, none⟩).run Tryz.prog q.val = .ok (.agg NF) q.val) := Lib.hid (fun q => HNF.out _ (HKE.out q))
  have HQK : Hid (∀ q : Kept W6.heap.size W6, (loadVar 24 ⟨w.heap.size, 22, none⟩).run Tryz.prog q.val = .ok (.agg KX) q.val) := Lib.hid (fun q => HMK.out _ (HKE.out q))
  have HQB : Hid (∀ q : Kept W6.heap.size W6, (Instr.build 28 #[(0, .int .i64 k), (1, .int .u32 (tx : Int)), (2, .agg NF), (3, .agg KX)]).run Tryz.prog q.val = .ok (.agg rs.toArray) q.val) := Lib.hid (fun q => HBU.out q.val)
  have HC0 : Hid (∀ q : Kept W6.heap.size W6, q.val.cell? ⟨w.heap.size, 0, none⟩ = some (.int .i64 mk)) := Lib.hid (fun q => (HKI.out _ (HKE.out q)).1)
  have HC1 : Hid (∀ q : Kept W6.heap.size W6, q.val.cell? ⟨w.heap.size, 1, none⟩ = some (.int .u32 (tx : Int))) := Lib.hid (fun q => (HKI.out _ (HKE.out q)).2)
  have K11 := Lib.hid (fun q => kept_ofS (Nat.le_refl _) (fun z : Kept W6.heap.size W6 => H11.out _ (HKE.out z)) q)
  have K12 := Lib.hid (fun q => kept_ofS (Nat.le_refl _) (fun z : Kept W6.heap.size W6 => H12.out _ (HKE.out z)) q)
  have K13 := Lib.hid (fun q => kept_of (B := W6.heap.size) (W0 := W6) (Nat.le_refl _) H13.out q)
  have K14 := Lib.hid (fun q => kept_of (B := W6.heap.size) (W0 := W6) (Nat.le_refl _) H14.out q)
  have K15 := Lib.hid (fun q => kept_of (B := W6.heap.size) (W0 := W6) (Nat.le_refl _) H15.out q)
  have K16 := Lib.hid (fun q => kept_of (B := W6.heap.size) (W0 := W6) (Nat.le_refl _) H16.out q)
  have K17 := Lib.hid (fun q => kept_ofS (Nat.le_refl _) (fun z : Kept W6.heap.size W6 => H17.out _ (HKE.out z)) q)
  have K18 := Lib.hid (fun q => kept_ofS (Nat.le_refl _) (fun z : Kept W6.heap.size W6 => H18.out _ (HKE.out z)) q)
  have K17s := Lib.hid (fun q => kept_ofS (Nat.le_refl _) (fun z : Kept W6.heap.size W6 => H17s.out _ (HKE.out z)) q)
  have K18s := Lib.hid (fun q => kept_of (B := W6.heap.size) (W0 := W6) (Nat.le_refl _) H18s.out q)
  have K7 := Lib.hid (fun q => kept_of (B := W6.heap.size) (W0 := W6) (Nat.le_refl _) H7.out q)
  have HFE : Hid (∀ W, Below W6.heap.size W6 W → Below w.heap.size w W) := Lib.hid (fun W h => (HSZ.out _ (HB6.out.trans (h.mono (HSZ.out _ HB6.out).1))).2)
  clear hb1 hb2 hb3 hb4 hb6 hk3 hk4 hk5 hk6 hi3 hi3b hi4 hi3c hi4c hn6 HLM HLN HNF HMK HKI H6m H6n H8 H9 H10 H11 H12 H13 H14 H15 H16 H17 H18 H17s H18s H7 HBU HR28 HRL HRO HKE HSZ HB6 HB0
  generalize bstr BB = BS at *
  generalize BB.length = bl at *
  generalize rs.toArray = RX at *
  refine wp_region_kept W6.heap.size W6 (Below.refl _ _) (by kernel_rfl) (by kernel_rfl) ?_
  have hc0 := HC0.out
  (try simp only [Act.put, List.setIfInBounds_toArray, List.set_cons_zero, List.set_cons_succ])
  repeat (first
      | (go_big_quiet_want; (with_reducible refine quiet_convV (o := ⟨some 37, _, _, _, _, _⟩) 31 9 (.tmp 36) rfl _ _ ?_ HV1.out ?_); rfl; simp only [Act.put, List.setIfInBounds_toArray, List.set_cons_zero, List.set_cons_succ]; go_big_quiet_on)
      | (go_big_quiet_want; (with_reducible refine quiet_convV (o := ⟨some 39, _, _, _, _, _⟩) 31 9 (.tmp 38) rfl _ _ ?_ HV2.out ?_); rfl; simp only [Act.put, List.setIfInBounds_toArray, List.set_cons_zero, List.set_cons_succ]; go_big_quiet_on)
      | (go_big_quiet_want; (with_reducible refine quiet_loadV (o := ⟨some 47, _, _, _, _, _⟩) 28 (.tmp 3) rfl _ ?_ _ HQ3.out ?_); rfl; simp only [Act.put, List.setIfInBounds_toArray, List.set_cons_zero, List.set_cons_succ]; go_big_quiet_on)
      | (go_big_quiet_want; (with_reducible refine quiet_loadV (o := ⟨some 49, _, _, _, _, _⟩) 28 (.tmp 3) rfl _ ?_ _ HQ3.out ?_); rfl; simp only [Act.put, List.setIfInBounds_toArray, List.set_cons_zero, List.set_cons_succ]; go_big_quiet_on)
      | go_big_quiet_step (first | (go_at_call 11; with_reducible exact K11.out _) | (go_at_call 12; with_reducible exact K12.out _) | (go_at_call 13; with_reducible exact K13.out _) | (go_at_call 14; with_reducible exact K14.out _) | (go_at_call 15; with_reducible exact K15.out _) | (go_at_call 16; with_reducible exact K16.out _)))
  refine wpQuiet_nil ?_
  rintro wk ⟨⟨_, hwk⟩, rfl⟩
  have HWK := Lib.hid hwk
  clear hwk hc0
  go_upto_region 8 with fail
  refine wp_region_kept W6.heap.size W6 HWK.out (by kernel_rfl) (by kernel_rfl) ?_
  have hc1 := HC1.out
  (try simp only [Act.put, List.setIfInBounds_toArray, List.set_cons_zero, List.set_cons_succ])
  repeat (first
      | (go_big_quiet_want; (with_reducible refine quiet_loadV (o := ⟨some 71, _, _, _, _, _⟩) 28 (.tmp 3) rfl _ ?_ _ HQ3.out ?_); rfl; simp only [Act.put, List.setIfInBounds_toArray, List.set_cons_zero, List.set_cons_succ]; go_big_quiet_on)
      | (go_big_quiet_want; (with_reducible refine quiet_loadV (o := ⟨some 72, _, _, _, _, _⟩) 28 (.tmp 4) rfl _ ?_ _ HQ4.out ?_); rfl; simp only [Act.put, List.setIfInBounds_toArray, List.set_cons_zero, List.set_cons_succ]; go_big_quiet_on)
      | (go_big_quiet_want; (with_reducible refine quiet_loadV (o := ⟨some 74, _, _, _, _, _⟩) 28 (.tmp 3) rfl _ ?_ _ HQ3.out ?_); rfl; simp only [Act.put, List.setIfInBounds_toArray, List.set_cons_zero, List.set_cons_succ]; go_big_quiet_on)
      | (go_big_quiet_want; (with_reducible refine quiet_loadV (o := ⟨some 75, _, _, _, _, _⟩) 28 (.tmp 4) rfl _ ?_ _ HQ4.out ?_); rfl; simp only [Act.put, List.setIfInBounds_toArray, List.set_cons_zero, List.set_cons_succ]; go_big_quiet_on)
      | (go_big_quiet_want; (with_reducible refine quiet_loadV (o := ⟨some 79, _, _, _, _, _⟩) 28 (.tmp 3) rfl _ ?_ _ HQ3.out ?_); rfl; simp only [Act.put, List.setIfInBounds_toArray, List.set_cons_zero, List.set_cons_succ]; go_big_quiet_on)
      | (go_big_quiet_want; (with_reducible refine quiet_loadV (o := ⟨some 80, _, _, _, _, _⟩) 28 (.tmp 3) rfl _ ?_ _ HQ3.out ?_); rfl; simp only [Act.put, List.setIfInBounds_toArray, List.set_cons_zero, List.set_cons_succ]; go_big_quiet_on)
      | (go_big_quiet_want; (with_reducible refine quiet_loadV (o := ⟨some 84, _, _, _, _, _⟩) 28 (.tmp 11) rfl _ ?_ _ HQR.out ?_); rfl; simp only [Act.put, List.setIfInBounds_toArray, List.set_cons_zero, List.set_cons_succ]; go_big_quiet_on)
      | (go_big_quiet_want; (with_reducible refine quiet_loadV (o := ⟨some 89, _, _, _, _, _⟩) 24 (.tmp 88) rfl _ ?_ _ HQF.out ?_); rfl; simp only [Act.put, List.setIfInBounds_toArray, List.set_cons_zero, List.set_cons_succ]; go_big_quiet_on)
      | (go_big_quiet_want; (with_reducible refine quiet_loadV (o := ⟨some 91, _, _, _, _, _⟩) 24 (.tmp 90) rfl _ ?_ _ HQK.out ?_); rfl; simp only [Act.put, List.setIfInBounds_toArray, List.set_cons_zero, List.set_cons_succ]; go_big_quiet_on)
      | (go_big_quiet_want; (with_reducible refine quiet_buildV (o := ⟨some 92, _, _, _, _, _⟩) 28 _ rfl _ ?_ _ HQB.out ?_); (simp only [List.map_toArray, List.map_cons, List.map_nil]; rfl); simp only [Act.put, List.setIfInBounds_toArray, List.set_cons_zero, List.set_cons_succ]; go_big_quiet_on)
      | go_big_quiet_step (first | (go_at_call 17; with_reducible exact K17.out _) | (go_at_call 18; with_reducible exact K18.out _) | (go_at_call 17; with_reducible exact K17s.out _) | (go_at_call 18; with_reducible exact K18s.out _) | (go_at_call 7; with_reducible exact K7.out _)))
  refine wpQuiet_nil ?_
  rintro wm ⟨⟨_, hwm⟩, rfl⟩
  have HWM := Lib.hid (HFE.out _ hwm)
  clear hwm
  go_wp2
  go_ret
  exact ⟨by simp, HWM.out⟩
theorem wenc_walk (m n : Msg) (k : Int) (hk : -9223372036854775808 ≤ k ∧ k ≤ 9223372036854775807) (L L' : List Con) (R R' : List Ins) (w : World) (c1 : ConV w m.vc L) (c2 : ConV w n.vc L') (i1 : InsV w m.vr R) (i2 : InsV w n.vr R') (hR : R.length ≤ 9223372036854775807) (hR' : R'.length ≤ 9223372036854775807) :
    Calls Tryz.prog 3 #[.agg (encM m).toArray, .agg (encM n).toArray, .int .i64 k] w fun e w' => e = .returned (.bool true) ∧ Below w.heap.size w w' := by
  have K : TwoK w _ m n _ _ L L' R R' := ⟨rfl, rfl, rfl, c1, c2, i1, i2⟩
  cases h : (lightM L R && lightM L' R') with
  | false => exact wenc_dark m n k L L' R R' w _ _ _ K hR hR' h
  | true =>
    rw [Bool.and_eq_true] at h
    exact wenc_main m n k hk L L' R R' w _ _ _ K h.1 h.2
end Go.Proofs.YtehgpnnfjgmiiaaGreat
end
