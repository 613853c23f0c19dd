/- Encode of the reference. Conditions: at most 10,000 contacts and instances, targets of at most 100,000 bytes. -/
import Derived.Test.YtehgpnnfjgmiiaaGreatXWag
import Derived.Test.YtehgpnnfjgmiiaaGreatXWaf
import Derived.Test.YtehgpnnfjgmiiaaGreatXNCrd
import Derived.Test.YtehgpnnfjgmiiaaGreatXOja
namespace Go.Proofs.YtehgpnnfjgmiiaaGreat
open Go.Shelf Go.RowKit Go.Lib Go.Great
set_option maxRecDepth 100000
set_option maxHeartbeats 2000000
theorem run_pair8 (a b : Int) (W : World) : (Instr.buildSlice 31 2 #[(0, .int .u8 a), (1, .int .u8 b)]).run Tryz.prog W = .ok (.slice (some ⟨W.heap.size, 0, none⟩) 2 2) (W.alloc (.cells #[.int .u8 a, .int .u8 b] 5)) := by kernel_rfl
theorem wpList_pair8 {ops : Array Oper} {rest : List Oper} {o : Oper} {act : Act} {w : World} {Q : Exit → Act → World → Prop} (hgd : o.guard = none) (d : Nat) (hd : o.dst = some d) (x y : Operand) (ho : o.op = .buildSlice 31 2 #[(0, x), (1, y)]) (a b : Int)
    (hx : act.eval x = .int .u8 a) (hy : act.eval y = .int .u8 b)
    (h : wpList Tryz.prog ops Q rest (act.put (some d) (.slice (some ⟨w.heap.size, 0, none⟩) 2 2)) (w.alloc (.cells #[.int .u8 a, .int .u8 b] 5))) : wpList Tryz.prog ops Q (o :: rest) act w :=
  wpList_plain hgd fun _ hK => by
    unfold Oper.wp execOp
    simp only [ho, List.map_toArray, List.map_cons, List.map_nil, hx, hy, Sem.run_bind, run_pair8, Result.andThen_ok, Sem.run_pure]
    rw [← hd] at h
    exact hK _ _ h
theorem rencode_bad (m : Msg) (w : World) (HG : Hid (∀ W, EncW w m W → Calls Tryz.prog 12 #[.agg (encM m).toArray] W fun e W' => e = .returned (.bool false) ∧ EncW w m W')) : Calls Tryz.prog 9 #[.agg (encM m).toArray] w fun e w' => e = .returned (.tuple #[.slice none 0 0, .int .i64 2]) ∧ Below w.heap.size w w' := by
  have HK := Lib.hid ((EncW.start w m).fld.all)
  have HS := Lib.hid (EncW.start w m)
  have HE : Hid (∀ W, EncW w m W → Below w.heap.size w W) := Lib.hid (fun W h => h.be)
  generalize (encM m).toArray = X at *
  go_enter Tryz.func9, Tryz.ntmps9
  go_wp2_with (first
    | ((with_reducible refine wpList_loadV (op := ⟨some 9, _, _, _, _, _⟩) rfl 28 (.tmp 1) rfl _ ?_ _ HK.out ?_); rfl)
    | (go_at_call 12; (with_reducible refine (HG.out _ HS.out).mono ?_); rintro e w1 ⟨rfl, r1⟩))
  refine bodyPost_ret (results_2b rfl _ _ _ _ rfl rfl) rfl ?_
  exact ⟨rfl, HE.out _ r1⟩
/-- What a good message's encoding asks of the calls. -/
structure RenK (w : World) (m : Msg) (kN : Nat) (ky ls : Bool) (V1 V2 : Value) (T : List UInt8) : Prop where
  kind : m.kind = (kN : Int)
  k9 : kN ≤ 9
  c12 : ∀ W, EncW w m W → Calls Tryz.prog 12 #[.agg (encM m).toArray] W fun e W' => e = .returned (.bool true) ∧ EncW w m W'
  c27 : ∀ W, Calls Tryz.prog 27 #[.int .i64 (kN : Int)] W fun e w' => e = .returned (.bool ky) ∧ w' = W
  c30 : ∀ W, Calls Tryz.prog 30 #[.int .i64 (kN : Int)] W fun e w' => e = .returned (.bool ls) ∧ w' = W
  v1 : m.vc = V1
  v2 : m.vr = V2
  tl : T.length ≤ 90000
theorem rencode_a (m : Msg) (kN : Nat) (h6 : ¬ kN = 6) (A1 A2 : Option Addr) (n1 n2 q1 q2 : Nat) (T : List UInt8) (hT0 : T = []) (w : World) (K : RenK w m kN false false (.slice A1 n1 q1) (.slice A2 n2 q2) T)
    : Calls Tryz.prog 9 #[.agg (encM m).toArray] w fun e w' => ∃ A c, e = .returned (.tuple #[.slice A (putB 1 1 ++ putB kN 1 ++ putB m.txn 4 ++ m.frm ++ [] ++ T).length c, .int .i64 0]) ∧ (putB 1 1 ++ putB kN 1 ++ putB m.txn 4 ++ m.frm ++ [] ++ T).length ≤ c ∧ BAt w' w'.heap.size A (putB 1 1 ++ putB kN 1 ++ putB m.txn 4 ++ m.frm ++ [] ++ T) ∧ Below w.heap.size w w' := by
  have hkN := K.kind
  have hk9 := K.k9
  have hT := K.tl
  have HG := Lib.hid K.c12
  have H27 := Lib.hid K.c27
  have H30 := Lib.hid K.c30
  have HV1 := Lib.hid K.v1
  have HV2 := Lib.hid K.v2
  clear K
  have HK0 := Lib.hid ((EncW.start w m).fld.all)
  have HS := Lib.hid (EncW.start w m)
  have HE : Hid (∀ W, EncW w m W → Below w.heap.size w W) := Lib.hid (fun W h => h.be)
  have HKI : Hid (∀ W, EncW w m W → W.cell? ⟨w.heap.size, 0, none⟩ = some (.int .i64 (kN : Int))) := Lib.hid (fun W r => by rw [← hkN]; exact r.fld.kind)
  have HTX : Hid (∀ W, EncW w m W → W.cell? ⟨w.heap.size, 1, none⟩ = some (.int .u32 (m.txn : Int))) := Lib.hid (fun W r => r.fld.txn)
  have HCO : Hid (∀ W, EncW w m W → W.cell? ⟨w.heap.size, 42, none⟩ = some (.slice A1 n1 q1)) := Lib.hid (fun W r => by rw [← HV1.out]; exact r.fld.con)
  have HRO : Hid (∀ W, EncW w m W → W.cell? ⟨w.heap.size, 43, none⟩ = some (.slice A2 n2 q2)) := Lib.hid (fun W r => by rw [← HV2.out]; exact r.fld.ros)
  have HFS : Hid (∀ W, EncW w m W → Src Tryz.prog 1 31 (.slice (some ⟨w.heap.size, 2, none⟩) 20 20) m.frm.length (bcells m.frm) W) := Lib.hid (fun W r => r.frmS)
  have HYS : Hid (∀ W, EncW w m W → Src Tryz.prog 1 31 (.slice (some ⟨w.heap.size, 22, none⟩) 20 20) m.key.length (bcells m.key) W) := Lib.hid (fun W r => r.keyS)
  have tb := m.ht
  have hf := m.hf
  have hy := m.hy
  have hw1 : (kN : Int) % 256 = (kN : Int) := by omega
  have hw2 : (m.txn : Int) % 18446744073709551616 = (m.txn : Int) := by omega
  obtain ⟨b2, e2⟩ : ∃ b, b = putB 1 1 ++ putB kN 1 := ⟨_, rfl⟩
  obtain ⟨b3, e3⟩ : ∃ b, b = b2 ++ putB m.txn 4 := ⟨_, rfl⟩
  obtain ⟨b4, e4⟩ : ∃ b, b = b3 ++ m.frm := ⟨_, rfl⟩
  obtain ⟨b5, e5⟩ : ∃ b, b = b4 ++ ([] : List UInt8) := ⟨_, rfl⟩
  obtain ⟨b6, e6⟩ : ∃ b, b = b5 ++ T := ⟨_, rfl⟩
  have l2 : b2.length = 2 := by rw [e2, List.length_append, putB_length, putB_length]
  have l3 : b3.length = 6 := by rw [e3, List.length_append, l2, putB_length]
  have l4 : b4.length = 26 := by rw [e4, List.length_append, l3, hf]
  have l5 : b5.length ≤ 46 := by rw [e5, List.length_append, l4]; simp
  have c2 : bcells b2 = [.int .u8 1, .int .u8 (kN : Int)] := by
    rw [e2]
    have h1 : putB 1 1 = [1] := by decide
    have h2 : putB kN 1 = [UInt8.ofNat kN] := by simp [putB]
    rw [h1, h2]
    have h3 : (UInt8.ofNat kN).toNat = kN := by simp; omega
    simp [bcells, h3]
  have HB2 : Hid (∀ W, EncW w m W → EncW w m (W.alloc (.cells #[.int .u8 1, .int .u8 (kN : Int)] 5))) := Lib.hid (fun W r => r.bel ((Below.refl _ W).alloc (Nat.le_refl _) _))
  have C3 : Hid (∀ W, EncW w m W → Calls Tryz.prog 26 #[.slice (some ⟨W.heap.size, 0, none⟩) 2 2, .int .u64 (m.txn : Int), .int .i64 4] (W.alloc (.cells #[.int .u8 1, .int .u8 (kN : Int)] 5)) fun e W' => ∃ A c, e = .returned (.slice A b3.length c) ∧ EncW w m W' ∧ OwnE w W' A c b3) := Lib.hid (fun W r => by
    have hb : Below W.heap.size W (W.alloc (.cells #[.int .u8 1, .int .u8 (kN : Int)] 5)) := (Below.refl _ W).alloc (Nat.le_refl _) _
    have r2 := r.bel hb
    have hbat : BAt (W.alloc (.cells #[.int .u8 1, .int .u8 (kN : Int)] 5)) (W.alloc (.cells #[.int .u8 1, .int .u8 (kN : Int)] 5)).heap.size (some ⟨W.heap.size, 0, none⟩) b2 := .inr ⟨W.heap.size, 0, rfl, by simp, fun j hj => by
      have h := heap_alloc_new W (.cells #[.int .u8 1, .int .u8 (kN : Int)] 5)
      have hx : (bcells b2)[j]? = some (.int .u8 (b2[j].toNat : Int)) := by simp [bcells, hj]
      rw [c2] at hx
      rw [Nat.zero_add, cell_of_row _ _ j _ 5 (0, 0) h]
      simpa using hx⟩
    have := rput_yes (some ⟨W.heap.size, 0, none⟩) 2 m.txn 4 b2 _ hbat (by omega) (by omega) (by omega) (by omega)
    rw [l2] at this
    refine this.mono ?_
    rintro e w' ⟨v', rfl, ho, hb'⟩
    rw [← e3] at ho
    obtain ⟨A', c', rfl, _, _⟩ := own_bat ho
    exact ⟨A', c', rfl, r2.bel hb', own_baseC ho (by have := r2.lt; omega)⟩)
  have HGR : Hid (∀ W W' A c (xs : List UInt8), EncW w m W → OwnE w W A c xs → W.grownBy W' (Value.slice A xs.length c).ownBlock → EncW w m W') := Lib.hid (fun W W' A c xs r h hg => r.grown hg (fun k hk => (World.ownsRow.lt h k hk).1))
  have HSZ : Hid (∀ W, EncW w m W → w.heap.size + 1 ≤ W.heap.size) := Lib.hid (fun W r => r.lt)
  have HKP : Hid (∀ W W' A c (xs : List UInt8), OwnE w W A c xs → Below W.heap.size W W' → OwnE w W' A c xs) := Lib.hid (fun W W' A c xs h hb => World.ownsRow.kept h (grown_of_bel hb none) (Classical.em _))
  have HLEN : Hid (b3.length = 6 ∧ b4.length = 26 ∧ b5.length ≤ 46 ∧ T.length ≤ 90000) := Lib.hid ⟨l3, l4, l5, hT⟩
  have HBT : Hid (∀ W A c (xs : List UInt8), OwnE w W A c xs → BAt W W.heap.size A xs) := Lib.hid (fun W A c xs h => OwnE.bat h)
  have HCP : Hid (∀ W A c (xs : List UInt8), OwnE w W A c xs → xs.length ≤ c) := Lib.hid (fun W A c xs h => OwnE.cap h)
  have HSRC : Hid (∀ W A c, BAt W W.heap.size A T → Src Tryz.prog 1 31 (.slice A T.length c) T.length (bcells T) W) := Lib.hid (fun W A c h => h.src (P := Tryz.prog) (t := 31) Tryz.underlying31 c)
  have H4 := Lib.hid e4
  have H5 := Lib.hid e5
  have H6 := Lib.hid e6
  have HFIN : Hid (putB 1 1 ++ putB kN 1 ++ putB m.txn 4 ++ m.frm ++ ([] : List UInt8) ++ T = b6) := Lib.hid (by rw [e6, e5, e4, e3, e2])
  have HM20 : Hid (m.frm.length = 20 ∧ m.key.length = 20) := Lib.hid ⟨hf, hy⟩
  rw [HFIN.out]
  have n6 := beqF (show ¬ (kN : Int) = 6 by omega)
  clear HFIN HV1 HV2 l2 l3 l4 l5 e2 e3 e4 e5 e6 hf hy tb c2
  generalize (encM m).toArray = X at *
  generalize m.txn = tx at *
  have HT := Lib.hid hT0
  clear hT0
  go_enter Tryz.func9, Tryz.ntmps9
  go_wp2_with (first
    | ((with_reducible refine wpList_loadV (op := ⟨some 9, _, _, _, _, _⟩) rfl 28 (.tmp 1) rfl _ ?_ _ HK0.out ?_); rfl)
    | (go_at_call 12; (with_reducible refine (HG.out _ HS.out).mono ?_); rintro e w1 ⟨rfl, r1⟩; have q2 := HKI.out _ r1; have q3 := HTX.out _ (HB2.out _ r1))
    | ((with_reducible refine wpList_pair8 (o := ⟨some 15, _, _, _, _, _⟩) rfl 15 rfl _ _ rfl 1 _ ?_ ?_ ?_); rfl; rfl)
    | (go_at_call 26; (with_reducible refine (C3.out _ r1).mono ?_); rintro e w4 ⟨A4, c4, rfl, r4, ho4⟩)
    | (at_builtin; (refine wpList_appB (o := ⟨some 23, _, _, _, _, _⟩) rfl 23 rfl (.tmp 20) (.tmp 22) rfl (w.heap.size + 1) (.slice A4 b3.length c4) b3 ?_ ho4 (.slice (some ⟨w.heap.size, 2, none⟩) 20 20) m.frm ?_ (HFS.out _ r4) ?_ (HSZ.out _ r4) ?_); rfl; rfl; (rw [HLEN.out.1, HM20.out.1]; omega); intro A5 c5 w5 ho5 hg5; have r5 := HGR.out _ _ _ _ _ r4 ho4 hg5; rw [← H4.out] at ho5; (try rw [← H4.out]); have q5 := HKI.out _ r5)
    | (go_at_call 27; (with_reducible refine (H27.out _).mono ?_); rintro e w6 ⟨rfl, rfl⟩)
    | (go_at_call 30; (with_reducible refine (H30.out _).mono ?_); rintro e w10 ⟨rfl, rfl⟩))
  refine bodyPost_ret (results_2b rfl _ _ _ _ rfl rfl) rfl ?_
  rw [H6.out, H5.out, List.append_nil, HT.out, List.append_nil]
  exact ⟨_, _, rfl, HCP.out _ _ _ _ ho5, HBT.out _ _ _ _ ho5, HE.out _ r5⟩
theorem rencode_b (m : Msg) (kN : Nat) (h6 : ¬ kN = 6) (A1 A2 : Option Addr) (n1 n2 q1 q2 : Nat) (T : List UInt8) (hT0 : T = []) (w : World) (K : RenK w m kN true false (.slice A1 n1 q1) (.slice A2 n2 q2) T)
    : Calls Tryz.prog 9 #[.agg (encM m).toArray] w fun e w' => ∃ A c, e = .returned (.tuple #[.slice A (putB 1 1 ++ putB kN 1 ++ putB m.txn 4 ++ m.frm ++ m.key ++ T).length c, .int .i64 0]) ∧ (putB 1 1 ++ putB kN 1 ++ putB m.txn 4 ++ m.frm ++ m.key ++ T).length ≤ c ∧ BAt w' w'.heap.size A (putB 1 1 ++ putB kN 1 ++ putB m.txn 4 ++ m.frm ++ m.key ++ T) ∧ Below w.heap.size w w' := by
  have hkN := K.kind
  have hk9 := K.k9
  have hT := K.tl
  have HG := Lib.hid K.c12
  have H27 := Lib.hid K.c27
  have H30 := Lib.hid K.c30
  have HV1 := Lib.hid K.v1
  have HV2 := Lib.hid K.v2
  clear K
  have HK0 := Lib.hid ((EncW.start w m).fld.all)
  have HS := Lib.hid (EncW.start w m)
  have HE : Hid (∀ W, EncW w m W → Below w.heap.size w W) := Lib.hid (fun W h => h.be)
  have HKI : Hid (∀ W, EncW w m W → W.cell? ⟨w.heap.size, 0, none⟩ = some (.int .i64 (kN : Int))) := Lib.hid (fun W r => by rw [← hkN]; exact r.fld.kind)
  have HTX : Hid (∀ W, EncW w m W → W.cell? ⟨w.heap.size, 1, none⟩ = some (.int .u32 (m.txn : Int))) := Lib.hid (fun W r => r.fld.txn)
  have HCO : Hid (∀ W, EncW w m W → W.cell? ⟨w.heap.size, 42, none⟩ = some (.slice A1 n1 q1)) := Lib.hid (fun W r => by rw [← HV1.out]; exact r.fld.con)
  have HRO : Hid (∀ W, EncW w m W → W.cell? ⟨w.heap.size, 43, none⟩ = some (.slice A2 n2 q2)) := Lib.hid (fun W r => by rw [← HV2.out]; exact r.fld.ros)
  have HFS : Hid (∀ W, EncW w m W → Src Tryz.prog 1 31 (.slice (some ⟨w.heap.size, 2, none⟩) 20 20) m.frm.length (bcells m.frm) W) := Lib.hid (fun W r => r.frmS)
  have HYS : Hid (∀ W, EncW w m W → Src Tryz.prog 1 31 (.slice (some ⟨w.heap.size, 22, none⟩) 20 20) m.key.length (bcells m.key) W) := Lib.hid (fun W r => r.keyS)
  have tb := m.ht
  have hf := m.hf
  have hy := m.hy
  have hw1 : (kN : Int) % 256 = (kN : Int) := by omega
  have hw2 : (m.txn : Int) % 18446744073709551616 = (m.txn : Int) := by omega
  obtain ⟨b2, e2⟩ : ∃ b, b = putB 1 1 ++ putB kN 1 := ⟨_, rfl⟩
  obtain ⟨b3, e3⟩ : ∃ b, b = b2 ++ putB m.txn 4 := ⟨_, rfl⟩
  obtain ⟨b4, e4⟩ : ∃ b, b = b3 ++ m.frm := ⟨_, rfl⟩
  obtain ⟨b5, e5⟩ : ∃ b, b = b4 ++ m.key := ⟨_, rfl⟩
  obtain ⟨b6, e6⟩ : ∃ b, b = b5 ++ T := ⟨_, rfl⟩
  have l2 : b2.length = 2 := by rw [e2, List.length_append, putB_length, putB_length]
  have l3 : b3.length = 6 := by rw [e3, List.length_append, l2, putB_length]
  have l4 : b4.length = 26 := by rw [e4, List.length_append, l3, hf]
  have l5 : b5.length ≤ 46 := by rw [e5, List.length_append, l4]; rw [hy]; omega
  have c2 : bcells b2 = [.int .u8 1, .int .u8 (kN : Int)] := by
    rw [e2]
    have h1 : putB 1 1 = [1] := by decide
    have h2 : putB kN 1 = [UInt8.ofNat kN] := by simp [putB]
    rw [h1, h2]
    have h3 : (UInt8.ofNat kN).toNat = kN := by simp; omega
    simp [bcells, h3]
  have HB2 : Hid (∀ W, EncW w m W → EncW w m (W.alloc (.cells #[.int .u8 1, .int .u8 (kN : Int)] 5))) := Lib.hid (fun W r => r.bel ((Below.refl _ W).alloc (Nat.le_refl _) _))
  have C3 : Hid (∀ W, EncW w m W → Calls Tryz.prog 26 #[.slice (some ⟨W.heap.size, 0, none⟩) 2 2, .int .u64 (m.txn : Int), .int .i64 4] (W.alloc (.cells #[.int .u8 1, .int .u8 (kN : Int)] 5)) fun e W' => ∃ A c, e = .returned (.slice A b3.length c) ∧ EncW w m W' ∧ OwnE w W' A c b3) := Lib.hid (fun W r => by
    have hb : Below W.heap.size W (W.alloc (.cells #[.int .u8 1, .int .u8 (kN : Int)] 5)) := (Below.refl _ W).alloc (Nat.le_refl _) _
    have r2 := r.bel hb
    have hbat : BAt (W.alloc (.cells #[.int .u8 1, .int .u8 (kN : Int)] 5)) (W.alloc (.cells #[.int .u8 1, .int .u8 (kN : Int)] 5)).heap.size (some ⟨W.heap.size, 0, none⟩) b2 := .inr ⟨W.heap.size, 0, rfl, by simp, fun j hj => by
      have h := heap_alloc_new W (.cells #[.int .u8 1, .int .u8 (kN : Int)] 5)
      have hx : (bcells b2)[j]? = some (.int .u8 (b2[j].toNat : Int)) := by simp [bcells, hj]
      rw [c2] at hx
      rw [Nat.zero_add, cell_of_row _ _ j _ 5 (0, 0) h]
      simpa using hx⟩
    have := rput_yes (some ⟨W.heap.size, 0, none⟩) 2 m.txn 4 b2 _ hbat (by omega) (by omega) (by omega) (by omega)
    rw [l2] at this
    refine this.mono ?_
    rintro e w' ⟨v', rfl, ho, hb'⟩
    rw [← e3] at ho
    obtain ⟨A', c', rfl, _, _⟩ := own_bat ho
    exact ⟨A', c', rfl, r2.bel hb', own_baseC ho (by have := r2.lt; omega)⟩)
  have HGR : Hid (∀ W W' A c (xs : List UInt8), EncW w m W → OwnE w W A c xs → W.grownBy W' (Value.slice A xs.length c).ownBlock → EncW w m W') := Lib.hid (fun W W' A c xs r h hg => r.grown hg (fun k hk => (World.ownsRow.lt h k hk).1))
  have HSZ : Hid (∀ W, EncW w m W → w.heap.size + 1 ≤ W.heap.size) := Lib.hid (fun W r => r.lt)
  have HKP : Hid (∀ W W' A c (xs : List UInt8), OwnE w W A c xs → Below W.heap.size W W' → OwnE w W' A c xs) := Lib.hid (fun W W' A c xs h hb => World.ownsRow.kept h (grown_of_bel hb none) (Classical.em _))
  have HLEN : Hid (b3.length = 6 ∧ b4.length = 26 ∧ b5.length ≤ 46 ∧ T.length ≤ 90000) := Lib.hid ⟨l3, l4, l5, hT⟩
  have HBT : Hid (∀ W A c (xs : List UInt8), OwnE w W A c xs → BAt W W.heap.size A xs) := Lib.hid (fun W A c xs h => OwnE.bat h)
  have HCP : Hid (∀ W A c (xs : List UInt8), OwnE w W A c xs → xs.length ≤ c) := Lib.hid (fun W A c xs h => OwnE.cap h)
  have HSRC : Hid (∀ W A c, BAt W W.heap.size A T → Src Tryz.prog 1 31 (.slice A T.length c) T.length (bcells T) W) := Lib.hid (fun W A c h => h.src (P := Tryz.prog) (t := 31) Tryz.underlying31 c)
  have H4 := Lib.hid e4
  have H5 := Lib.hid e5
  have H6 := Lib.hid e6
  have HFIN : Hid (putB 1 1 ++ putB kN 1 ++ putB m.txn 4 ++ m.frm ++ m.key ++ T = b6) := Lib.hid (by rw [e6, e5, e4, e3, e2])
  have HM20 : Hid (m.frm.length = 20 ∧ m.key.length = 20) := Lib.hid ⟨hf, hy⟩
  rw [HFIN.out]
  have n6 := beqF (show ¬ (kN : Int) = 6 by omega)
  clear HFIN HV1 HV2 l2 l3 l4 l5 e2 e3 e4 e5 e6 hf hy tb c2
  generalize (encM m).toArray = X at *
  generalize m.txn = tx at *
  have HT := Lib.hid hT0
  clear hT0
  go_enter Tryz.func9, Tryz.ntmps9
  go_wp2_with (first
    | ((with_reducible refine wpList_loadV (op := ⟨some 9, _, _, _, _, _⟩) rfl 28 (.tmp 1) rfl _ ?_ _ HK0.out ?_); rfl)
    | (go_at_call 12; (with_reducible refine (HG.out _ HS.out).mono ?_); rintro e w1 ⟨rfl, r1⟩; have q2 := HKI.out _ r1; have q3 := HTX.out _ (HB2.out _ r1))
    | ((with_reducible refine wpList_pair8 (o := ⟨some 15, _, _, _, _, _⟩) rfl 15 rfl _ _ rfl 1 _ ?_ ?_ ?_); rfl; rfl)
    | (go_at_call 26; (with_reducible refine (C3.out _ r1).mono ?_); rintro e w4 ⟨A4, c4, rfl, r4, ho4⟩)
    | (at_builtin; (refine wpList_appB (o := ⟨some 23, _, _, _, _, _⟩) rfl 23 rfl (.tmp 20) (.tmp 22) rfl (w.heap.size + 1) (.slice A4 b3.length c4) b3 ?_ ho4 (.slice (some ⟨w.heap.size, 2, none⟩) 20 20) m.frm ?_ (HFS.out _ r4) ?_ (HSZ.out _ r4) ?_); rfl; rfl; (rw [HLEN.out.1, HM20.out.1]; omega); intro A5 c5 w5 ho5 hg5; have r5 := HGR.out _ _ _ _ _ r4 ho4 hg5; rw [← H4.out] at ho5; (try rw [← H4.out]); have q5 := HKI.out _ r5)
    | (go_at_call 27; (with_reducible refine (H27.out _).mono ?_); rintro e w6 ⟨rfl, rfl⟩)
    | (at_builtin; (refine wpList_appB (o := ⟨some 30, _, _, _, _, _⟩) rfl 30 rfl (.tmp 27) (.tmp 29) rfl (w.heap.size + 1) (.slice A5 b4.length c5) b4 ?_ ho5 (.slice (some ⟨w.heap.size, 22, none⟩) 20 20) m.key ?_ (HYS.out _ r5) ?_ (HSZ.out _ r5) ?_); rfl; rfl; (rw [HLEN.out.2.1, HM20.out.2]; omega); intro A6 c6 w6 ho6 hg6; have r6 := HGR.out _ _ _ _ _ r5 ho5 hg6; rw [← H5.out] at ho6; (try rw [← H5.out]); have q6 := HKI.out _ r6; have q6c := HCO.out _ r6; have q6r := HRO.out _ r6)
    | (go_at_call 30; (with_reducible refine (H30.out _).mono ?_); rintro e w10 ⟨rfl, rfl⟩))
  refine bodyPost_ret (results_2b rfl _ _ _ _ rfl rfl) rfl ?_
  rw [H6.out, HT.out, List.append_nil]
  exact ⟨_, _, rfl, HCP.out _ _ _ _ ho6, HBT.out _ _ _ _ ho6, HE.out _ r6⟩
theorem rencode_c (m : Msg) (kN : Nat) (h6 : kN = 6) (A1 A2 : Option Addr) (n1 n2 q1 q2 : Nat) (T : List UInt8) (w : World) (K : RenK w m kN true false (.slice A1 n1 q1) (.slice A2 n2 q2) T)
    (HPL : Hid (∀ W, EncW w m W → Calls Tryz.prog 29 #[.slice A1 n1 q1] W fun e W' => ∃ v', e = .returned v' ∧ EncW w m W' ∧ Below W.heap.size W W' ∧ Hid (Calls Tryz.prog 28 #[v'] W' fun e W'' => ∃ A c, e = .returned (.tuple #[.slice A T.length c, .int .i64 0]) ∧ BAt W'' W''.heap.size A T ∧ EncW w m W'' ∧ Below W.heap.size W W'')))
    : Calls Tryz.prog 9 #[.agg (encM m).toArray] w fun e w' => ∃ A c, e = .returned (.tuple #[.slice A (putB 1 1 ++ putB kN 1 ++ putB m.txn 4 ++ m.frm ++ m.key ++ T).length c, .int .i64 0]) ∧ (putB 1 1 ++ putB kN 1 ++ putB m.txn 4 ++ m.frm ++ m.key ++ T).length ≤ c ∧ BAt w' w'.heap.size A (putB 1 1 ++ putB kN 1 ++ putB m.txn 4 ++ m.frm ++ m.key ++ T) ∧ Below w.heap.size w w' := by
  have hkN := K.kind
  have hk9 := K.k9
  have hT := K.tl
  have HG := Lib.hid K.c12
  have H27 := Lib.hid K.c27
  have H30 := Lib.hid K.c30
  have HV1 := Lib.hid K.v1
  have HV2 := Lib.hid K.v2
  clear K
  have HK0 := Lib.hid ((EncW.start w m).fld.all)
  have HS := Lib.hid (EncW.start w m)
  have HE : Hid (∀ W, EncW w m W → Below w.heap.size w W) := Lib.hid (fun W h => h.be)
  have HKI : Hid (∀ W, EncW w m W → W.cell? ⟨w.heap.size, 0, none⟩ = some (.int .i64 (kN : Int))) := Lib.hid (fun W r => by rw [← hkN]; exact r.fld.kind)
  have HTX : Hid (∀ W, EncW w m W → W.cell? ⟨w.heap.size, 1, none⟩ = some (.int .u32 (m.txn : Int))) := Lib.hid (fun W r => r.fld.txn)
  have HCO : Hid (∀ W, EncW w m W → W.cell? ⟨w.heap.size, 42, none⟩ = some (.slice A1 n1 q1)) := Lib.hid (fun W r => by rw [← HV1.out]; exact r.fld.con)
  have HRO : Hid (∀ W, EncW w m W → W.cell? ⟨w.heap.size, 43, none⟩ = some (.slice A2 n2 q2)) := Lib.hid (fun W r => by rw [← HV2.out]; exact r.fld.ros)
  have HFS : Hid (∀ W, EncW w m W → Src Tryz.prog 1 31 (.slice (some ⟨w.heap.size, 2, none⟩) 20 20) m.frm.length (bcells m.frm) W) := Lib.hid (fun W r => r.frmS)
  have HYS : Hid (∀ W, EncW w m W → Src Tryz.prog 1 31 (.slice (some ⟨w.heap.size, 22, none⟩) 20 20) m.key.length (bcells m.key) W) := Lib.hid (fun W r => r.keyS)
  have tb := m.ht
  have hf := m.hf
  have hy := m.hy
  have hw1 : (kN : Int) % 256 = (kN : Int) := by omega
  have hw2 : (m.txn : Int) % 18446744073709551616 = (m.txn : Int) := by omega
  obtain ⟨b2, e2⟩ : ∃ b, b = putB 1 1 ++ putB kN 1 := ⟨_, rfl⟩
  obtain ⟨b3, e3⟩ : ∃ b, b = b2 ++ putB m.txn 4 := ⟨_, rfl⟩
  obtain ⟨b4, e4⟩ : ∃ b, b = b3 ++ m.frm := ⟨_, rfl⟩
  obtain ⟨b5, e5⟩ : ∃ b, b = b4 ++ m.key := ⟨_, rfl⟩
  obtain ⟨b6, e6⟩ : ∃ b, b = b5 ++ T := ⟨_, rfl⟩
  have l2 : b2.length = 2 := by rw [e2, List.length_append, putB_length, putB_length]
  have l3 : b3.length = 6 := by rw [e3, List.length_append, l2, putB_length]
  have l4 : b4.length = 26 := by rw [e4, List.length_append, l3, hf]
  have l5 : b5.length ≤ 46 := by rw [e5, List.length_append, l4]; rw [hy]; omega
  have c2 : bcells b2 = [.int .u8 1, .int .u8 (kN : Int)] := by
    rw [e2]
    have h1 : putB 1 1 = [1] := by decide
    have h2 : putB kN 1 = [UInt8.ofNat kN] := by simp [putB]
    rw [h1, h2]
    have h3 : (UInt8.ofNat kN).toNat = kN := by simp; omega
    simp [bcells, h3]
  have HB2 : Hid (∀ W, EncW w m W → EncW w m (W.alloc (.cells #[.int .u8 1, .int .u8 (kN : Int)] 5))) := Lib.hid (fun W r => r.bel ((Below.refl _ W).alloc (Nat.le_refl _) _))
  have C3 : Hid (∀ W, EncW w m W → Calls Tryz.prog 26 #[.slice (some ⟨W.heap.size, 0, none⟩) 2 2, .int .u64 (m.txn : Int), .int .i64 4] (W.alloc (.cells #[.int .u8 1, .int .u8 (kN : Int)] 5)) fun e W' => ∃ A c, e = .returned (.slice A b3.length c) ∧ EncW w m W' ∧ OwnE w W' A c b3) := Lib.hid (fun W r => by
    have hb : Below W.heap.size W (W.alloc (.cells #[.int .u8 1, .int .u8 (kN : Int)] 5)) := (Below.refl _ W).alloc (Nat.le_refl _) _
    have r2 := r.bel hb
    have hbat : BAt (W.alloc (.cells #[.int .u8 1, .int .u8 (kN : Int)] 5)) (W.alloc (.cells #[.int .u8 1, .int .u8 (kN : Int)] 5)).heap.size (some ⟨W.heap.size, 0, none⟩) b2 := .inr ⟨W.heap.size, 0, rfl, by simp, fun j hj => by
      have h := heap_alloc_new W (.cells #[.int .u8 1, .int .u8 (kN : Int)] 5)
      have hx : (bcells b2)[j]? = some (.int .u8 (b2[j].toNat : Int)) := by simp [bcells, hj]
      rw [c2] at hx
      rw [Nat.zero_add, cell_of_row _ _ j _ 5 (0, 0) h]
      simpa using hx⟩
    have := rput_yes (some ⟨W.heap.size, 0, none⟩) 2 m.txn 4 b2 _ hbat (by omega) (by omega) (by omega) (by omega)
    rw [l2] at this
    refine this.mono ?_
    rintro e w' ⟨v', rfl, ho, hb'⟩
    rw [← e3] at ho
    obtain ⟨A', c', rfl, _, _⟩ := own_bat ho
    exact ⟨A', c', rfl, r2.bel hb', own_baseC ho (by have := r2.lt; omega)⟩)
  have HGR : Hid (∀ W W' A c (xs : List UInt8), EncW w m W → OwnE w W A c xs → W.grownBy W' (Value.slice A xs.length c).ownBlock → EncW w m W') := Lib.hid (fun W W' A c xs r h hg => r.grown hg (fun k hk => (World.ownsRow.lt h k hk).1))
  have HSZ : Hid (∀ W, EncW w m W → w.heap.size + 1 ≤ W.heap.size) := Lib.hid (fun W r => r.lt)
  have HKP : Hid (∀ W W' A c (xs : List UInt8), OwnE w W A c xs → Below W.heap.size W W' → OwnE w W' A c xs) := Lib.hid (fun W W' A c xs h hb => World.ownsRow.kept h (grown_of_bel hb none) (Classical.em _))
  have HLEN : Hid (b3.length = 6 ∧ b4.length = 26 ∧ b5.length ≤ 46 ∧ T.length ≤ 90000) := Lib.hid ⟨l3, l4, l5, hT⟩
  have HBT : Hid (∀ W A c (xs : List UInt8), OwnE w W A c xs → BAt W W.heap.size A xs) := Lib.hid (fun W A c xs h => OwnE.bat h)
  have HCP : Hid (∀ W A c (xs : List UInt8), OwnE w W A c xs → xs.length ≤ c) := Lib.hid (fun W A c xs h => OwnE.cap h)
  have HSRC : Hid (∀ W A c, BAt W W.heap.size A T → Src Tryz.prog 1 31 (.slice A T.length c) T.length (bcells T) W) := Lib.hid (fun W A c h => h.src (P := Tryz.prog) (t := 31) Tryz.underlying31 c)
  have H4 := Lib.hid e4
  have H5 := Lib.hid e5
  have H6 := Lib.hid e6
  have HFIN : Hid (putB 1 1 ++ putB kN 1 ++ putB m.txn 4 ++ m.frm ++ m.key ++ T = b6) := Lib.hid (by rw [e6, e5, e4, e3, e2])
  have HM20 : Hid (m.frm.length = 20 ∧ m.key.length = 20) := Lib.hid ⟨hf, hy⟩
  rw [HFIN.out]
  subst h6
  clear HFIN HV1 HV2 l2 l3 l4 l5 e2 e3 e4 e5 e6 hf hy tb c2
  generalize (encM m).toArray = X at *
  generalize m.txn = tx at *
  simp only [show ((6 : Nat) : Int) = 6 from rfl] at *
  go_enter Tryz.func9, Tryz.ntmps9
  go_wp2_with (first
    | ((with_reducible refine wpList_loadV (op := ⟨some 9, _, _, _, _, _⟩) rfl 28 (.tmp 1) rfl _ ?_ _ HK0.out ?_); rfl)
    | (go_at_call 12; (with_reducible refine (HG.out _ HS.out).mono ?_); rintro e w1 ⟨rfl, r1⟩; have q2 := HKI.out _ r1; have q3 := HTX.out _ (HB2.out _ r1))
    | ((with_reducible refine wpList_pair8 (o := ⟨some 15, _, _, _, _, _⟩) rfl 15 rfl _ _ rfl 1 _ ?_ ?_ ?_); rfl; rfl)
    | (go_at_call 26; (with_reducible refine (C3.out _ r1).mono ?_); rintro e w4 ⟨A4, c4, rfl, r4, ho4⟩)
    | (at_builtin; (refine wpList_appB (o := ⟨some 23, _, _, _, _, _⟩) rfl 23 rfl (.tmp 20) (.tmp 22) rfl (w.heap.size + 1) (.slice A4 b3.length c4) b3 ?_ ho4 (.slice (some ⟨w.heap.size, 2, none⟩) 20 20) m.frm ?_ (HFS.out _ r4) ?_ (HSZ.out _ r4) ?_); rfl; rfl; (rw [HLEN.out.1, HM20.out.1]; omega); intro A5 c5 w5 ho5 hg5; have r5 := HGR.out _ _ _ _ _ r4 ho4 hg5; rw [← H4.out] at ho5; (try rw [← H4.out]); have q5 := HKI.out _ r5)
    | (go_at_call 27; (with_reducible refine (H27.out _).mono ?_); rintro e w6 ⟨rfl, rfl⟩)
    | (at_builtin; (refine wpList_appB (o := ⟨some 30, _, _, _, _, _⟩) rfl 30 rfl (.tmp 27) (.tmp 29) rfl (w.heap.size + 1) (.slice A5 b4.length c5) b4 ?_ ho5 (.slice (some ⟨w.heap.size, 22, none⟩) 20 20) m.key ?_ (HYS.out _ r5) ?_ (HSZ.out _ r5) ?_); rfl; rfl; (rw [HLEN.out.2.1, HM20.out.2]; omega); intro A6 c6 w6 ho6 hg6; have r6 := HGR.out _ _ _ _ _ r5 ho5 hg6; rw [← H5.out] at ho6; (try rw [← H5.out]); have q6 := HKI.out _ r6; have q6c := HCO.out _ r6; have q6r := HRO.out _ r6)
    | (go_at_call 29; (with_reducible refine (HPL.out _ r6).mono ?_); rintro e w7 ⟨v7, rfl, r7, hb7, h28⟩)
    | (go_at_call 28; (with_reducible refine h28.out.mono ?_); rintro e w8 ⟨A8, c8, rfl, h8, r8, hb8⟩; have ho8 := HKP.out _ _ _ _ _ ho6 hb8; have q8 := HKI.out _ r8; have s8 := HSRC.out _ _ c8 h8)
    | (at_builtin; (refine wpList_appB (o := ⟨some 43, _, _, _, _, _⟩) rfl 43 rfl (.tmp 41) (.tmp 42) rfl (w.heap.size + 1) (.slice A6 b5.length c6) b5 ?_ ho8 (.slice A8 T.length c8) T ?_ s8 ?_ (HSZ.out _ r8) ?_); rfl; rfl; (have h := HLEN.out.2.2; omega); intro A9 c9 w9 ho9 hg9; have r9 := HGR.out _ _ _ _ _ r8 ho8 hg9; rw [← H6.out] at ho9; (try rw [← H6.out]); have q9 := HKI.out _ r9)
    | (go_at_call 30; (with_reducible refine (H30.out _).mono ?_); rintro e w10 ⟨rfl, rfl⟩))
  refine bodyPost_ret (results_2b rfl _ _ _ _ rfl rfl) rfl ?_
  exact ⟨A9, c9, rfl, HCP.out _ _ _ _ ho9, HBT.out _ _ _ _ ho9, HE.out _ r9⟩
theorem rencode_d (m : Msg) (kN : Nat) (h6 : ¬ kN = 6) (A1 A2 : Option Addr) (n1 n2 q1 q2 : Nat) (T : List UInt8) (w : World) (K : RenK w m kN true true (.slice A1 n1 q1) (.slice A2 n2 q2) T)
    (HRB : Hid (∀ W, EncW w m W → Calls Tryz.prog 31 #[.slice A2 n2 q2] W fun e W' => ∃ A c, e = .returned (.tuple #[.slice A T.length c, .int .i64 0]) ∧ BAt W' W'.heap.size A T ∧ EncW w m W' ∧ Below W.heap.size W W'))
    : Calls Tryz.prog 9 #[.agg (encM m).toArray] w fun e w' => ∃ A c, e = .returned (.tuple #[.slice A (putB 1 1 ++ putB kN 1 ++ putB m.txn 4 ++ m.frm ++ m.key ++ T).length c, .int .i64 0]) ∧ (putB 1 1 ++ putB kN 1 ++ putB m.txn 4 ++ m.frm ++ m.key ++ T).length ≤ c ∧ BAt w' w'.heap.size A (putB 1 1 ++ putB kN 1 ++ putB m.txn 4 ++ m.frm ++ m.key ++ T) ∧ Below w.heap.size w w' := by
  have hkN := K.kind
  have hk9 := K.k9
  have hT := K.tl
  have HG := Lib.hid K.c12
  have H27 := Lib.hid K.c27
  have H30 := Lib.hid K.c30
  have HV1 := Lib.hid K.v1
  have HV2 := Lib.hid K.v2
  clear K
  have HK0 := Lib.hid ((EncW.start w m).fld.all)
  have HS := Lib.hid (EncW.start w m)
  have HE : Hid (∀ W, EncW w m W → Below w.heap.size w W) := Lib.hid (fun W h => h.be)
  have HKI : Hid (∀ W, EncW w m W → W.cell? ⟨w.heap.size, 0, none⟩ = some (.int .i64 (kN : Int))) := Lib.hid (fun W r => by rw [← hkN]; exact r.fld.kind)
  have HTX : Hid (∀ W, EncW w m W → W.cell? ⟨w.heap.size, 1, none⟩ = some (.int .u32 (m.txn : Int))) := Lib.hid (fun W r => r.fld.txn)
  have HCO : Hid (∀ W, EncW w m W → W.cell? ⟨w.heap.size, 42, none⟩ = some (.slice A1 n1 q1)) := Lib.hid (fun W r => by rw [← HV1.out]; exact r.fld.con)
  have HRO : Hid (∀ W, EncW w m W → W.cell? ⟨w.heap.size, 43, none⟩ = some (.slice A2 n2 q2)) := Lib.hid (fun W r => by rw [← HV2.out]; exact r.fld.ros)
  have HFS : Hid (∀ W, EncW w m W → Src Tryz.prog 1 31 (.slice (some ⟨w.heap.size, 2, none⟩) 20 20) m.frm.length (bcells m.frm) W) := Lib.hid (fun W r => r.frmS)
  have HYS : Hid (∀ W, EncW w m W → Src Tryz.prog 1 31 (.slice (some ⟨w.heap.size, 22, none⟩) 20 20) m.key.length (bcells m.key) W) := Lib.hid (fun W r => r.keyS)
  have tb := m.ht
  have hf := m.hf
  have hy := m.hy
  have hw1 : (kN : Int) % 256 = (kN : Int) := by omega
  have hw2 : (m.txn : Int) % 18446744073709551616 = (m.txn : Int) := by omega
  obtain ⟨b2, e2⟩ : ∃ b, b = putB 1 1 ++ putB kN 1 := ⟨_, rfl⟩
  obtain ⟨b3, e3⟩ : ∃ b, b = b2 ++ putB m.txn 4 := ⟨_, rfl⟩
  obtain ⟨b4, e4⟩ : ∃ b, b = b3 ++ m.frm := ⟨_, rfl⟩
  obtain ⟨b5, e5⟩ : ∃ b, b = b4 ++ m.key := ⟨_, rfl⟩
  obtain ⟨b6, e6⟩ : ∃ b, b = b5 ++ T := ⟨_, rfl⟩
  have l2 : b2.length = 2 := by rw [e2, List.length_append, putB_length, putB_length]
  have l3 : b3.length = 6 := by rw [e3, List.length_append, l2, putB_length]
  have l4 : b4.length = 26 := by rw [e4, List.length_append, l3, hf]
  have l5 : b5.length ≤ 46 := by rw [e5, List.length_append, l4]; rw [hy]; omega
  have c2 : bcells b2 = [.int .u8 1, .int .u8 (kN : Int)] := by
    rw [e2]
    have h1 : putB 1 1 = [1] := by decide
    have h2 : putB kN 1 = [UInt8.ofNat kN] := by simp [putB]
    rw [h1, h2]
    have h3 : (UInt8.ofNat kN).toNat = kN := by simp; omega
    simp [bcells, h3]
  have HB2 : Hid (∀ W, EncW w m W → EncW w m (W.alloc (.cells #[.int .u8 1, .int .u8 (kN : Int)] 5))) := Lib.hid (fun W r => r.bel ((Below.refl _ W).alloc (Nat.le_refl _) _))
  have C3 : Hid (∀ W, EncW w m W → Calls Tryz.prog 26 #[.slice (some ⟨W.heap.size, 0, none⟩) 2 2, .int .u64 (m.txn : Int), .int .i64 4] (W.alloc (.cells #[.int .u8 1, .int .u8 (kN : Int)] 5)) fun e W' => ∃ A c, e = .returned (.slice A b3.length c) ∧ EncW w m W' ∧ OwnE w W' A c b3) := Lib.hid (fun W r => by
    have hb : Below W.heap.size W (W.alloc (.cells #[.int .u8 1, .int .u8 (kN : Int)] 5)) := (Below.refl _ W).alloc (Nat.le_refl _) _
    have r2 := r.bel hb
    have hbat : BAt (W.alloc (.cells #[.int .u8 1, .int .u8 (kN : Int)] 5)) (W.alloc (.cells #[.int .u8 1, .int .u8 (kN : Int)] 5)).heap.size (some ⟨W.heap.size, 0, none⟩) b2 := .inr ⟨W.heap.size, 0, rfl, by simp, fun j hj => by
      have h := heap_alloc_new W (.cells #[.int .u8 1, .int .u8 (kN : Int)] 5)
      have hx : (bcells b2)[j]? = some (.int .u8 (b2[j].toNat : Int)) := by simp [bcells, hj]
      rw [c2] at hx
      rw [Nat.zero_add, cell_of_row _ _ j _ 5 (0, 0) h]
      simpa using hx⟩
    have := rput_yes (some ⟨W.heap.size, 0, none⟩) 2 m.txn 4 b2 _ hbat (by omega) (by omega) (by omega) (by omega)
    rw [l2] at this
    refine this.mono ?_
    rintro e w' ⟨v', rfl, ho, hb'⟩
    rw [← e3] at ho
    obtain ⟨A', c', rfl, _, _⟩ := own_bat ho
    exact ⟨A', c', rfl, r2.bel hb', own_baseC ho (by have := r2.lt; omega)⟩)
  have HGR : Hid (∀ W W' A c (xs : List UInt8), EncW w m W → OwnE w W A c xs → W.grownBy W' (Value.slice A xs.length c).ownBlock → EncW w m W') := Lib.hid (fun W W' A c xs r h hg => r.grown hg (fun k hk => (World.ownsRow.lt h k hk).1))
  have HSZ : Hid (∀ W, EncW w m W → w.heap.size + 1 ≤ W.heap.size) := Lib.hid (fun W r => r.lt)
  have HKP : Hid (∀ W W' A c (xs : List UInt8), OwnE w W A c xs → Below W.heap.size W W' → OwnE w W' A c xs) := Lib.hid (fun W W' A c xs h hb => World.ownsRow.kept h (grown_of_bel hb none) (Classical.em _))
  have HLEN : Hid (b3.length = 6 ∧ b4.length = 26 ∧ b5.length ≤ 46 ∧ T.length ≤ 90000) := Lib.hid ⟨l3, l4, l5, hT⟩
  have HBT : Hid (∀ W A c (xs : List UInt8), OwnE w W A c xs → BAt W W.heap.size A xs) := Lib.hid (fun W A c xs h => OwnE.bat h)
  have HCP : Hid (∀ W A c (xs : List UInt8), OwnE w W A c xs → xs.length ≤ c) := Lib.hid (fun W A c xs h => OwnE.cap h)
  have HSRC : Hid (∀ W A c, BAt W W.heap.size A T → Src Tryz.prog 1 31 (.slice A T.length c) T.length (bcells T) W) := Lib.hid (fun W A c h => h.src (P := Tryz.prog) (t := 31) Tryz.underlying31 c)
  have H4 := Lib.hid e4
  have H5 := Lib.hid e5
  have H6 := Lib.hid e6
  have HFIN : Hid (putB 1 1 ++ putB kN 1 ++ putB m.txn 4 ++ m.frm ++ m.key ++ T = b6) := Lib.hid (by rw [e6, e5, e4, e3, e2])
  have HM20 : Hid (m.frm.length = 20 ∧ m.key.length = 20) := Lib.hid ⟨hf, hy⟩
  rw [HFIN.out]
  have n6 := beqF (show ¬ (kN : Int) = 6 by omega)
  clear HFIN HV1 HV2 l2 l3 l4 l5 e2 e3 e4 e5 e6 hf hy tb c2
  generalize (encM m).toArray = X at *
  generalize m.txn = tx at *
  skip
  go_enter Tryz.func9, Tryz.ntmps9
  go_wp2_with (first
    | ((with_reducible refine wpList_loadV (op := ⟨some 9, _, _, _, _, _⟩) rfl 28 (.tmp 1) rfl _ ?_ _ HK0.out ?_); rfl)
    | (go_at_call 12; (with_reducible refine (HG.out _ HS.out).mono ?_); rintro e w1 ⟨rfl, r1⟩; have q2 := HKI.out _ r1; have q3 := HTX.out _ (HB2.out _ r1))
    | ((with_reducible refine wpList_pair8 (o := ⟨some 15, _, _, _, _, _⟩) rfl 15 rfl _ _ rfl 1 _ ?_ ?_ ?_); rfl; rfl)
    | (go_at_call 26; (with_reducible refine (C3.out _ r1).mono ?_); rintro e w4 ⟨A4, c4, rfl, r4, ho4⟩)
    | (at_builtin; (refine wpList_appB (o := ⟨some 23, _, _, _, _, _⟩) rfl 23 rfl (.tmp 20) (.tmp 22) rfl (w.heap.size + 1) (.slice A4 b3.length c4) b3 ?_ ho4 (.slice (some ⟨w.heap.size, 2, none⟩) 20 20) m.frm ?_ (HFS.out _ r4) ?_ (HSZ.out _ r4) ?_); rfl; rfl; (rw [HLEN.out.1, HM20.out.1]; omega); intro A5 c5 w5 ho5 hg5; have r5 := HGR.out _ _ _ _ _ r4 ho4 hg5; rw [← H4.out] at ho5; (try rw [← H4.out]); have q5 := HKI.out _ r5)
    | (go_at_call 27; (with_reducible refine (H27.out _).mono ?_); rintro e w6 ⟨rfl, rfl⟩)
    | (at_builtin; (refine wpList_appB (o := ⟨some 30, _, _, _, _, _⟩) rfl 30 rfl (.tmp 27) (.tmp 29) rfl (w.heap.size + 1) (.slice A5 b4.length c5) b4 ?_ ho5 (.slice (some ⟨w.heap.size, 22, none⟩) 20 20) m.key ?_ (HYS.out _ r5) ?_ (HSZ.out _ r5) ?_); rfl; rfl; (rw [HLEN.out.2.1, HM20.out.2]; omega); intro A6 c6 w6 ho6 hg6; have r6 := HGR.out _ _ _ _ _ r5 ho5 hg6; rw [← H5.out] at ho6; (try rw [← H5.out]); have q6 := HKI.out _ r6; have q6c := HCO.out _ r6; have q6r := HRO.out _ r6)
    | (go_at_call 30; (with_reducible refine (H30.out _).mono ?_); rintro e w10 ⟨rfl, rfl⟩)
    | (go_at_call 31; (with_reducible refine (HRB.out _ r6).mono ?_); rintro e w8 ⟨A8, c8, rfl, h8, r8, hb8⟩; have ho8 := HKP.out _ _ _ _ _ ho6 hb8; have s8 := HSRC.out _ _ c8 h8)
    | (at_builtin; (refine wpList_appB (o := ⟨some 55, _, _, _, _, _⟩) rfl 55 rfl (.tmp 53) (.tmp 54) rfl (w.heap.size + 1) (.slice A6 b5.length c6) b5 ?_ ho8 (.slice A8 T.length c8) T ?_ s8 ?_ (HSZ.out _ r8) ?_); rfl; rfl; (have h := HLEN.out.2.2; omega); intro A9 c9 w9 ho9 hg9; have r9 := HGR.out _ _ _ _ _ r8 ho8 hg9; rw [← H6.out] at ho9; (try rw [← H6.out])))
  refine bodyPost_ret (results_2b rfl _ _ _ _ rfl rfl) rfl ?_
  exact ⟨A9, c9, rfl, HCP.out _ _ _ _ ho9, HBT.out _ _ _ _ ho9, HE.out _ r9⟩
end Go.Proofs.YtehgpnnfjgmiiaaGreat
