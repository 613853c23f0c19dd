/- Encode of the program. Conditions: at most 10,000 contacts, targets of at most 100,000 bytes. The reference's Decode answers as the program's. Conditions: at most 100,000 bytes; the slice's capacity holds them. lives of the statements of layer wire. No condition. -/
import Derived.Test.YtehgpnnfjgmiiaaGreatVWbb
import Derived.Test.YtehgpnnfjgmiiaaGreatVNCdg
import Derived.Test.YtehgpnnfjgmiiaaGreatVREOctc
import Derived.Test.YtehgpnnfjgmiiaaGreatVIiv
import Derived.Test.YtehgpnnfjgmiiaaGreatVWav
import Derived.Test.YtehgpnnfjgmiiaaGreatVWaz
import Derived.Test.YtehgpnnfjgmiiaaGreatVWaa
section
namespace Go.Proofs.YtehgpnnfjgmiiaaGreat
open Go.Shelf Go.RowKit Go.Lib Go.Great
set_option maxRecDepth 100000
set_option maxHeartbeats 2000000
/-- The message lies in the block w.heap.size, and what lay there before is as it was. -/
structure EncW (w : World) (m : Msg) (W : World) : Prop where
  h1 : W.heap[w.heap.size]? = some (.cells (encM m).toArray 28 (0, 0))
  be : Below w.heap.size w W
theorem EncW.start (w : World) (m : Msg) : EncW w m (w.alloc (.cells (encM m).toArray 28)) := ⟨heap_alloc_new w _, (Below.refl _ w).alloc (Nat.le_refl _) _⟩
theorem EncW.lt {w W : World} {m : Msg} (r : EncW w m W) : w.heap.size < W.heap.size := (Array.getElem?_eq_some_iff.1 r.h1).1
theorem EncW.bel {w W W' : World} {m : Msg} (r : EncW w m W) (hb : Below W.heap.size W W') : EncW w m W' := ⟨(hb.block _ r.lt).trans r.h1, r.be.trans (hb.mono r.be.size)⟩
theorem EncW.grown {w W W' : World} {m : Msg} {ob : Option Nat} (r : EncW w m W) (hg : W.grownBy W' ob) (ho : ∀ k, ob = some k → w.heap.size + 1 ≤ k) : EncW w m W' :=
  ⟨(hg.block _ r.lt (by intro e; first | (have := ho _ e; omega) | (have := ho _ e.symm; omega))).trans r.h1, below_ownB r.be r.be.size hg (fun k hk => by have := ho k hk; omega)⟩
theorem EncW.fld {w W : World} {m : Msg} (r : EncW w m W) : FldM W w.heap.size m := fldM r.h1
theorem EncW.frmS {w W : World} {m : Msg} (r : EncW w m W) : Src Tryz.prog 1 31 (.slice (some ⟨w.heap.size, 2, none⟩) 20 20) m.frm.length (bcells m.frm) W := by
  have h : BAt W W.heap.size (some ⟨w.heap.size, 2, none⟩) m.frm := .inr ⟨w.heap.size, 2, rfl, r.lt, fun j hj => r.fld.frmR j _ (by simp [bcells, hj])⟩
  have := h.src (P := Tryz.prog) (t := 31) Tryz.underlying31 20
  rwa [m.hf] at this ⊢
theorem EncW.keyS {w W : World} {m : Msg} (r : EncW w m W) : Src Tryz.prog 1 31 (.slice (some ⟨w.heap.size, 22, none⟩) 20 20) m.key.length (bcells m.key) W := by
  have h : BAt W W.heap.size (some ⟨w.heap.size, 22, none⟩) m.key := .inr ⟨w.heap.size, 22, rfl, r.lt, fun j hj => r.fld.keyR j _ (by simp [bcells, hj])⟩
  have := h.src (P := Tryz.prog) (t := 31) Tryz.underlying31 20
  rwa [m.hy] at this ⊢
/-- Bytes that the function owns, beside the message. -/
def OwnE (w : World) (W : World) (A : Option Addr) (c : Nat) (xs : List UInt8) : Prop := W.ownsRow (w.heap.size + 1) 5 1 (.slice A xs.length c) xs.length (bcells xs)
theorem putE {w W : World} {m : Msg} {xs : List UInt8} {A : Option Addr} {c : Nat} (r : EncW w m W) (hA : BAt W W.heap.size A xs) (hl : xs.length ≤ 1000) (N k : Nat) (hN : N < 18446744073709551616) (hk1 : 1 ≤ k) (hk : k ≤ 8) :
    Calls Tryz.prog 22 #[.slice A xs.length c, .int .u64 (N : Int), .int .i64 (k : Int)] W fun e W' => ∃ A' c', e = .returned (.slice A' (xs ++ putB N k).length c') ∧ EncW w m W' ∧ OwnE w W' A' c' (xs ++ putB N k) := by
  refine (put_yes A c N k xs W hA (by omega) hN hk1 hk).mono ?_
  rintro e w' ⟨v', rfl, ho, hb⟩
  obtain ⟨A', c', rfl, _, _⟩ := own_bat ho
  exact ⟨A', c', rfl, r.bel hb, own_baseC ho (by have := r.lt; omega)⟩
theorem OwnE.bat {w W : World} {A : Option Addr} {c : Nat} {xs : List UInt8} (h : OwnE w W A c xs) : BAt W W.heap.size A xs := BAt.of_own h (Nat.le_refl _)
theorem run_pairB (a b : Value) (W : World) (ha : ∃ A n c, a = .slice A n c) (hb : ∃ A n c, b = .slice A n c) : (Instr.buildSlice 82 2 #[(0, a), (1, b)]).run Tryz.prog W = .ok (.slice (some ⟨W.heap.size, 0, none⟩) 2 2) (W.alloc (.cells #[a, b] 31)) := by
  obtain ⟨A, n, c, rfl⟩ := ha
  obtain ⟨A', n', c', rfl⟩ := hb
  kernel_rfl
theorem wpList_pairB {ops : Array Oper} {rest : List Oper} {o : Oper} {act : Act} {w : World} {Q : Exit → Act → World → Prop} (hgd : o.guard = none) (d : Nat) (hd : o.dst = some d) (x y : Operand) (ho : o.op = .buildSlice 82 2 #[(0, x), (1, y)]) (A A' : Option Addr) (n c n' c' : Nat)
    (hx : act.eval x = .slice A n c) (hy : act.eval y = .slice A' n' c')
    (h : wpList Tryz.prog ops Q rest (act.put (some d) (.slice (some ⟨w.heap.size, 0, none⟩) 2 2)) (w.alloc (.cells #[.slice A n c, .slice A' n' c'] 31))) : wpList Tryz.prog ops Q (o :: rest) act w :=
  wpList_plain hgd fun _ hK => by
    unfold Oper.wp execOp
    simp only [ho, List.map_toArray, List.map_cons, List.map_nil, hx, hy, Sem.run_bind, run_pairB _ _ _ ⟨A, n, c, rfl⟩ ⟨A', n', c', rfl⟩, Result.andThen_ok, Sem.run_pure]
    rw [← hd] at h
    exact hK _ _ h
/-- The bytes ahead of a message's list. -/
def hedM (k t : Nat) (f y : List UInt8) : List UInt8 := putB 1 1 ++ putB k 1 ++ putB t 4 ++ f ++ (if keyM k then y else [])
def errM (g : Bool) : Int := if g then 0 else 2
def bytesM (k : Int) (t : Nat) (f y : List UInt8) (L : List Con) (R : List Ins) : List UInt8 := if goodM k y L R then hedM k.toNat t f y ++ tailB k L R else []
def EncIs (w : World) (m : Msg) (L : List Con) (R : List Ins) (e : Ending) (w' : World) : Prop :=
  ∃ A c, e = .returned (.tuple #[.slice A (bytesM m.kind m.txn m.frm m.key L R).length c, .int .i64 (errM (goodM m.kind m.key L R))]) ∧ (bytesM m.kind m.txn m.frm m.key L R).length ≤ c ∧ BAt w' w'.heap.size A (bytesM m.kind m.txn m.frm m.key L R) ∧ Below w.heap.size w w'
theorem goodM_kind {k : Int} {y : List UInt8} {L : List Con} {R : List Ins} (h : goodM k y L R = true) : 1 ≤ k ∧ k ≤ 9 := by
  unfold goodM at h
  by_cases h1 : k = 1 ∨ k = 5
  · omega
  · rw [if_neg h1] at h
    by_cases h2 : k = 2 ∨ k = 3 ∨ k = 8 ∨ k = 9
    · omega
    · rw [if_neg h2] at h
      by_cases h3 : k = 6
      · omega
      · rw [if_neg h3] at h
        by_cases h4 : k = 4 ∨ k = 7
        · omega
        · rw [if_neg h4] at h
          cases h
theorem encode_bad (m : Msg) (w : World) (HG : Hid (∀ W, EncW w m W → Calls Tryz.prog 11 #[.agg (encM m).toArray] W fun e W' => e = .returned (.bool false) ∧ EncW w m W')) : Calls Tryz.prog 8 #[.agg (encM m).toArray] w fun e w' => e = .returned (.tuple #[.slice none 0 0, .int .i64 2]) ∧ Below w.heap.size w w' := by
  have HK := Lib.hid ((EncW.start w m).fld.all)
  have HS := Lib.hid (EncW.start w m)
  have HE : Hid (∀ W, EncW w m W → Below w.heap.size w W) := Lib.hid (fun W h => h.be)
  generalize (encM m).toArray = X at *
  go_enter Tryz.func8, Tryz.ntmps8
  go_wp2_with (first
    | ((with_reducible refine wpList_loadV (op := ⟨some 5, _, _, _, _, _⟩) rfl 28 (.tmp 1) rfl _ ?_ _ HK.out ?_); rfl)
    | (go_at_call 11; (with_reducible refine (HG.out _ HS.out).mono ?_); rintro e w1 ⟨rfl, r1⟩))
  refine bodyPost_ret (results_2b rfl _ _ _ _ rfl rfl) rfl ?_
  exact ⟨rfl, HE.out _ r1⟩
theorem encode_good (m : Msg) (kN : Nat) (hkN : m.kind = (kN : Int)) (hk9 : kN ≤ 9) (T : List UInt8) (hT : T.length ≤ 90000) (w : World)
    (HG : Hid (∀ W, EncW w m W → Calls Tryz.prog 11 #[.agg (encM m).toArray] W fun e W' => e = .returned (.bool true) ∧ EncW w m W'))
    (HL : Hid (∀ W, EncW w m W → Calls Tryz.prog 25 #[.agg (encM m).toArray] W fun e W' => ∃ A c, e = .returned (.slice A T.length c) ∧ BAt W' W'.heap.size A T ∧ Below W.heap.size W W')) :
    Calls Tryz.prog 8 #[.agg (encM m).toArray] w fun e w' => ∃ A c, e = .returned (.tuple #[.slice A (hedM kN m.txn m.frm m.key ++ T).length c, .int .i64 0]) ∧ (hedM kN m.txn m.frm m.key ++ T).length ≤ c ∧ BAt w' w'.heap.size A (hedM kN m.txn m.frm m.key ++ T) ∧ Below w.heap.size w w' := by
  have HK0 := Lib.hid ((EncW.start w m).fld.all)
  have HS := Lib.hid (EncW.start w m)
  have HE : Hid (∀ W, EncW w m W → Below w.heap.size w W) := Lib.hid (fun W h => h.be)
  have HALL : Hid (∀ W, EncW w m W → (loadVar 28 ⟨w.heap.size, 0, none⟩).run Tryz.prog W = .ok (.agg (encM m).toArray) W) := Lib.hid (fun W r => r.fld.all)
  have HKI : Hid (∀ W, EncW w m W → W.cell? ⟨w.heap.size, 0, none⟩ = some (.int .i64 (kN : Int))) := Lib.hid (fun W r => by rw [← hkN]; exact r.fld.kind)
  have HTX : Hid (∀ W, EncW w m W → W.cell? ⟨w.heap.size, 1, none⟩ = some (.int .u32 (m.txn : Int))) := Lib.hid (fun W r => r.fld.txn)
  have HFS : Hid (∀ W, EncW w m W → Src Tryz.prog 1 31 (.slice (some ⟨w.heap.size, 2, none⟩) 20 20) m.frm.length (bcells m.frm) W) := Lib.hid (fun W r => r.frmS)
  have HYS : Hid (∀ W, EncW w m W → Src Tryz.prog 1 31 (.slice (some ⟨w.heap.size, 22, none⟩) 20 20) m.key.length (bcells m.key) W) := Lib.hid (fun W r => r.keyS)
  have H23 : Hid (∀ W, Calls Tryz.prog 23 #[.int .i64 (kN : Int)] W fun e w' => e = .returned (.bool (keyM (kN : Int))) ∧ w' = W) := Lib.hid (fun W => haskey_any (kN : Int) W)
  have tb := m.ht
  have hf := m.hf
  have hy := m.hy
  have hw1 : (kN : Int) % 18446744073709551616 = (kN : Int) := by omega
  have hw2 : (m.txn : Int) % 18446744073709551616 = (m.txn : Int) := by omega
  obtain ⟨b1, e1⟩ : ∃ b, b = putB 1 1 := ⟨_, rfl⟩
  obtain ⟨b2, e2⟩ : ∃ b, b = b1 ++ putB kN 1 := ⟨_, rfl⟩
  obtain ⟨b3, e3⟩ : ∃ b, b = b2 ++ putB m.txn 4 := ⟨_, rfl⟩
  obtain ⟨b4, e4⟩ : ∃ b, b = b3 ++ m.frm := ⟨_, rfl⟩
  have l1 : b1.length = 1 := by rw [e1, putB_length]
  have l2 : b2.length = 2 := by rw [e2, List.length_append, l1, putB_length]
  have l3 : b3.length = 6 := by rw [e3, List.length_append, l2, putB_length]
  have l4 : b4.length = 26 := by rw [e4, List.length_append, l3, hf]
  have C1 : Hid (∀ W, EncW w m W → Calls Tryz.prog 22 #[.slice none 0 0, .int .u64 1, .int .i64 1] W fun e W' => ∃ A c, e = .returned (.slice A b1.length c) ∧ EncW w m W' ∧ OwnE w W' A c b1) := Lib.hid (fun W r => by
    have := putE (xs := []) (A := none) (c := 0) r (.inl rfl) (by simp) 1 1 (by omega) (by omega) (by omega)
    rw [List.nil_append, ← e1] at this
    exact this)
  have C2 : Hid (∀ W A c, EncW w m W → OwnE w W A c b1 → Calls Tryz.prog 22 #[.slice A b1.length c, .int .u64 (kN : Int), .int .i64 1] W fun e W' => ∃ A c, e = .returned (.slice A b2.length c) ∧ EncW w m W' ∧ OwnE w W' A c b2) := Lib.hid (fun W A c r h => by
    have := putE (c := c) r h.bat (by omega) kN 1 (by omega) (by omega) (by omega)
    rw [← e2] at this
    exact this)
  have C3 : Hid (∀ W A c, EncW w m W → OwnE w W A c b2 → Calls Tryz.prog 22 #[.slice A b2.length c, .int .u64 (m.txn : Int), .int .i64 4] W fun e W' => ∃ A c, e = .returned (.slice A b3.length c) ∧ EncW w m W' ∧ OwnE w W' A c b3) := Lib.hid (fun W A c r h => by
    have := putE (c := c) r h.bat (by omega) m.txn 4 (by omega) (by omega) (by omega)
    rw [← e3] at this
    exact this)
  have HGR : Hid (∀ W W' A c (xs : List UInt8), EncW w m W → OwnE w W A c xs → W.grownBy W' (Value.slice A xs.length c).ownBlock → EncW w m W') := Lib.hid (fun W W' A c xs r h hg => r.grown hg (fun k hk => (World.ownsRow.lt h k hk).1))
  have HSZ : Hid (∀ W, EncW w m W → w.heap.size + 1 ≤ W.heap.size) := Lib.hid (fun W r => r.lt)
  have HCC : Hid (∀ (A A2 : Option Addr) (c c2 : Nat) (xs : List UInt8) (W : World), EncW w m W → BAt W W.heap.size A xs → 0 < xs.length → xs.length ≤ 100 → BAt W W.heap.size A2 T → Calls Tryz.prog 24 #[.slice (some ⟨W.heap.size, 0, none⟩) 2 2] (W.alloc (.cells #[.slice A xs.length c, .slice A2 T.length c2] 31)) fun e w' => ∃ B q, e = .returned (.slice B (xs ++ T).length q) ∧ (xs ++ T).length ≤ q ∧ BAt w' w'.heap.size B (xs ++ T) ∧ Below w.heap.size w w') := Lib.hid (fun A A2 c c2 xs W r hA h0 hx hA2 => by
    have hb : Below W.heap.size W (W.alloc (.cells #[.slice A xs.length c, .slice A2 T.length c2] 31)) := (Below.refl _ W).alloc (Nat.le_refl _) _
    refine (concat_any A A2 c c2 W.heap.size xs T (W.alloc (.cells #[.slice A xs.length c, .slice A2 T.length c2] 31)) (by omega) (by omega) (by omega) (heap_alloc_new W _) ((hA.below hb).more hb.size) ((hA2.below hb).more hb.size)).mono ?_
    rintro e w' ⟨v, rfl, ho, hb2⟩
    obtain ⟨B, q, rfl, hq, hB⟩ := IsB.of_own ho
    exact ⟨B, q, rfl, hq, hB, r.be.trans ((hb.trans (hb2.mono hb.size)).mono r.be.size)⟩)
  have HB3 : Hid (b3.length + 20 = b4.length) := Lib.hid (by rw [l3, l4])
  have HLEN : Hid (b3.length = 6 ∧ b4.length = 26) := Lib.hid ⟨l3, l4⟩
  have HBT : Hid (∀ W A c (xs : List UInt8), OwnE w W A c xs → BAt W W.heap.size A xs) := Lib.hid (fun W A c xs h => OwnE.bat h)
  have HBB : Hid (∀ W W' A (xs : List UInt8), BAt W W.heap.size A xs → Below W.heap.size W W' → BAt W' W'.heap.size A xs) := Lib.hid (fun W W' A xs h hb => (h.below hb).more hb.size)
  have HBE : Hid (∀ W W', EncW w m W → Below W.heap.size W W' → EncW w m W') := Lib.hid (fun W W' r hb => r.bel hb)
  have H4 := Lib.hid e4
  have HHD : Hid (hedM kN m.txn m.frm m.key = b4 ++ (if keyM (kN : Int) then m.key else [])) := Lib.hid (by unfold hedM; rw [e4, e3, e2, e1])
  have HM20 : Hid (m.frm.length = 20 ∧ m.key.length = 20) := Lib.hid ⟨hf, hy⟩
  cases hkey : keyM (kN : Int) with
  | false =>
    rw [hkey] at H23 HHD
    simp only [Bool.false_eq_true, if_false, List.append_nil] at HHD
    rw [HHD.out]
    clear hkey HHD HYS l1 l2 l3 l4 e1 e2 e3 e4 hf hy tb
    generalize (encM m).toArray = X at *
    generalize m.txn = tx at *
    go_enter Tryz.func8, Tryz.ntmps8
    go_wp2_with (first
      | ((with_reducible refine wpList_loadV (op := ⟨some 5, _, _, _, _, _⟩) rfl 28 (.tmp 1) rfl _ ?_ _ HK0.out ?_); rfl)
      | (go_at_call 11; (with_reducible refine (HG.out _ HS.out).mono ?_); rintro e w1 ⟨rfl, r1⟩)
      | (go_at_call 22; (with_reducible refine (C1.out _ r1).mono ?_); rintro e w2 ⟨A2, c2, rfl, r2, ho2⟩; have q2 := HKI.out _ r2)
      | (go_at_call 22; (with_reducible refine (C2.out _ _ _ r2 ho2).mono ?_); rintro e w3 ⟨A3, c3, rfl, r3, ho3⟩; have q3 := HTX.out _ r3)
      | (go_at_call 22; (with_reducible refine (C3.out _ _ _ r3 ho3).mono ?_); rintro e w4 ⟨A4, c4, rfl, r4, ho4⟩)
      | (at_builtin; (refine wpList_appB (o := ⟨some 22, _, _, _, _, _⟩) rfl 22 rfl (.tmp 19) (.tmp 21) rfl (w.heap.size + 1) (.slice A4 b3.length c4) b3 ?_ ho4 (.slice (some ⟨w.heap.size, 2, none⟩) 20 20) m.frm ?_ (HFS.out _ r4) ?_ (HSZ.out _ r4) ?_); rfl; rfl; (rw [HLEN.out.1, HM20.out.1]; omega); intro A5 c5 w5 ho5 hg5; have r5 := HGR.out _ _ _ _ _ r4 ho4 hg5; rw [← H4.out] at ho5; (try rw [← H4.out]); have q5 := HKI.out _ r5)
      | (go_at_call 23; (with_reducible refine (H23.out _).mono ?_); rintro e w6 ⟨rfl, rfl⟩)
      | ((with_reducible refine wpList_loadV (op := ⟨some 31, _, _, _, _, _⟩) rfl 28 (.tmp 1) rfl _ ?_ _ (HALL.out _ r5) ?_); rfl)
      | (go_at_call 25; (with_reducible refine (HL.out _ r5).mono ?_); rintro e w7 ⟨A7, c7, rfl, h7, hb7⟩; have r7 := HBE.out _ _ r5 hb7; have h7a := HBB.out _ _ _ _ (HBT.out _ _ _ _ ho5) hb7)
      | ((with_reducible refine wpList_pairB (o := ⟨some 33, _, _, _, _, _⟩) rfl 33 rfl _ _ rfl _ _ _ _ _ _ ?_ ?_ ?_); rfl; rfl)
      | (go_at_call 24; (with_reducible refine (HCC.out _ _ _ _ _ _ r7 h7a ?_ ?_ h7).mono ?_); (rw [HLEN.out.2]; omega); (rw [HLEN.out.2]; omega); rintro e w8 ⟨A8, c8, rfl, hq8, h8, hb8⟩))
    refine bodyPost_ret (results_2b rfl _ _ _ _ rfl rfl) rfl ?_
    exact ⟨A8, c8, by rw [List.length_append]; rfl, hq8, h8, hb8⟩
  | true =>
    rw [hkey] at H23 HHD
    simp only [if_true] at HHD
    obtain ⟨b5, e5⟩ : ∃ b, b = b4 ++ m.key := ⟨_, rfl⟩
    have l5 : b5.length = 46 := by rw [e5, List.length_append, l4, hy]
    have H5 := Lib.hid e5
    have HL5 := Lib.hid l5
    rw [HHD.out, ← e5]
    clear hkey HHD e5 l5 l1 l2 l3 l4 e1 e2 e3 e4 hf hy tb
    generalize (encM m).toArray = X at *
    generalize m.txn = tx at *
    go_enter Tryz.func8, Tryz.ntmps8
    go_wp2_with (first
      | ((with_reducible refine wpList_loadV (op := ⟨some 5, _, _, _, _, _⟩) rfl 28 (.tmp 1) rfl _ ?_ _ HK0.out ?_); rfl)
      | (go_at_call 11; (with_reducible refine (HG.out _ HS.out).mono ?_); rintro e w1 ⟨rfl, r1⟩)
      | (go_at_call 22; (with_reducible refine (C1.out _ r1).mono ?_); rintro e w2 ⟨A2, c2, rfl, r2, ho2⟩; have q2 := HKI.out _ r2)
      | (go_at_call 22; (with_reducible refine (C2.out _ _ _ r2 ho2).mono ?_); rintro e w3 ⟨A3, c3, rfl, r3, ho3⟩; have q3 := HTX.out _ r3)
      | (go_at_call 22; (with_reducible refine (C3.out _ _ _ r3 ho3).mono ?_); rintro e w4 ⟨A4, c4, rfl, r4, ho4⟩)
      | (at_builtin; (refine wpList_appB (o := ⟨some 22, _, _, _, _, _⟩) rfl 22 rfl (.tmp 19) (.tmp 21) rfl (w.heap.size + 1) (.slice A4 b3.length c4) b3 ?_ ho4 (.slice (some ⟨w.heap.size, 2, none⟩) 20 20) m.frm ?_ (HFS.out _ r4) ?_ (HSZ.out _ r4) ?_); rfl; rfl; (rw [HLEN.out.1, HM20.out.1]; omega); intro A5 c5 w5 ho5 hg5; have r5 := HGR.out _ _ _ _ _ r4 ho4 hg5; rw [← H4.out] at ho5; (try rw [← H4.out]); have q5 := HKI.out _ r5)
      | (go_at_call 23; (with_reducible refine (H23.out _).mono ?_); rintro e w6 ⟨rfl, rfl⟩)
      | (at_builtin; (refine wpList_appB (o := ⟨some 29, _, _, _, _, _⟩) rfl 29 rfl (.tmp 26) (.tmp 28) rfl (w.heap.size + 1) (.slice A5 b4.length c5) b4 ?_ ho5 (.slice (some ⟨w.heap.size, 22, none⟩) 20 20) m.key ?_ (HYS.out _ r5) ?_ (HSZ.out _ r5) ?_); rfl; rfl; (rw [HLEN.out.2, HM20.out.2]; omega); intro A6 c6 w6 ho6 hg6; have r6 := HGR.out _ _ _ _ _ r5 ho5 hg6; rw [← H5.out] at ho6; (try rw [← H5.out]))
      | ((with_reducible refine wpList_loadV (op := ⟨some 31, _, _, _, _, _⟩) rfl 28 (.tmp 1) rfl _ ?_ _ (HALL.out _ r6) ?_); rfl)
      | (go_at_call 25; (with_reducible refine (HL.out _ r6).mono ?_); rintro e w7 ⟨A7, c7, rfl, h7, hb7⟩; have r7 := HBE.out _ _ r6 hb7; have h7a := HBB.out _ _ _ _ (HBT.out _ _ _ _ ho6) hb7)
      | ((with_reducible refine wpList_pairB (o := ⟨some 33, _, _, _, _, _⟩) rfl 33 rfl _ _ rfl _ _ _ _ _ _ ?_ ?_ ?_); rfl; rfl)
      | (go_at_call 24; (with_reducible refine (HCC.out _ _ _ _ _ _ r7 h7a ?_ ?_ h7).mono ?_); (rw [HL5.out]; omega); (rw [HL5.out]; omega); rintro e w8 ⟨A8, c8, rfl, hq8, h8, hb8⟩))
    refine bodyPost_ret (results_2b rfl _ _ _ _ rfl rfl) rfl ?_
    exact ⟨A8, c8, by rw [List.length_append]; rfl, hq8, h8, hb8⟩
theorem tailB_len {k : Int} {y : List UInt8} {L : List Con} {R : List Ins} (hg : goodM k y L R = true) : (tailB k L R).length ≤ 6401 := by
  unfold tailB
  by_cases h6 : k = 6
  · rw [if_pos h6]
    split
    · rename_i h
      have h64 : L.length ≤ 64 := by have := goodC_len h; unfold ctsC at this; simpa using this
      unfold listC
      rw [List.length_cons, flatC_len]
      omega
    · simp
  · rw [if_neg h6]
    by_cases h4 : k = 4 ∨ k = 7
    · rw [if_pos h4]
      unfold byR
      split
      · rename_i h
        have h16 : R.length ≤ 16 := ((goodR_iff R).1 h).1
        have := upR_len R R.length
        omega
      · simp
    · rw [if_neg h4]
      simp
theorem encode_any (m : Msg) (L : List Con) (R : List Ins) (w : World) (hc : ConV w m.vc L) (hr : InsV w m.vr R) (hL : L.length ≤ 10000) (ht : ∀ x ∈ R, x.tgt.length ≤ 100000) : Calls Tryz.prog 8 #[.agg (encM m).toArray] w (EncIs w m L R) := by
  have hG : ∀ W, EncW w m W → Calls Tryz.prog 11 #[.agg (encM m).toArray] W fun e W' => e = .returned (.bool (goodM m.kind m.key L R)) ∧ EncW w m W' := fun W r => (mgood_any m L R W (hc.below r.be) (hr.below r.be) hL ht).mono (by
    rintro e w' ⟨rfl, hb⟩
    exact ⟨rfl, r.bel hb⟩)
  cases hg : goodM m.kind m.key L R with
  | false =>
    rw [hg] at hG
    refine (encode_bad m w (Lib.hid hG)).mono ?_
    rintro e w' ⟨rfl, hb⟩
    have h1 : bytesM m.kind m.txn m.frm m.key L R = [] := by unfold bytesM; rw [hg]; rfl
    unfold EncIs
    rw [h1, hg]
    exact ⟨none, 0, rfl, by simp, .inl rfl, hb⟩
  | true =>
    rw [hg] at hG
    have hk := goodM_kind hg
    have hT := tailB_len hg
    have h1 : bytesM m.kind m.txn m.frm m.key L R = hedM m.kind.toNat m.txn m.frm m.key ++ tailB m.kind L R := by unfold bytesM; rw [hg]; rfl
    refine (encode_good m m.kind.toNat (by omega) (by omega) (tailB m.kind L R) (by omega) w (Lib.hid hG) (Lib.hid (fun W r => listbytes_any m L R W (hc.below r.be) (hr.below r.be) hL ht))).mono ?_
    rintro e w' ⟨A, c, rfl, hq, hA, hb⟩
    unfold EncIs
    rw [h1, hg]
    exact ⟨A, c, rfl, hq, hA, hb⟩
end Go.Proofs.YtehgpnnfjgmiiaaGreat
end
section
namespace Go.Proofs.YtehgpnnfjgmiiaaGreat
open Go.Shelf Go.RowKit Go.Lib Go.Great
set_option maxRecDepth 100000
set_option maxHeartbeats 2000000
def fulC (xs : List UInt8) : Cnt := ⟨(nxV (dS1 xs) : Int), nxT (dS1 xs), nxF (dS1 xs), nxY (dKy xs) (dS1 xs), dL xs, dR xs⟩
theorem decC_of (xs : List UInt8) : decC xs = if dOk xs = true then fulC xs else ⟨0, 0, zero20, zero20, [], []⟩ := rfl
theorem rfin {w : World} {xs : List UInt8} {A : Option Addr} {c : Nat} {dn : Int} {gd : Bool} {C : Cnt}
    (h : Calls Tryz.prog 20 #[.slice A xs.length c] w fun e w' => ∃ m : Msg, e = .returned (.tuple #[.agg (encM m).toArray, .int .i64 (if numV ⟨xs, false⟩ 1 = 1 ∧ dn = 0 ∧ gd = true then 0 else 10)]) ∧ IsM w' m (if numV ⟨xs, false⟩ 1 = 1 ∧ dn = 0 ∧ gd = true then C else ⟨0, 0, zero20, zero20, [], []⟩) ∧ Below w.heap.size w w')
    (hgd : gd = dGd xs) (hok : gd = true → dn = doneE (dEnd xs) ∧ C = fulC xs) : Calls Tryz.prog 20 #[.slice A xs.length c] w (DecIs w xs) := by
  have hiff : dOk xs = true ↔ (numV ⟨xs, false⟩ 1 = 1 ∧ dn = 0 ∧ gd = true) := by
    unfold dOk
    rw [← hgd]
    cases gd with
    | false => simp
    | true =>
      obtain ⟨h1, _⟩ := hok rfl
      simp [h1]
  unfold DecIs
  rw [decC_of]
  by_cases hd : dOk xs = true
  · have hh := hiff.1 hd
    obtain ⟨_, hC⟩ := hok hh.2.2
    simp only [if_pos hh, hC] at h
    simp only [if_pos hd]
    exact h
  · have hh : ¬ (numV ⟨xs, false⟩ 1 = 1 ∧ dn = 0 ∧ gd = true) := fun hh => hd (hiff.2 hh)
    simp only [if_neg hh] at h
    simp only [if_neg hd]
    exact h
theorem h12 (C : Cnt) (hL : C.L.length ≤ 10000) (hR : C.R.length ≤ 10000) (ht : ∀ x ∈ C.R, x.tgt.length ≤ 100000) : ∀ W m, IsM W m C → Calls Tryz.prog 12 #[.agg (encM m).toArray] W fun e w' => e = .returned (.bool (goodM C.kind C.key C.L C.R)) ∧ Below W.heap.size W w' := by
  rintro W m ⟨h1, _, _, h4, h5, h6⟩
  have := mrgood_any m _ _ W h5 h6 hL hR ht
  rw [h1, h4] at this
  exact this
theorem rosL_len (s : St) : (rosL s).length ≤ 256 := by
  unfold rosL
  split
  · rw [rosN_len]
    have := numV1_lt s
    omega
  · simp
theorem rosL_tgt (s : St) : ∀ x ∈ rosL s, x.tgt.length ≤ 1024 := by
  unfold rosL
  split
  · exact rosN_tgt _ _
  · intro x hx
    cases hx
theorem rlL_len (s : St) : (rlL s).length ≤ 256 := by
  unfold rlL
  split
  · rw [nxI_len]
    have := numV1_lt s
    omega
  · simp
theorem goodM_out {k : Int} {y : List UInt8} {L : List Con} {R : List Ins} (h : ¬ (1 ≤ k ∧ k ≤ 9)) : goodM k y L R = false := by
  cases hg : goodM k y L R with
  | false => rfl
  | true => exact absurd (goodM_kind hg) h
theorem rkey_out {k : Int} (h : ¬ (1 ≤ k ∧ k ≤ 9)) : rkeyM k = false := by
  unfold rkeyM
  simp
  omega
theorem rkey_in {k : Int} (h : 1 ≤ k ∧ k ≤ 9) : rkeyM k = keyM k := by
  unfold rkeyM keyM
  by_cases h1 : k = 1
  · subst h1; rfl
  · by_cases h5 : k = 5
    · subst h5; rfl
    · rw [decide_eq_true (by omega), decide_eq_true ⟨h1, h5⟩]
theorem rdecode_any (A : Option Addr) (c : Nat) (xs : List UInt8) (w : World) (hA : BAt w w.heap.size A xs) (hc : xs.length ≤ c) (hl : xs.length ≤ 100000) : Calls Tryz.prog 20 #[.slice A xs.length c] w (DecIs w xs) := by
  have K := rdKr hA hc hl
  obtain ⟨k, hk⟩ : ∃ k, k = nxV (dS1 xs) := ⟨_, rfl⟩
  by_cases hin : 1 ≤ (k : Int) ∧ (k : Int) ≤ 9
  · have hky : dKy xs = rkeyM (nxV (dS1 xs) : Int) := by
      unfold dKy
      rw [← hk, rkey_in hin]
    by_cases h6 : k = 6
    · have e6 : nxV (dS1 xs) = 6 := by rw [← hk, h6]
      have kt : rkeyM (nxV (dS1 xs) : Int) = true := by rw [e6]; rfl
      have hl4 : lstM (nxV (dS1 xs) : Int) = false := by rw [e6]; rfl
      rw [kt] at hky
      have hE : dEnd xs = rlS (takeS (nxS3 (dS1 xs)) 20) := by unfold dEnd nxE nxS4; rw [hky, e6]; rfl
      have hL : dL xs = rlL (takeS (nxS3 (dS1 xs)) 20) := by unfold dL nxL nxS4; rw [hky, e6]; rfl
      have hR : dR xs = [] := by unfold dR nxR nxS4; rw [hky, e6]; rfl
      have hY : nxY (dKy xs) (dS1 xs) = pubV (nxS3 (dS1 xs)) := by unfold nxY; rw [hky]; rfl
      have hll := rlL_len (takeS (nxS3 (dS1 xs)) 20)
      refine rfin (rdecode_c K e6 kt hl4 (L := rlL (takeS (nxS3 (dS1 xs)) 20)) (ll := (rlL (takeS (nxS3 (dS1 xs)) 20)).length) (sE := rlS (takeS (nxS3 (dS1 xs)) 20)) (fun W q cq d => (rcreadlist_any d.dv.rd.rs).mono ?_) (fun W B kk hB => back_at hB (by omega)) rfl (h12 _ (by show (rlL _).length ≤ _; omega) (by simp) (by intro x hx; cases hx))) ?_ ?_
      · rintro e W' ⟨B, kk, rfl, h1, h2, h3⟩
        exact ⟨B, kk, rfl, d.read h2 h3, h1⟩
      · unfold dGd
        rw [hY, hL, hR]
      · intro _
        unfold fulC
        rw [hE, hY, hL, hR]
        exact ⟨rfl, rfl⟩
    · by_cases h47 : k = 4 ∨ k = 7
      · have kt : rkeyM (nxV (dS1 xs) : Int) = true := by rw [← hk]; rcases h47 with rfl | rfl <;> rfl
        have hl4 : lstM (nxV (dS1 xs) : Int) = true := by rw [← hk]; rcases h47 with rfl | rfl <;> rfl
        rw [kt] at hky
        have hE : dEnd xs = rosS (takeS (nxS3 (dS1 xs)) 20) := by unfold dEnd nxE nxS4; rw [hky, ← hk, if_neg h6, if_pos h47]; rfl
        have hL : dL xs = [] := by unfold dL nxL nxS4; rw [hky, ← hk, if_neg h6]
        have hR : dR xs = rosL (takeS (nxS3 (dS1 xs)) 20) := by unfold dR nxR nxS4; rw [hky, ← hk, if_pos h47]; rfl
        have hY : nxY (dKy xs) (dS1 xs) = pubV (nxS3 (dS1 xs)) := by unfold nxY; rw [hky]; rfl
        have hll := rosL_len (takeS (nxS3 (dS1 xs)) 20)
        refine rfin (rdecode_d K (by rw [← hk]; exact h6) kt hl4 (R := rosL (takeS (nxS3 (dS1 xs)) 20)) (ll := (rosL (takeS (nxS3 (dS1 xs)) 20)).length) (sE := rosS (takeS (nxS3 (dS1 xs)) 20)) (fun W q cq d => (rosrread_any d.dv.rd).mono ?_) rfl (h12 _ (by simp) (by show (rosL _).length ≤ _; omega) (by intro x hx; have := rosL_tgt _ x hx; omega))) ?_ ?_
        · rintro e W' ⟨B, kk, rfl, h1, h2, h3⟩
          exact ⟨B, kk, rfl, d.read h2.rs h3, ⟨B, kk, rfl, h1⟩⟩
        · unfold dGd
          rw [hY, hL, hR]
        · intro _
          unfold fulC
          rw [hE, hY, hL, hR]
          exact ⟨rfl, rfl⟩
      · have hl4 : lstM (nxV (dS1 xs) : Int) = false := by
          rw [← hk]
          unfold lstM
          simp
          omega
        cases kt : rkeyM (nxV (dS1 xs) : Int) with
        | true =>
          rw [kt] at hky
          have hE : dEnd xs = takeS (nxS3 (dS1 xs)) 20 := by unfold dEnd nxE nxS4; rw [hky, ← hk, if_neg h6, if_neg h47]; rfl
          have hL : dL xs = [] := by unfold dL nxL nxS4; rw [hky, ← hk, if_neg h6]
          have hR : dR xs = [] := by unfold dR nxR nxS4; rw [hky, ← hk, if_neg h47]
          have hY : nxY (dKy xs) (dS1 xs) = pubV (nxS3 (dS1 xs)) := by unfold nxY; rw [hky]; rfl
          refine rfin (rdecode_b K (by rw [← hk]; exact h6) kt hl4 rfl (h12 _ (by simp) (by simp) (by intro x hx; cases hx))) ?_ ?_
          · unfold dGd
            rw [hY, hL, hR]
          · intro _
            unfold fulC
            rw [hE, hY, hL, hR]
            exact ⟨rfl, rfl⟩
        | false =>
          rw [kt] at hky
          have hE : dEnd xs = nxS3 (dS1 xs) := by unfold dEnd nxE nxS4; rw [hky, ← hk, if_neg h6, if_neg h47]; rfl
          have hL : dL xs = [] := by unfold dL nxL nxS4; rw [hky, ← hk, if_neg h6]
          have hR : dR xs = [] := by unfold dR nxR nxS4; rw [hky, ← hk, if_neg h47]
          have hY : nxY (dKy xs) (dS1 xs) = zero20 := by unfold nxY; rw [hky]; rfl
          refine rfin (rdecode_a K (by rw [← hk]; exact h6) kt hl4 rfl (h12 _ (by simp) (by simp) (by intro x hx; cases hx))) ?_ ?_
          · unfold dGd
            rw [hY, hL, hR]
          · intro _
            unfold fulC
            rw [hE, hY, hL, hR]
            exact ⟨rfl, rfl⟩
  · have hin' : ¬ (1 ≤ (nxV (dS1 xs) : Int) ∧ (nxV (dS1 xs) : Int) ≤ 9) := by rw [← hk]; exact hin
    have hl4 : lstM (nxV (dS1 xs) : Int) = false := by
      unfold lstM
      simp
      omega
    refine rfin (rdecode_a K (by omega) (rkey_out hin') hl4 rfl (h12 _ (by simp) (by simp) (by intro x hx; cases hx))) ?_ ?_
    · rw [goodM_out hin']
      unfold dGd
      rw [goodM_out hin']
    · intro h
      rw [goodM_out hin'] at h
      cases h
end Go.Proofs.YtehgpnnfjgmiiaaGreat
end
section
namespace Go.Proofs.YtehgpnnfjgmiiaaGreat
open Go.Shelf Go.RowKit Go.Lib Go.Great
set_option maxRecDepth 100000
set_option maxHeartbeats 1000000
def livM : Msg := ⟨1, 1, zero20, zero20, .slice none 0 0, .slice none 0 0, by omega, by omega, by simp [zero20], by simp [zero20], rfl, rfl⟩
def livB : List UInt8 := [1, 1, 0, 0, 0, 1, 0, 0, 0, 0, 0, 0, 0, 0, 0, 0, 0, 0, 0, 0, 0, 0, 0, 0, 0, 0]
theorem liv_good : goodM 1 zero20 [] [] = true := by decide +kernel
theorem liv_bytes : bytesM 1 1 zero20 zero20 [] [] = livB := by
  unfold bytesM
  rw [liv_good]
  simp only [if_true]
  decide +kernel
theorem run_build28l (W : World) : (Instr.build 28 #[(0, .int .i64 1), (1, .int .u32 1)]).run Tryz.prog W = .ok (.agg (encM livM).toArray) W := by kernel_rfl
theorem wlives_any (w : World) : Calls Tryz.prog 7 #[] w fun e w' => e = .returned (.bool true) ∧ Below w.heap.size w w' := by
  have h8 := encode_any livM [] [] w (conV_nil w) (insV_nil w) (by simp) (by simp)
  have H8 : Hid (Calls Tryz.prog 8 #[.agg (encM livM).toArray] w fun e w' => ∃ g o c, e = .returned (.tuple #[.slice (some ⟨g, o, none⟩) 26 c, .int .i64 0]) ∧ 26 ≤ c ∧ BAt w' w'.heap.size (some ⟨g, o, none⟩) livB ∧ Below w.heap.size w w') := by
    refine Lib.hid (h8.mono ?_)
    rintro e w' ⟨A, c, rfl, hq, hA, hb⟩
    have e1 : bytesM livM.kind livM.txn livM.frm livM.key [] [] = livB := liv_bytes
    have e2 : goodM livM.kind livM.key [] [] = true := liv_good
    rw [e1] at hq hA ⊢
    rw [e2]
    rcases hA with h | ⟨g, o, rfl, h⟩
    · cases h
    · exact ⟨g, o, c, rfl, hq, .inr ⟨g, o, rfl, h⟩, hb⟩
  have H15 : Hid (∀ W, Calls Tryz.prog 15 #[.int .i64 1, .int .i64 5] W fun e w' => e = .returned (.bool true) ∧ w' = W) := Lib.hid (fun W => answers_any 1 5 W)
  have HCV : Hid (∀ (W : World) (g o c : Nat), BAt W W.heap.size (some ⟨g, o, none⟩) livB → (convert 31 9 (.slice (some ⟨g, o, none⟩) 6 c)).run Tryz.prog W = .ok (.string ⟨#[1, 1, 0, 0, 0, 1]⟩) W) := Lib.hid (fun W g o c h => by
    have h6 : BAt W W.heap.size (some ⟨g, o, none⟩) [1, 1, 0, 0, 0, 1] := by
      rcases h with h | ⟨g', o', he, hg, hc⟩
      · cases h
      · injection he with he
        injection he with e1 e2
        subst e1 e2
        exact .inr ⟨_, _, rfl, hg, fun j hj => by
          have h := hc j (by simp [livB]; simp at hj; omega)
          rw [h]
          match j, hj with
          | 0, _ => rfl
          | 1, _ => rfl
          | 2, _ => rfl
          | 3, _ => rfl
          | 4, _ => rfl
          | 5, _ => rfl
          | k + 6, hj => exact absurd hj (by simp)⟩
    exact run_convert_bat (P := Tryz.prog) 31 9 5 c Tryz.underlying31 Tryz.underlying5 Tryz.underlying9 h6)
  have HBU := Lib.hid run_build28l
  generalize (encM livM).toArray = X at *
  clear h8
  go_enter Tryz.func7, Tryz.ntmps7
  go_wp2_with (first
    | ((with_reducible refine wpList_buildV (o := ⟨some 4, _, _, _, _, _⟩) rfl 28 _ rfl _ ?_ _ (HBU.out _) ?_); (simp only [List.map_toArray, List.map_cons, List.map_nil]; rfl))
    | (go_at_call 8; (with_reducible refine H8.out.mono ?_); rintro e w1 ⟨g1, o1, c1, rfl, hc1, h1, hb1⟩; have hcv := HCV.out _ g1 o1 c1 h1)
    | (go_at_call 15; (with_reducible refine (H15.out _).mono ?_); rintro e w2 ⟨rfl, rfl⟩))
  go_ret
  exact ⟨rfl, hb1⟩
end Go.Proofs.YtehgpnnfjgmiiaaGreat
end
