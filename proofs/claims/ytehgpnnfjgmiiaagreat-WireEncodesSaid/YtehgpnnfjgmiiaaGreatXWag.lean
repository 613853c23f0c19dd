/- Light, and listBytes of the program. Conditions: at most 10,000 contacts, targets of at most 100,000 bytes. Encode of the program. Conditions: at most 10,000 contacts, targets of at most 100,000 bytes. -/
import Derived.Test.YtehgpnnfjgmiiaaGreatXWad
import Derived.Test.YtehgpnnfjgmiiaaGreatXIiv
import Derived.Test.YtehgpnnfjgmiiaaGreatXOja
import Derived.Test.YtehgpnnfjgmiiaaGreatXNCdg
import Derived.Test.YtehgpnnfjgmiiaaGreatXREMathb
import Derived.Test.YtehgpnnfjgmiiaaGreatXIix
section
namespace Go.Proofs.YtehgpnnfjgmiiaaGreat
open Go.Shelf Go.RowKit Go.Lib Go.Great
set_option maxRecDepth 100000
set_option maxHeartbeats 1000000
def lightM (L : List Con) (R : List Ins) : Bool := decide (L.length ≤ 80) && lightR R
theorem mlight_any (m : Msg) (L : List Con) (R : List Ins) (w : World) (hc : ConV w m.vc L) (hr : InsV w m.vr R) (hR : R.length ≤ 9223372036854775807) : Calls Tryz.prog 6 #[.agg (encM m).toArray] w fun e w' => e = .returned (.bool (lightM L R)) ∧ Below w.heap.size w w' := by
  have hb : Below w.heap.size w (w.alloc (.cells (encM m).toArray 28)) := (Below.refl _ w).alloc (Nat.le_refl _) _
  obtain ⟨A, c, hv, _, _⟩ := hc
  have hr1 := hr.below hb
  obtain ⟨A', c', hv', hA'⟩ := hr1
  have F := fldM (heap_alloc_new w (.cells (encM m).toArray 28))
  have q1 := F.con
  have q2 := F.ros
  rw [hv] at q1
  rw [hv'] at q2
  have H21 : Hid (Calls Tryz.prog 21 #[.slice A' R.length c'] (w.alloc (.cells (encM m).toArray 28)) fun e w' => e = .returned (.bool (lightR R)) ∧ Below w.heap.size w w') := Lib.hid ((light_any A' c' R _ hR hA').mono (by
    rintro e w' ⟨rfl, h⟩
    exact ⟨rfl, hb.trans (h.mono (by simp))⟩))
  have HB := Lib.hid hb
  unfold lightM
  clear hb hA' hv hv' F hr
  generalize (encM m).toArray = X at *
  generalize lightR R = S at *
  generalize L.length = n at *
  by_cases hn : n ≤ 80
  · have hn' : (n : Int) ≤ 80 := by omega
    rw [decide_eq_true hn, Bool.true_and]
    go_enter Tryz.func6, Tryz.ntmps6
    go_wp2_with (go_at_call 21; (with_reducible refine H21.out.mono ?_); rintro e w1 ⟨rfl, hb1⟩)
    go_ret
    exact ⟨rfl, hb1⟩
  · have hn' : ¬ (n : Int) ≤ 80 := by omega
    rw [decide_eq_false hn, Bool.false_and]
    go_enter Tryz.func6, Tryz.ntmps6
    go_wp2_with (go_at_call 21; (with_reducible refine H21.out.mono ?_); rintro e w1 ⟨rfl, hb1⟩)
    go_ret
    exact ⟨rfl, HB.out⟩
/-- The bytes of the list at a message's end. -/
def tailB (k : Int) (L : List Con) (R : List Ins) : List UInt8 := if k = 6 then (if goodC (ctsC L) then listC (ctsC L) else []) else if k = 4 ∨ k = 7 then byR R else []
theorem listbytes_6 (X : Array Value) (A : Option Addr) (n c : Nat) (B : List UInt8) (er : Int) (w : World) (q0 : (w.alloc (.cells X 28)).cell? ⟨w.heap.size, 0, none⟩ = some (.int .i64 6)) (q1 : (w.alloc (.cells X 28)).cell? ⟨w.heap.size, 42, none⟩ = some (.slice A n c))
    (H : Hid (Calls Tryz.prog 53 #[.slice A n c] (w.alloc (.cells X 28)) fun e w' => ∃ A' c', e = .returned (.tuple #[.slice A' B.length c', .int .i64 er]) ∧ BAt w' w'.heap.size A' B ∧ Below w.heap.size w w')) : Calls Tryz.prog 25 #[.agg X] w fun e w' => ∃ A' c', e = .returned (.slice A' B.length c') ∧ BAt w' w'.heap.size A' B ∧ Below w.heap.size w w' := by
  generalize B.length = b at *
  go_enter Tryz.func25, Tryz.ntmps25
  go_wp2_with (go_at_call 53; (with_reducible refine H.out.mono ?_); rintro e w1 ⟨A1, c1, rfl, h1, hb1⟩; have H1 := Lib.hid h1; clear h1)
  go_ret
  exact ⟨A1, c1, rfl, H1.out, hb1⟩
theorem listbytes_47 (k : Int) (hk : k = 4 ∨ k = 7) (X : Array Value) (A : Option Addr) (n c : Nat) (B : List UInt8) (er : Int) (w : World) (q0 : (w.alloc (.cells X 28)).cell? ⟨w.heap.size, 0, none⟩ = some (.int .i64 k)) (q1 : (w.alloc (.cells X 28)).cell? ⟨w.heap.size, 43, none⟩ = some (.slice A n c))
    (H : Hid (Calls Tryz.prog 54 #[.slice A n c] (w.alloc (.cells X 28)) fun e w' => ∃ A' c', e = .returned (.tuple #[.slice A' B.length c', .int .i64 er]) ∧ BAt w' w'.heap.size A' B ∧ Below w.heap.size w w')) : Calls Tryz.prog 25 #[.agg X] w fun e w' => ∃ A' c', e = .returned (.slice A' B.length c') ∧ BAt w' w'.heap.size A' B ∧ Below w.heap.size w w' := by
  generalize B.length = b at *
  rcases hk with rfl | rfl
  · go_enter Tryz.func25, Tryz.ntmps25
    go_wp2_with (go_at_call 54; (with_reducible refine H.out.mono ?_); rintro e w1 ⟨A1, c1, rfl, h1, hb1⟩; have H1 := Lib.hid h1; clear h1)
    go_ret
    exact ⟨A1, c1, rfl, H1.out, hb1⟩
  · go_enter Tryz.func25, Tryz.ntmps25
    go_wp2_with (go_at_call 54; (with_reducible refine H.out.mono ?_); rintro e w1 ⟨A1, c1, rfl, h1, hb1⟩; have H1 := Lib.hid h1; clear h1)
    go_ret
    exact ⟨A1, c1, rfl, H1.out, hb1⟩
theorem listbytes_no (k : Int) (h6 : ¬ k = 6) (h4 : ¬ k = 4) (h7 : ¬ k = 7) (X : Array Value) (w : World) (q0 : (w.alloc (.cells X 28)).cell? ⟨w.heap.size, 0, none⟩ = some (.int .i64 k)) : Calls Tryz.prog 25 #[.agg X] w fun e w' => e = .returned (.slice none 0 0) ∧ Below w.heap.size w w' := by
  have b6 := beqF h6
  have b4 := beqF h4
  have b7 := beqF h7
  have HB : Hid (Below w.heap.size w (w.alloc (.cells X 28))) := Lib.hid ((Below.refl _ w).alloc (Nat.le_refl _) _)
  go_enter Tryz.func25, Tryz.ntmps25
  go_wp2
  go_ret
  exact ⟨rfl, HB.out⟩
theorem listbytes_any (m : Msg) (L : List Con) (R : List Ins) (w : World) (hc : ConV w m.vc L) (hr : InsV w m.vr R) (hL : L.length ≤ 10000) (ht : ∀ x ∈ R, x.tgt.length ≤ 100000) : Calls Tryz.prog 25 #[.agg (encM m).toArray] w fun e w' => ∃ A c, e = .returned (.slice A (tailB m.kind L R).length c) ∧ BAt w' w'.heap.size A (tailB m.kind L R) ∧ Below w.heap.size w w' := by
  have hb : Below w.heap.size w (w.alloc (.cells (encM m).toArray 28)) := (Below.refl _ w).alloc (Nat.le_refl _) _
  have hc1 := hc.below hb
  have hr1 := hr.below hb
  obtain ⟨A, c, hv, hA, hA2⟩ := hc1
  obtain ⟨A', c', hv', hA'⟩ := hr1
  have F := fldM (heap_alloc_new w (.cells (encM m).toArray 28))
  by_cases h6 : m.kind = 6
  · have e : tailB m.kind L R = if goodC (ctsC L) then listC (ctsC L) else [] := by unfold tailB; rw [if_pos h6]
    rw [e]
    refine listbytes_6 _ A L.length c _ (if goodC (ctsC L) then 0 else 2) w (by rw [← h6]; exact F.kind) (by rw [← hv]; exact F.con) (Lib.hid ((clist_any A c L _ hL hA hA2).mono ?_))
    rintro e1 w1 ⟨v, rfl, ho, hb1⟩
    obtain ⟨B, q, rfl, hB, _⟩ := own_bat ho
    exact ⟨B, q, rfl, hB, hb.trans (hb1.mono (by simp))⟩
  · by_cases h4 : m.kind = 4 ∨ m.kind = 7
    · have e : tailB m.kind L R = byR R := by unfold tailB; rw [if_neg h6, if_pos h4]
      rw [e]
      refine listbytes_47 m.kind h4 _ A' R.length c' _ (errR R) w F.kind (by rw [← hv']; exact F.ros) (Lib.hid ((rosbytes_any A' c' R _ ht hA').mono ?_))
      rintro e1 w1 ⟨v, rfl, ⟨B, q, rfl, _, hB⟩, hb1⟩
      exact ⟨B, q, rfl, hB, hb.trans (hb1.mono (by simp))⟩
    · have e : tailB m.kind L R = [] := by unfold tailB; rw [if_neg h6, if_neg h4]
      rw [e]
      refine (listbytes_no m.kind h6 (fun h => h4 (.inl h)) (fun h => h4 (.inr h)) _ w F.kind).mono ?_
      rintro e1 w1 ⟨rfl, hb1⟩
      exact ⟨none, 0, rfl, .inl rfl, hb1⟩
end Go.Proofs.YtehgpnnfjgmiiaaGreat
end
section
namespace Go.Proofs.YtehgpnnfjgmiiaaGreat
open Go.Shelf Go.RowKit Go.Lib Go.Great
set_option maxRecDepth 100000
set_option maxHeartbeats 2000000
/-- The message lies in the block w.heap.size, and what lay there before is as it was. -/
structure EncW (w : World) (m : Msg) (W : World) : Prop where
  h1 : W.heap[w.heap.size]? = some (.cells (encM m).toArray 28 (0, 0))
  be : Below w.heap.size w W
theorem EncW.start (w : World) (m : Msg) : EncW w m (w.alloc (.cells (encM m).toArray 28)) := ⟨heap_alloc_new w _, (Below.refl _ w).alloc (Nat.le_refl _) _⟩
theorem EncW.lt {w W : World} {m : Msg} (r : EncW w m W) : w.heap.size < W.heap.size := (Array.getElem?_eq_some_iff.1 r.h1).1
theorem EncW.bel {w W W' : World} {m : Msg} (r : EncW w m W) (hb : Below W.heap.size W W') : EncW w m W' := ⟨(hb.block _ r.lt).trans r.h1, r.be.trans (hb.mono r.be.size)⟩
theorem EncW.grown {w W W' : World} {m : Msg} {ob : Option Nat} (r : EncW w m W) (hg : W.grownBy W' ob) (ho : ∀ k, ob = some k → w.heap.size + 1 ≤ k) : EncW w m W' :=
  ⟨(hg.block _ r.lt (by intro e; first | (have := ho _ e; omega) | (have := ho _ e.symm; omega))).trans r.h1, below_ownB r.be r.be.size hg (fun k hk => by have := ho k hk; omega)⟩
theorem EncW.fld {w W : World} {m : Msg} (r : EncW w m W) : FldM W w.heap.size m := fldM r.h1
theorem EncW.frmS {w W : World} {m : Msg} (r : EncW w m W) : Src Tryz.prog 1 31 (.slice (some ⟨w.heap.size, 2, none⟩) 20 20) m.frm.length (bcells m.frm) W := by
  have h : BAt W W.heap.size (some ⟨w.heap.size, 2, none⟩) m.frm := .inr ⟨w.heap.size, 2, rfl, r.lt, fun j hj => r.fld.frmR j _ (by simp [bcells, hj])⟩
  have := h.src (P := Tryz.prog) (t := 31) Tryz.underlying31 20
  rwa [m.hf] at this ⊢
theorem EncW.keyS {w W : World} {m : Msg} (r : EncW w m W) : Src Tryz.prog 1 31 (.slice (some ⟨w.heap.size, 22, none⟩) 20 20) m.key.length (bcells m.key) W := by
  have h : BAt W W.heap.size (some ⟨w.heap.size, 22, none⟩) m.key := .inr ⟨w.heap.size, 22, rfl, r.lt, fun j hj => r.fld.keyR j _ (by simp [bcells, hj])⟩
  have := h.src (P := Tryz.prog) (t := 31) Tryz.underlying31 20
  rwa [m.hy] at this ⊢
/-- Bytes that the function owns, beside the message. -/
def OwnE (w : World) (W : World) (A : Option Addr) (c : Nat) (xs : List UInt8) : Prop := W.ownsRow (w.heap.size + 1) 5 1 (.slice A xs.length c) xs.length (bcells xs)
theorem putE {w W : World} {m : Msg} {xs : List UInt8} {A : Option Addr} {c : Nat} (r : EncW w m W) (hA : BAt W W.heap.size A xs) (hl : xs.length ≤ 1000) (N k : Nat) (hN : N < 18446744073709551616) (hk1 : 1 ≤ k) (hk : k ≤ 8) :
    Calls Tryz.prog 22 #[.slice A xs.length c, .int .u64 (N : Int), .int .i64 (k : Int)] W fun e W' => ∃ A' c', e = .returned (.slice A' (xs ++ putB N k).length c') ∧ EncW w m W' ∧ OwnE w W' A' c' (xs ++ putB N k) := by
  refine (put_yes A c N k xs W hA (by omega) hN hk1 hk).mono ?_
  rintro e w' ⟨v', rfl, ho, hb⟩
  obtain ⟨A', c', rfl, _, _⟩ := own_bat ho
  exact ⟨A', c', rfl, r.bel hb, own_baseC ho (by have := r.lt; omega)⟩
theorem OwnE.bat {w W : World} {A : Option Addr} {c : Nat} {xs : List UInt8} (h : OwnE w W A c xs) : BAt W W.heap.size A xs := BAt.of_own h (Nat.le_refl _)
theorem OwnE.cap {w W : World} {A : Option Addr} {c : Nat} {xs : List UInt8} (h : OwnE w W A c xs) : xs.length ≤ c := by
  obtain ⟨_, _, e, hq, _⟩ := IsB.of_own h
  injection e with _ _ e
  omega
theorem run_pairB (a b : Value) (W : World) (ha : ∃ A n c, a = .slice A n c) (hb : ∃ A n c, b = .slice A n c) : (Instr.buildSlice 82 2 #[(0, a), (1, b)]).run Tryz.prog W = .ok (.slice (some ⟨W.heap.size, 0, none⟩) 2 2) (W.alloc (.cells #[a, b] 31)) := by
  obtain ⟨A, n, c, rfl⟩ := ha
  obtain ⟨A', n', c', rfl⟩ := hb
  kernel_rfl
theorem wpList_pairB {ops : Array Oper} {rest : List Oper} {o : Oper} {act : Act} {w : World} {Q : Exit → Act → World → Prop} (hgd : o.guard = none) (d : Nat) (hd : o.dst = some d) (x y : Operand) (ho : o.op = .buildSlice 82 2 #[(0, x), (1, y)]) (A A' : Option Addr) (n c n' c' : Nat)
    (hx : act.eval x = .slice A n c) (hy : act.eval y = .slice A' n' c')
    (h : wpList Tryz.prog ops Q rest (act.put (some d) (.slice (some ⟨w.heap.size, 0, none⟩) 2 2)) (w.alloc (.cells #[.slice A n c, .slice A' n' c'] 31))) : wpList Tryz.prog ops Q (o :: rest) act w :=
  wpList_plain hgd fun _ hK => by
    unfold Oper.wp execOp
    simp only [ho, List.map_toArray, List.map_cons, List.map_nil, hx, hy, Sem.run_bind, run_pairB _ _ _ ⟨A, n, c, rfl⟩ ⟨A', n', c', rfl⟩, Result.andThen_ok, Sem.run_pure]
    rw [← hd] at h
    exact hK _ _ h
/-- The bytes ahead of a message's list. -/
def hedM (k t : Nat) (f y : List UInt8) : List UInt8 := putB 1 1 ++ putB k 1 ++ putB t 4 ++ f ++ (if keyM k then y else [])
def errM (g : Bool) : Int := if g then 0 else 2
def bytesM (k : Int) (t : Nat) (f y : List UInt8) (L : List Con) (R : List Ins) : List UInt8 := if goodM k y L R then hedM k.toNat t f y ++ tailB k L R else []
def EncIs (w : World) (m : Msg) (L : List Con) (R : List Ins) (e : Ending) (w' : World) : Prop :=
  ∃ A c, e = .returned (.tuple #[.slice A (bytesM m.kind m.txn m.frm m.key L R).length c, .int .i64 (errM (goodM m.kind m.key L R))]) ∧ (bytesM m.kind m.txn m.frm m.key L R).length ≤ c ∧ BAt w' w'.heap.size A (bytesM m.kind m.txn m.frm m.key L R) ∧ Below w.heap.size w w'
theorem goodM_kind {k : Int} {y : List UInt8} {L : List Con} {R : List Ins} (h : goodM k y L R = true) : 1 ≤ k ∧ k ≤ 9 := by
  unfold goodM at h
  by_cases h1 : k = 1 ∨ k = 5
  · omega
  · rw [if_neg h1] at h
    by_cases h2 : k = 2 ∨ k = 3 ∨ k = 8 ∨ k = 9
    · omega
    · rw [if_neg h2] at h
      by_cases h3 : k = 6
      · omega
      · rw [if_neg h3] at h
        by_cases h4 : k = 4 ∨ k = 7
        · omega
        · rw [if_neg h4] at h
          cases h
theorem encode_bad (m : Msg) (w : World) (HG : Hid (∀ W, EncW w m W → Calls Tryz.prog 11 #[.agg (encM m).toArray] W fun e W' => e = .returned (.bool false) ∧ EncW w m W')) : Calls Tryz.prog 8 #[.agg (encM m).toArray] w fun e w' => e = .returned (.tuple #[.slice none 0 0, .int .i64 2]) ∧ Below w.heap.size w w' := by
  have HK := Lib.hid ((EncW.start w m).fld.all)
  have HS := Lib.hid (EncW.start w m)
  have HE : Hid (∀ W, EncW w m W → Below w.heap.size w W) := Lib.hid (fun W h => h.be)
  generalize (encM m).toArray = X at *
  go_enter Tryz.func8, Tryz.ntmps8
  go_wp2_with (first
    | ((with_reducible refine wpList_loadV (op := ⟨some 5, _, _, _, _, _⟩) rfl 28 (.tmp 1) rfl _ ?_ _ HK.out ?_); rfl)
    | (go_at_call 11; (with_reducible refine (HG.out _ HS.out).mono ?_); rintro e w1 ⟨rfl, r1⟩))
  refine bodyPost_ret (results_2b rfl _ _ _ _ rfl rfl) rfl ?_
  exact ⟨rfl, HE.out _ r1⟩
theorem tail_len {A : List UInt8} (h : A.length ≤ 90000) : A.length ≤ 100000 := by omega
theorem encode_good (m : Msg) (kN : Nat) (hkN : m.kind = (kN : Int)) (hk9 : kN ≤ 9) (T : List UInt8) (hT : T.length ≤ 90000) (w : World)
    (HG : Hid (∀ W, EncW w m W → Calls Tryz.prog 11 #[.agg (encM m).toArray] W fun e W' => e = .returned (.bool true) ∧ EncW w m W'))
    (HL : Hid (∀ W, EncW w m W → Calls Tryz.prog 25 #[.agg (encM m).toArray] W fun e W' => ∃ A c, e = .returned (.slice A T.length c) ∧ BAt W' W'.heap.size A T ∧ Below W.heap.size W W')) :
    Calls Tryz.prog 8 #[.agg (encM m).toArray] w fun e w' => ∃ A c, e = .returned (.tuple #[.slice A (hedM kN m.txn m.frm m.key ++ T).length c, .int .i64 0]) ∧ (hedM kN m.txn m.frm m.key ++ T).length ≤ c ∧ BAt w' w'.heap.size A (hedM kN m.txn m.frm m.key ++ T) ∧ Below w.heap.size w w' := by
  have HK0 := Lib.hid ((EncW.start w m).fld.all)
  have HS := Lib.hid (EncW.start w m)
  have HE : Hid (∀ W, EncW w m W → Below w.heap.size w W) := Lib.hid (fun W h => h.be)
  have HALL : Hid (∀ W, EncW w m W → (loadVar 28 ⟨w.heap.size, 0, none⟩).run Tryz.prog W = .ok (.agg (encM m).toArray) W) := Lib.hid (fun W r => r.fld.all)
  have HKI : Hid (∀ W, EncW w m W → W.cell? ⟨w.heap.size, 0, none⟩ = some (.int .i64 (kN : Int))) := Lib.hid (fun W r => by rw [← hkN]; exact r.fld.kind)
  have HTX : Hid (∀ W, EncW w m W → W.cell? ⟨w.heap.size, 1, none⟩ = some (.int .u32 (m.txn : Int))) := Lib.hid (fun W r => r.fld.txn)
  have HFS : Hid (∀ W, EncW w m W → Src Tryz.prog 1 31 (.slice (some ⟨w.heap.size, 2, none⟩) 20 20) m.frm.length (bcells m.frm) W) := Lib.hid (fun W r => r.frmS)
  have HYS : Hid (∀ W, EncW w m W → Src Tryz.prog 1 31 (.slice (some ⟨w.heap.size, 22, none⟩) 20 20) m.key.length (bcells m.key) W) := Lib.hid (fun W r => r.keyS)
  have H23 : Hid (∀ W, Calls Tryz.prog 23 #[.int .i64 (kN : Int)] W fun e w' => e = .returned (.bool (keyM (kN : Int))) ∧ w' = W) := Lib.hid (fun W => haskey_any (kN : Int) W)
  have tb := m.ht
  have hf := m.hf
  have hy := m.hy
  have hw1 : (kN : Int) % 18446744073709551616 = (kN : Int) := by omega
  have hw2 : (m.txn : Int) % 18446744073709551616 = (m.txn : Int) := by omega
  obtain ⟨b1, e1⟩ : ∃ b, b = putB 1 1 := ⟨_, rfl⟩
  obtain ⟨b2, e2⟩ : ∃ b, b = b1 ++ putB kN 1 := ⟨_, rfl⟩
  obtain ⟨b3, e3⟩ : ∃ b, b = b2 ++ putB m.txn 4 := ⟨_, rfl⟩
  obtain ⟨b4, e4⟩ : ∃ b, b = b3 ++ m.frm := ⟨_, rfl⟩
  have l1 : b1.length = 1 := by rw [e1, putB_length]
  have l2 : b2.length = 2 := by rw [e2, List.length_append, l1, putB_length]
  have l3 : b3.length = 6 := by rw [e3, List.length_append, l2, putB_length]
  have l4 : b4.length = 26 := by rw [e4, List.length_append, l3, hf]
  have C1 : Hid (∀ W, EncW w m W → Calls Tryz.prog 22 #[.slice none 0 0, .int .u64 1, .int .i64 1] W fun e W' => ∃ A c, e = .returned (.slice A b1.length c) ∧ EncW w m W' ∧ OwnE w W' A c b1) := Lib.hid (fun W r => by
    have := putE (xs := []) (A := none) (c := 0) r (.inl rfl) (by simp) 1 1 (by omega) (by omega) (by omega)
    rw [List.nil_append, ← e1] at this
    exact this)
  have C2 : Hid (∀ W A c, EncW w m W → OwnE w W A c b1 → Calls Tryz.prog 22 #[.slice A b1.length c, .int .u64 (kN : Int), .int .i64 1] W fun e W' => ∃ A c, e = .returned (.slice A b2.length c) ∧ EncW w m W' ∧ OwnE w W' A c b2) := Lib.hid (fun W A c r h => by
    have := putE (c := c) r h.bat (by omega) kN 1 (by omega) (by omega) (by omega)
    rw [← e2] at this
    exact this)
  have C3 : Hid (∀ W A c, EncW w m W → OwnE w W A c b2 → Calls Tryz.prog 22 #[.slice A b2.length c, .int .u64 (m.txn : Int), .int .i64 4] W fun e W' => ∃ A c, e = .returned (.slice A b3.length c) ∧ EncW w m W' ∧ OwnE w W' A c b3) := Lib.hid (fun W A c r h => by
    have := putE (c := c) r h.bat (by omega) m.txn 4 (by omega) (by omega) (by omega)
    rw [← e3] at this
    exact this)
  have HGR : Hid (∀ W W' A c (xs : List UInt8), EncW w m W → OwnE w W A c xs → W.grownBy W' (Value.slice A xs.length c).ownBlock → EncW w m W') := Lib.hid (fun W W' A c xs r h hg => r.grown hg (fun k hk => (World.ownsRow.lt h k hk).1))
  have HSZ : Hid (∀ W, EncW w m W → w.heap.size + 1 ≤ W.heap.size) := Lib.hid (fun W r => r.lt)
  have HCC : Hid (∀ (A A2 : Option Addr) (c c2 : Nat) (xs : List UInt8) (W : World), EncW w m W → BAt W W.heap.size A xs → 0 < xs.length → xs.length ≤ 100 → BAt W W.heap.size A2 T → Calls Tryz.prog 24 #[.slice (some ⟨W.heap.size, 0, none⟩) 2 2] (W.alloc (.cells #[.slice A xs.length c, .slice A2 T.length c2] 31)) fun e w' => ∃ B q, e = .returned (.slice B (xs ++ T).length q) ∧ (xs ++ T).length ≤ q ∧ BAt w' w'.heap.size B (xs ++ T) ∧ Below w.heap.size w w') := Lib.hid (fun A A2 c c2 xs W r hA h0 hx hA2 => by
    have hb : Below W.heap.size W (W.alloc (.cells #[.slice A xs.length c, .slice A2 T.length c2] 31)) := (Below.refl _ W).alloc (Nat.le_refl _) _
    refine (concat_any A A2 c c2 W.heap.size xs T (W.alloc (.cells #[.slice A xs.length c, .slice A2 T.length c2] 31)) (by omega) (by omega) (by omega) (heap_alloc_new W _) ((hA.below hb).more hb.size) ((hA2.below hb).more hb.size)).mono ?_
    rintro e w' ⟨v, rfl, ho, hb2⟩
    obtain ⟨B, q, rfl, hq, hB⟩ := IsB.of_own ho
    exact ⟨B, q, rfl, hq, hB, r.be.trans ((hb.trans (hb2.mono hb.size)).mono r.be.size)⟩)
  have HB3 : Hid (b3.length + 20 = b4.length) := Lib.hid (by rw [l3, l4])
  have HLEN : Hid (b3.length = 6 ∧ b4.length = 26) := Lib.hid ⟨l3, l4⟩
  have HBT : Hid (∀ W A c (xs : List UInt8), OwnE w W A c xs → BAt W W.heap.size A xs) := Lib.hid (fun W A c xs h => OwnE.bat h)
  have HBB : Hid (∀ W W' A (xs : List UInt8), BAt W W.heap.size A xs → Below W.heap.size W W' → BAt W' W'.heap.size A xs) := Lib.hid (fun W W' A xs h hb => (h.below hb).more hb.size)
  have HBE : Hid (∀ W W', EncW w m W → Below W.heap.size W W' → EncW w m W') := Lib.hid (fun W W' r hb => r.bel hb)
  have H4 := Lib.hid e4
  have HHD : Hid (hedM kN m.txn m.frm m.key = b4 ++ (if keyM (kN : Int) then m.key else [])) := Lib.hid (by unfold hedM; rw [e4, e3, e2, e1])
  have HM20 : Hid (m.frm.length = 20 ∧ m.key.length = 20) := Lib.hid ⟨hf, hy⟩
  cases hkey : keyM (kN : Int) with
  | false =>
    rw [hkey] at H23 HHD
    simp only [Bool.false_eq_true, if_false, List.append_nil] at HHD
    rw [HHD.out]
    clear hkey HHD HYS l1 l2 l3 l4 e1 e2 e3 e4 hf hy tb
    generalize (encM m).toArray = X at *
    generalize m.txn = tx at *
    go_enter Tryz.func8, Tryz.ntmps8
    go_wp2_with (first
      | ((with_reducible refine wpList_loadV (op := ⟨some 5, _, _, _, _, _⟩) rfl 28 (.tmp 1) rfl _ ?_ _ HK0.out ?_); rfl)
      | (go_at_call 11; (with_reducible refine (HG.out _ HS.out).mono ?_); rintro e w1 ⟨rfl, r1⟩)
      | (go_at_call 22; (with_reducible refine (C1.out _ r1).mono ?_); rintro e w2 ⟨A2, c2, rfl, r2, ho2⟩; have q2 := HKI.out _ r2)
      | (go_at_call 22; (with_reducible refine (C2.out _ _ _ r2 ho2).mono ?_); rintro e w3 ⟨A3, c3, rfl, r3, ho3⟩; have q3 := HTX.out _ r3)
      | (go_at_call 22; (with_reducible refine (C3.out _ _ _ r3 ho3).mono ?_); rintro e w4 ⟨A4, c4, rfl, r4, ho4⟩)
      | (at_builtin; (refine wpList_appB (o := ⟨some 22, _, _, _, _, _⟩) rfl 22 rfl (.tmp 19) (.tmp 21) rfl (w.heap.size + 1) (.slice A4 b3.length c4) b3 ?_ ho4 (.slice (some ⟨w.heap.size, 2, none⟩) 20 20) m.frm ?_ (HFS.out _ r4) ?_ (HSZ.out _ r4) ?_); rfl; rfl; (rw [HLEN.out.1, HM20.out.1]; omega); intro A5 c5 w5 ho5 hg5; have r5 := HGR.out _ _ _ _ _ r4 ho4 hg5; rw [← H4.out] at ho5; (try rw [← H4.out]); have q5 := HKI.out _ r5)
      | (go_at_call 23; (with_reducible refine (H23.out _).mono ?_); rintro e w6 ⟨rfl, rfl⟩)
      | ((with_reducible refine wpList_loadV (op := ⟨some 31, _, _, _, _, _⟩) rfl 28 (.tmp 1) rfl _ ?_ _ (HALL.out _ r5) ?_); rfl)
      | (go_at_call 25; (with_reducible refine (HL.out _ r5).mono ?_); rintro e w7 ⟨A7, c7, rfl, h7, hb7⟩; have r7 := HBE.out _ _ r5 hb7; have h7a := HBB.out _ _ _ _ (HBT.out _ _ _ _ ho5) hb7)
      | ((with_reducible refine wpList_pairB (o := ⟨some 33, _, _, _, _, _⟩) rfl 33 rfl _ _ rfl _ _ _ _ _ _ ?_ ?_ ?_); rfl; rfl)
      | (go_at_call 24; (with_reducible refine (HCC.out _ _ _ _ _ _ r7 h7a ?_ ?_ h7).mono ?_); (rw [HLEN.out.2]; omega); (rw [HLEN.out.2]; omega); rintro e w8 ⟨A8, c8, rfl, hq8, h8, hb8⟩))
    refine bodyPost_ret (results_2b rfl _ _ _ _ rfl rfl) rfl ?_
    exact ⟨A8, c8, by rw [List.length_append]; rfl, hq8, h8, hb8⟩
  | true =>
    rw [hkey] at H23 HHD
    simp only [if_true] at HHD
    obtain ⟨b5, e5⟩ : ∃ b, b = b4 ++ m.key := ⟨_, rfl⟩
    have l5 : b5.length = 46 := by rw [e5, List.length_append, l4, hy]
    have H5 := Lib.hid e5
    have HL5 := Lib.hid l5
    rw [HHD.out, ← e5]
    clear hkey HHD e5 l5 l1 l2 l3 l4 e1 e2 e3 e4 hf hy tb
    generalize (encM m).toArray = X at *
    generalize m.txn = tx at *
    go_enter Tryz.func8, Tryz.ntmps8
    go_wp2_with (first
      | ((with_reducible refine wpList_loadV (op := ⟨some 5, _, _, _, _, _⟩) rfl 28 (.tmp 1) rfl _ ?_ _ HK0.out ?_); rfl)
      | (go_at_call 11; (with_reducible refine (HG.out _ HS.out).mono ?_); rintro e w1 ⟨rfl, r1⟩)
      | (go_at_call 22; (with_reducible refine (C1.out _ r1).mono ?_); rintro e w2 ⟨A2, c2, rfl, r2, ho2⟩; have q2 := HKI.out _ r2)
      | (go_at_call 22; (with_reducible refine (C2.out _ _ _ r2 ho2).mono ?_); rintro e w3 ⟨A3, c3, rfl, r3, ho3⟩; have q3 := HTX.out _ r3)
      | (go_at_call 22; (with_reducible refine (C3.out _ _ _ r3 ho3).mono ?_); rintro e w4 ⟨A4, c4, rfl, r4, ho4⟩)
      | (at_builtin; (refine wpList_appB (o := ⟨some 22, _, _, _, _, _⟩) rfl 22 rfl (.tmp 19) (.tmp 21) rfl (w.heap.size + 1) (.slice A4 b3.length c4) b3 ?_ ho4 (.slice (some ⟨w.heap.size, 2, none⟩) 20 20) m.frm ?_ (HFS.out _ r4) ?_ (HSZ.out _ r4) ?_); rfl; rfl; (rw [HLEN.out.1, HM20.out.1]; omega); intro A5 c5 w5 ho5 hg5; have r5 := HGR.out _ _ _ _ _ r4 ho4 hg5; rw [← H4.out] at ho5; (try rw [← H4.out]); have q5 := HKI.out _ r5)
      | (go_at_call 23; (with_reducible refine (H23.out _).mono ?_); rintro e w6 ⟨rfl, rfl⟩)
      | (at_builtin; (refine wpList_appB (o := ⟨some 29, _, _, _, _, _⟩) rfl 29 rfl (.tmp 26) (.tmp 28) rfl (w.heap.size + 1) (.slice A5 b4.length c5) b4 ?_ ho5 (.slice (some ⟨w.heap.size, 22, none⟩) 20 20) m.key ?_ (HYS.out _ r5) ?_ (HSZ.out _ r5) ?_); rfl; rfl; (rw [HLEN.out.2, HM20.out.2]; omega); intro A6 c6 w6 ho6 hg6; have r6 := HGR.out _ _ _ _ _ r5 ho5 hg6; rw [← H5.out] at ho6; (try rw [← H5.out]))
      | ((with_reducible refine wpList_loadV (op := ⟨some 31, _, _, _, _, _⟩) rfl 28 (.tmp 1) rfl _ ?_ _ (HALL.out _ r6) ?_); rfl)
      | (go_at_call 25; (with_reducible refine (HL.out _ r6).mono ?_); rintro e w7 ⟨A7, c7, rfl, h7, hb7⟩; have r7 := HBE.out _ _ r6 hb7; have h7a := HBB.out _ _ _ _ (HBT.out _ _ _ _ ho6) hb7)
      | ((with_reducible refine wpList_pairB (o := ⟨some 33, _, _, _, _, _⟩) rfl 33 rfl _ _ rfl _ _ _ _ _ _ ?_ ?_ ?_); rfl; rfl)
      | (go_at_call 24; (with_reducible refine (HCC.out _ _ _ _ _ _ r7 h7a ?_ ?_ h7).mono ?_); (rw [HL5.out]; omega); (rw [HL5.out]; omega); rintro e w8 ⟨A8, c8, rfl, hq8, h8, hb8⟩))
    refine bodyPost_ret (results_2b rfl _ _ _ _ rfl rfl) rfl ?_
    exact ⟨A8, c8, by rw [List.length_append]; rfl, hq8, h8, hb8⟩
theorem tailB_len {k : Int} {y : List UInt8} {L : List Con} {R : List Ins} (hg : goodM k y L R = true) : (tailB k L R).length ≤ 6401 := by
  unfold tailB
  by_cases h6 : k = 6
  · rw [if_pos h6]
    split
    · rename_i h
      have h64 : L.length ≤ 64 := by have := goodC_len h; unfold ctsC at this; simpa using this
      unfold listC
      rw [List.length_cons, flatC_len]
      omega
    · simp
  · rw [if_neg h6]
    by_cases h4 : k = 4 ∨ k = 7
    · rw [if_pos h4]
      unfold byR
      split
      · rename_i h
        have h16 : R.length ≤ 16 := ((goodR_iff R).1 h).1
        have := upR_len R R.length
        omega
      · simp
    · rw [if_neg h4]
      simp
theorem encode_any (m : Msg) (L : List Con) (R : List Ins) (w : World) (hc : ConV w m.vc L) (hr : InsV w m.vr R) (hL : L.length ≤ 10000) (ht : ∀ x ∈ R, x.tgt.length ≤ 100000) : Calls Tryz.prog 8 #[.agg (encM m).toArray] w (EncIs w m L R) := by
  have hG : ∀ W, EncW w m W → Calls Tryz.prog 11 #[.agg (encM m).toArray] W fun e W' => e = .returned (.bool (goodM m.kind m.key L R)) ∧ EncW w m W' := fun W r => (mgood_any m L R W (hc.below r.be) (hr.below r.be) hL ht).mono (by
    rintro e w' ⟨rfl, hb⟩
    exact ⟨rfl, r.bel hb⟩)
  cases hg : goodM m.kind m.key L R with
  | false =>
    rw [hg] at hG
    refine (encode_bad m w (Lib.hid hG)).mono ?_
    rintro e w' ⟨rfl, hb⟩
    have h1 : bytesM m.kind m.txn m.frm m.key L R = [] := by unfold bytesM; rw [hg]; rfl
    unfold EncIs
    rw [h1, hg]
    exact ⟨none, 0, rfl, by simp, .inl rfl, hb⟩
  | true =>
    rw [hg] at hG
    have hk := goodM_kind hg
    have hT := tailB_len hg
    have h1 : bytesM m.kind m.txn m.frm m.key L R = hedM m.kind.toNat m.txn m.frm m.key ++ tailB m.kind L R := by unfold bytesM; rw [hg]; rfl
    refine (encode_good m m.kind.toNat (by omega) (by omega) (tailB m.kind L R) (by omega) w (Lib.hid hG) (Lib.hid (fun W r => listbytes_any m L R W (hc.below r.be) (hr.below r.be) hL ht))).mono ?_
    rintro e w' ⟨A, c, rfl, hq, hA, hb⟩
    unfold EncIs
    rw [h1, hg]
    exact ⟨A, c, rfl, hq, hA, hb⟩
end Go.Proofs.YtehgpnnfjgmiiaaGreat
end
