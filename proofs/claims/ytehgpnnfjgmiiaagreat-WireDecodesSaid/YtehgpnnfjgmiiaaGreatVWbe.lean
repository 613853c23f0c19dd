/- What Decode reads has the bytes it was read from, and a good message is read from its bytes: plain. No condition. The walk of WireDecodes. Conditions: the bytes lie where the slice says. Slices of bytes and numbers that come in, as lists. No condition. -/
import Derived.Test.YtehgpnnfjgmiiaaGreatVROcc
import Derived.Test.YtehgpnnfjgmiiaaGreatVWah
import Derived.Test.YtehgpnnfjgmiiaaGreatVNCnx
import Derived.Test.YtehgpnnfjgmiiaaGreatVWan
import Derived.Test.YtehgpnnfjgmiiaaGreatProg
import Derived.Test.YtehgpnnfjgmiiaaGreatVJLra
import Derived.Test.YtehgpnnfjgmiiaaGreatRows
import Derived.ProofKit
import Derived.OpenShut
import Derived.ChangeOld
section
namespace Go.Proofs.YtehgpnnfjgmiiaaGreat
open Go.Shelf Go.RowKit Go.Lib Go.Great
set_option maxRecDepth 100000
set_option maxHeartbeats 1000000
def bytesC (C : Cnt) : List UInt8 := bytesM C.kind C.txn C.frm C.key C.L C.R
theorem take_bad {s : St} (h : (takeS s 20).bad = false) : s.bad = false := by
  by_cases hok : takeOk s 20
  · exact hok.1
  · simp [takeS, if_neg hok] at h
theorem back_takeG (b o : List UInt8) (s : St) (h : Back b o s) (hb : (takeS s 20).bad = false) : pubV s = takeV s 20 ∧ Back b (o ++ pubV s) (takeS s 20) := by
  by_cases hok : takeOk s 20
  · have h20 : (takeV s 20).length = 20 := by
      simp only [takeV, if_pos hok]
      obtain ⟨h0, h1, h2⟩ := hok
      rw [List.length_take, show (20 : Int).toNat = 20 from rfl]
      omega
    have e : pubV s = takeV s 20 := by unfold pubV; rw [if_pos h20]
    refine ⟨e, fun _ => ?_⟩
    rw [e, List.append_assoc]
    simp only [takeS, takeV, if_pos hok]
    rw [List.take_append_drop]
    exact h hok.1
  · simp [takeS, if_neg hok] at hb
theorem num_of_bad {s : St} {k : Int} (h : s.bad = true) : numV s k = 0 ∧ numS s k = ⟨[], true⟩ := by
  have hok : ¬ numOk s k := fun hok => by
    rw [hok.1] at h
    cases h
  unfold numV numS
  rw [if_neg hok, if_neg hok]
  exact ⟨rfl, rfl⟩
theorem rl_bad {s : St} (h : (rlS s).bad = false) : s.bad = false := by
  cases hb : s.bad with
  | false => rfl
  | true =>
    obtain ⟨h1, h2⟩ := num_of_bad (k := 1) hb
    unfold rlS at h
    rw [h1, h2] at h
    split at h
    · cases h
    · cases h
theorem ros_bad {s : St} (h : (rosS s).bad = false) : s.bad = false := by
  cases hb : s.bad with
  | false => rfl
  | true =>
    obtain ⟨h1, h2⟩ := num_of_bad (k := 1) hb
    unfold rosS at h
    rw [h1, h2] at h
    split at h
    · cases h
    · cases h
theorem nx_bad {k : Nat} {s : St} (h : (nxE k s).bad = false) : s.bad = false := by
  unfold nxE at h
  split at h
  · exact rl_bad h
  · split at h
    · exact ros_bad h
    · exact h
theorem st_ok (s : St) (h : s.bad = false) : s = ⟨s.ys, false⟩ := by cases s; simp only at h; rw [h]
/-- The list at the end of a good message. -/
theorem tail_back {b o : List UInt8} {k : Nat} {y : List UInt8} {s : St} (h : Back b o s) (hb : (nxE k s).bad = false) (hg : goodM (k : Int) y (nxL k s) (nxR k s) = true) : b = o ++ (tailB (k : Int) (nxL k s) (nxR k s) ++ (nxE k s).ys) := by
  have hs := nx_bad hb
  have h1 := h hs
  have he := st_ok s hs
  unfold tailB
  by_cases h6 : k = 6
  · subst h6
    have hE : nxE 6 s = rlS s := rfl
    have hL : nxL 6 s = rlL s := rfl
    rw [hE] at hb ⊢
    rw [hL]
    rw [if_pos (show ((6 : Nat) : Int) = 6 from rfl)]
    rw [he] at hb
    rcases rl_cases s.ys with ⟨_, e2⟩ | ⟨e1, _, e3⟩
    · rw [e2] at hb
      cases hb
    · rw [← he] at e1 e3
      rw [if_pos e1, ← e3]
      exact h1
  · have h6' : ¬ (k : Int) = 6 := by omega
    rw [if_neg h6']
    by_cases h47 : k = 4 ∨ k = 7
    · have h47' : (k : Int) = 4 ∨ (k : Int) = 7 := by omega
      rw [if_pos h47']
      have hE : nxE k s = rosS s := by unfold nxE; rw [if_neg h6, if_pos h47]
      have hR : nxR k s = rosL s := by unfold nxR; rw [if_pos h47]
      rw [hE] at hb ⊢
      rw [hR]
      rw [he] at hb
      obtain ⟨_, e3⟩ := ros_had hb
      rw [← he] at e3
      rw [← e3]
      exact h1
    · have h47' : ¬ ((k : Int) = 4 ∨ (k : Int) = 7) := by omega
      rw [if_neg h47']
      have hE : nxE k s = s := by unfold nxE; rw [if_neg h6, if_neg h47]
      rw [hE, List.nil_append]
      exact h1
theorem done_zero {s : St} (h : doneE s = 0) : s.bad = false ∧ s.ys = [] := by
  unfold doneE at h
  split at h
  · cases h
  · rename_i hn
    constructor
    · cases hb : s.bad with
      | false => rfl
      | true => exact absurd (.inl hb) hn
    · cases hy : s.ys with
      | nil => rfl
      | cons a l => exact absurd (.inr (by rw [hy]; simp)) hn
/-- What is read has the bytes it was read from. -/
theorem dec_back {xs : List UInt8} (h : dOk xs = true) : dGd xs = true ∧ bytesC (decC xs) = xs := by
  have hC : decC xs = fulC xs := by rw [decC_of, if_pos h]
  unfold dOk at h
  simp only [Bool.and_eq_true, decide_eq_true_eq] at h
  obtain ⟨hv, hd, hg⟩ := h
  refine ⟨hg, ?_⟩
  rw [hC]
  obtain ⟨hb, hy⟩ := done_zero hd
  have hg' : goodM (nxV (dS1 xs) : Int) (nxY (dKy xs) (dS1 xs)) (dL xs) (dR xs) = true := hg
  unfold dEnd at hb hy
  have b4 := nx_bad hb
  have B0 : Back xs [] ⟨xs, false⟩ := fun _ => rfl
  have B1 := back_num xs [] _ 1 B0
  have B2 := back_num xs _ _ 1 B1
  have B3 := back_num xs _ _ 4 B2
  simp only [show ((1 : Nat) : Int) = 1 from rfl, show ((4 : Nat) : Int) = 4 from rfl, List.nil_append] at B1 B2 B3
  rw [hv] at B3
  have b3 : (nxS3 (dS1 xs)).bad = false := by
    unfold nxS4 at b4
    split at b4
    · exact take_bad b4
    · exact b4
  obtain ⟨_, B4⟩ := back_takeG xs _ _ B3 b3
  have B5 : Back xs (putB 1 1 ++ putB (nxV (dS1 xs)) 1 ++ putB (nxT (dS1 xs)) 4 ++ nxF (dS1 xs) ++ (if dKy xs = true then nxY (dKy xs) (dS1 xs) else [])) (nxS4 (dKy xs) (dS1 xs)) := by
    cases hk : dKy xs with
    | false =>
      rw [hk] at b4
      simp only [Bool.false_eq_true, if_false, List.append_nil]
      exact B4
    | true =>
      rw [hk] at b4
      obtain ⟨_, B5⟩ := back_takeG xs _ _ B4 b4
      exact B5
  have T := tail_back B5 hb hg'
  rw [hy, List.append_nil] at T
  unfold bytesC bytesM fulC
  simp only
  rw [if_pos hg']
  unfold hedM
  rw [Int.toNat_natCast]
  exact T.symm
/-- Two messages of one content are the same. -/
theorem sameM_iff (m n : Msg) (L L' : List Con) (R R' : List Ins) : sameM m n L L' R R' = true ↔ (⟨m.kind, m.txn, m.frm, m.key, L, R⟩ : Cnt) = ⟨n.kind, n.txn, n.frm, n.key, L', R'⟩ := by
  unfold sameM
  simp only [Bool.and_eq_true, beq_iff_eq, sameC_iff, sameR_iff, Cnt.mk.injEq]
end Go.Proofs.YtehgpnnfjgmiiaaGreat
end
section
namespace Go.Proofs.YtehgpnnfjgmiiaaGreat
open Go.Shelf Go.RowKit Go.Lib Go.Great
set_option maxRecDepth 100000
set_option maxHeartbeats 2000000
theorem wpList_convG {P : Program} {ops : Array Oper} {rest : List Oper} {o : Oper} {a : Act} {w : World} {Q : Exit → Act → World → Prop} (hw : Region.wanted o (yielded ops a.tmps) = true) (s d : TypeId) (x : Operand) (ho : o.op = .convert s d x) (u v : Value) (hx : a.eval x = u) (hl : (convert s d u).run P w = .ok v w)
    (h : wpList P ops Q rest (a.put o.dst v) w) : wpList P ops Q (o :: rest) a w :=
  BigFrame.wpList_want hw fun _ hK => by
    unfold Oper.wp execOp
    simp only [ho, hx, Sem.run_bind, hl, Result.andThen_ok]
    exact hK _ _ h
theorem decC_len (xs : List UInt8) : (decC xs).L.length ≤ 256 ∧ (decC xs).R.length ≤ 256 ∧ ∀ x ∈ (decC xs).R, x.tgt.length ≤ 1024 := by
  rw [decC_of]
  split
  · refine ⟨nxL_len _ _, ?_, ros_tgts _ _⟩
    show (nxR _ _).length ≤ 256
    unfold nxR
    split
    · exact rosL_len _
    · simp
  · exact ⟨by simp, by simp, by intro x hx; cases hx⟩
/-- After both have decoded. -/
structure WdK (w : World) (A : Option Addr) (c : Nat) (xs : List UInt8) (m1 m2 : Msg) (p3 p5 : Nat) (W : World) : Prop where
  be : Below w.heap.size w W
  h3 : W.heap[p3]? = some (.cells (encM m1).toArray 28 (0, 0))
  h5 : W.heap[p5]? = some (.cells (encM m2).toArray 28 (0, 0))
  i1 : IsM W m1 (decC xs)
  i2 : IsM W m2 (decC xs)
  bs : IsB (.slice A xs.length c) xs W
section
variable {w W W' : World} {A : Option Addr} {c : Nat} {xs : List UInt8} {m1 m2 : Msg} {p3 p5 : Nat}
theorem WdK.bel (K : WdK w A c xs m1 m2 p3 p5 W) (hb : Below W.heap.size W W') : WdK w A c xs m1 m2 p3 p5 W' :=
  ⟨K.be.trans (hb.mono K.be.size), (hb.block _ (Array.getElem?_eq_some_iff.1 K.h3).1).trans K.h3, (hb.block _ (Array.getElem?_eq_some_iff.1 K.h5).1).trans K.h5, K.i1.bel hb, K.i2.bel hb, K.bs.below hb⟩
theorem WdK.same (K : WdK w A c xs m1 m2 p3 p5 W) : Calls Tryz.prog 18 #[.agg (encM m1).toArray, .agg (encM m2).toArray] W fun e w' => e = .returned (.bool true) ∧ WdK w A c xs m1 m2 p3 p5 w' := by
  obtain ⟨l1, l2, _⟩ := decC_len xs
  have h := mrsame_any m1 m2 (decC xs).L (decC xs).L (decC xs).R (decC xs).R W K.i1.2.2.2.2.1 K.i1.2.2.2.2.2 K.i2.2.2.2.2.1 K.i2.2.2.2.2.2 (by omega) (by omega)
  rw [(sameM_iff m1 m2 _ _ _ _).2 (by rw [K.i1.1, K.i1.2.1, K.i1.2.2.1, K.i1.2.2.2.1, K.i2.1, K.i2.2.1, K.i2.2.2.1, K.i2.2.2.2.1])] at h
  refine h.mono ?_
  rintro e w' ⟨rfl, hb⟩
  exact ⟨rfl, K.bel hb⟩
theorem WdK.good (K : WdK w A c xs m1 m2 p3 p5 W) (hd : dOk xs = true) : Calls Tryz.prog 11 #[.agg (encM m1).toArray] W fun e w' => e = .returned (.bool true) ∧ WdK w A c xs m1 m2 p3 p5 w' := by
  obtain ⟨l1, l2, l3⟩ := decC_len xs
  have h := mgood_any m1 (decC xs).L (decC xs).R W K.i1.2.2.2.2.1 K.i1.2.2.2.2.2 (by omega) (fun x hx => by have := l3 x hx; omega)
  have hg : goodM m1.kind m1.key (decC xs).L (decC xs).R = true := by
    rw [K.i1.1, K.i1.2.2.2.1, decC_of, if_pos hd]
    exact (dec_back hd).1
  rw [hg] at h
  refine h.mono ?_
  rintro e w' ⟨rfl, hb⟩
  exact ⟨rfl, K.bel hb⟩
theorem WdK.enc (K : WdK w A c xs m1 m2 p3 p5 W) (hd : dOk xs = true) : Calls Tryz.prog 8 #[.agg (encM m1).toArray] W fun e w' => ∃ A' c', e = .returned (.tuple #[.slice A' xs.length c', .int .i64 0]) ∧ IsB (.slice A' xs.length c') xs w' ∧ WdK w A c xs m1 m2 p3 p5 w' := by
  obtain ⟨l1, l2, l3⟩ := decC_len xs
  have h := encode_any m1 (decC xs).L (decC xs).R W K.i1.2.2.2.2.1 K.i1.2.2.2.2.2 (by omega) (fun x hx => by have := l3 x hx; omega)
  have hg : goodM m1.kind m1.key (decC xs).L (decC xs).R = true := by
    rw [K.i1.1, K.i1.2.2.2.1, decC_of, if_pos hd]
    exact (dec_back hd).1
  have hx : bytesM m1.kind m1.txn m1.frm m1.key (decC xs).L (decC xs).R = xs := by
    rw [K.i1.1, K.i1.2.1, K.i1.2.2.1, K.i1.2.2.2.1]
    exact (dec_back hd).2
  unfold EncIs at h
  rw [hg, hx] at h
  refine h.mono ?_
  rintro e w' ⟨A', c', rfl, hq, hB, hb⟩
  exact ⟨A', c', rfl, ⟨A', c', rfl, hq, hB⟩, K.bel hb⟩
theorem WdK.ld3 (K : WdK w A c xs m1 m2 p3 p5 W) : (loadVar 28 ⟨p3, 0, none⟩).run Tryz.prog W = .ok (.agg (encM m1).toArray) W := run_loadVar_row K.h3 (encM_length m1)
theorem WdK.ld5 (K : WdK w A c xs m1 m2 p3 p5 W) : (loadVar 28 ⟨p5, 0, none⟩).run Tryz.prog W = .ok (.agg (encM m2).toArray) W := run_loadVar_row K.h5 (encM_length m2)
end
theorem wdec_big (A : Option Addr) (n c : Nat) (w : World) (hn : ¬ n ≤ 6000) : Calls Tryz.prog 4 #[.slice A n c] w fun e w' => e = .returned (.bool true) ∧ Below w.heap.size w w' := by
  have H7 := Lib.hid (wlives_any w)
  have d : decide ((6000 : Int) < (n : Int)) = true := by simp; omega
  have hn' : (6000 : Int) < (n : Int) := by omega
  go_enter Tryz.func4, Tryz.ntmps4
  go_wp2_with (go_at_call 7; (with_reducible refine H7.out.mono ?_); rintro e w1 ⟨rfl, hb⟩)
  go_ret
  exact ⟨rfl, hb⟩
theorem wdec_small (A : Option Addr) (c : Nat) (xs : List UInt8) (w : World) (hA : BAt w w.heap.size A xs) (hc : xs.length ≤ c) (hn : xs.length ≤ 6000) : Calls Tryz.prog 4 #[.slice A xs.length c] w fun e w' => e = .returned (.bool true) ∧ Below w.heap.size w w' := by
  have HZ := Lib.hid (encM_length zeroM)
  have HML := Lib.hid encM_length
  have HMO := Lib.hid encM_one
  have hn' : ¬ (6000 : Int) < (xs.length : Int) := by omega
  obtain ⟨er, her⟩ : ∃ er : Int, er = if dOk xs then 0 else 10 := ⟨_, rfl⟩
  have H19 : Hid (Calls Tryz.prog 19 #[.slice A xs.length c] w fun e w' => ∃ m : Msg, e = .returned (.tuple #[.agg (encM m).toArray, .int .i64 er]) ∧ IsM w' m (decC xs) ∧ Below w.heap.size w w') := Lib.hid (by rw [her]; exact decode_any A c xs w hA (by omega))
  have H20 : Hid (∀ W, Below w.heap.size w W → Calls Tryz.prog 20 #[.slice A xs.length c] W fun e w' => ∃ m : Msg, e = .returned (.tuple #[.agg (encM m).toArray, .int .i64 er]) ∧ IsM w' m (decC xs) ∧ Below W.heap.size W w') := Lib.hid (fun W hW => by rw [her]; exact rdecode_any A c xs W ((hA.below hW).more hW.size) hc (by omega))
  have KK : Hid (∀ (m1 m2 : Msg) (w1 w2 : World), IsM w1 m1 (decC xs) → Below w.heap.size w w1 → IsM w2 m2 (decC xs) → Below (w1.alloc (.cells (encM m1).toArray 28)).heap.size (w1.alloc (.cells (encM m1).toArray 28)) w2 → WdK w A c xs m1 m2 w1.heap.size w2.heap.size (w2.alloc (.cells (encM m2).toArray 28))) := Lib.hid (fun m1 m2 w1 w2 i1 b1 i2 b2 => by
    have ba : Below w1.heap.size w1 (w1.alloc (.cells (encM m1).toArray 28)) := (Below.refl _ w1).alloc (Nat.le_refl _) _
    have bb : Below w2.heap.size w2 (w2.alloc (.cells (encM m2).toArray 28)) := (Below.refl _ w2).alloc (Nat.le_refl _) _
    have hn1 := heap_alloc_new w1 (.cells (encM m1).toArray 28)
    have l1 := (Array.getElem?_eq_some_iff.1 hn1).1
    have bt : Below w.heap.size w (w2.alloc (.cells (encM m2).toArray 28)) := b1.trans ((ba.trans ((b2.trans (bb.mono b2.size)).mono ba.size)).mono b1.size)
    have b2s := b2.size
    refine ⟨bt, ((b2.trans (bb.mono b2.size)).block _ l1).trans hn1, heap_alloc_new w2 _, (i1.bel ba).bel (b2.trans (bb.mono b2.size)), i2.bel bb, ⟨A, c, rfl, hc, (hA.below bt).more bt.size⟩⟩)
  have BW : Hid (∀ (m1 : Msg) (w1 : World), Below w.heap.size w w1 → Below w.heap.size w (w1.alloc (.cells (encM m1).toArray 28))) := Lib.hid (fun m1 w1 b1 => b1.alloc b1.size _)
  have H7 : Hid (∀ m1 m2 p3 p5 W, WdK w A c xs m1 m2 p3 p5 W → Calls Tryz.prog 7 #[] W fun e w' => e = .returned (.bool true) ∧ Below w.heap.size w w') := Lib.hid (fun m1 m2 p3 p5 W K => (wlives_any W).mono (by
    rintro e w' ⟨rfl, h⟩
    exact ⟨rfl, K.be.trans (h.mono K.be.size)⟩))
  have H8 : Hid (dOk xs = true → ∀ m1 m2 p3 p5 W, WdK w A c xs m1 m2 p3 p5 W → Calls Tryz.prog 8 #[.agg (encM m1).toArray] W fun e w' => ∃ A' c', e = .returned (.tuple #[.slice A' xs.length c', .int .i64 0]) ∧ IsB (.slice A' xs.length c') xs w' ∧ WdK w A c xs m1 m2 p3 p5 w') := Lib.hid (fun hd m1 m2 p3 p5 W K => K.enc hd)
  have H11 : Hid (dOk xs = true → ∀ m1 m2 p3 p5 W, WdK w A c xs m1 m2 p3 p5 W → Calls Tryz.prog 11 #[.agg (encM m1).toArray] W fun e w' => e = .returned (.bool true) ∧ WdK w A c xs m1 m2 p3 p5 w') := Lib.hid (fun hd m1 m2 p3 p5 W K => K.good hd)
  have HER := Lib.hid her
  clear her hA hc
  go_enter Tryz.func4, Tryz.ntmps4
  go_upto_region 5 with (first
    | (go_at_call 19; (with_reducible refine H19.out.mono ?_); rintro e w1 ⟨m1, rfl, i1, b1⟩)
    | (with_reducible refine wpList_allocM (o := ⟨some 3, _, _, _, _, _⟩) w1.heap.size rfl rfl 3 rfl rfl ?_)
    | ((with_reducible refine wpList_storeMn (o := ⟨none, _, _, _, _, _⟩) rfl (.tmp 3) (.tmp 16) rfl w1.heap.size rfl (encM zeroM) (encM m1) HZ.out (HML.out m1) (HMO.out m1) ?_ ?_ ?_); rfl; rfl)
    | (go_at_call 20; (with_reducible refine (H20.out _ (BW.out m1 _ b1)).mono ?_); rintro e w2 ⟨m2, rfl, i2, b2⟩)
    | (with_reducible refine wpList_allocM (o := ⟨some 5, _, _, _, _, _⟩) w2.heap.size rfl rfl 5 rfl rfl ?_)
    | ((with_reducible refine wpList_storeMn (o := ⟨none, _, _, _, _, _⟩) rfl (.tmp 5) (.tmp 21) rfl w2.heap.size rfl (encM zeroM) (encM m2) HZ.out (HML.out m2) (HMO.out m2) ?_ ?_ ?_); rfl; rfl))
  have K := KK.out m1 m2 w1 w2 i1 b1 i2 b2
  clear i1 b1 i2 b2 H19 H20 KK BW
  generalize w2.alloc (.cells (encM m2).toArray 28) = W5 at *
  generalize w1.heap.size = p3 at *
  generalize w2.heap.size = p5 at *
  go_upto_region 7 with (first
    | ((with_reducible refine wpList_loadV (op := ⟨some 23, _, _, _, _, _⟩) rfl 28 (.tmp 3) rfl ⟨p3, 0, none⟩ ?_ _ K.ld3 ?_); rfl)
    | ((with_reducible refine wpList_loadV (op := ⟨some 24, _, _, _, _, _⟩) rfl 28 (.tmp 5) rfl ⟨p5, 0, none⟩ ?_ _ K.ld5 ?_); rfl)
    | (go_at_call 18; (with_reducible refine K.same.mono ?_); rintro e w6 ⟨rfl, K6⟩))
  cases hd : dOk xs with
  | false =>
    have her := HER.out
    rw [hd] at her
    simp only [Bool.false_eq_true, if_false] at her
    subst her
    go_wp2_with (go_at_call 7; (with_reducible refine (H7.out _ _ _ _ _ K6).mono ?_); rintro e w7 ⟨rfl, hb⟩)
    go_ret
    exact ⟨rfl, hb⟩
  | true =>
    have her := HER.out
    rw [hd] at her
    simp only [if_true] at her
    subst her
    go_wp2_with (first
      | ((with_reducible refine wpList_loadV (op := ⟨some 36, _, _, _, _, _⟩) rfl 28 (.tmp 3) rfl ⟨p3, 0, none⟩ ?_ _ K6.ld3 ?_); rfl)
      | (go_at_call 8; (with_reducible refine (H8.out hd _ _ _ _ _ K6).mono ?_); rintro e w8 ⟨A8, c8, rfl, hi8, K8⟩; have cv1 := hi8.conv; have cv2 := K8.bs.conv)
      | ((with_reducible refine wpList_convG (o := ⟨some 44, _, _, _, _, _⟩) rfl 31 9 (.tmp 43) rfl _ _ ?_ cv1 ?_); rfl)
      | ((with_reducible refine wpList_convG (o := ⟨some 46, _, _, _, _, _⟩) rfl 31 9 (.tmp 45) rfl _ _ ?_ cv2 ?_); rfl)
      | ((with_reducible refine wpList_loadG (o := ⟨some 50, _, _, _, _, _⟩) rfl 28 (.tmp 3) rfl ⟨p3, 0, none⟩ ?_ _ K8.ld3 ?_); rfl)
      | (go_at_call 11; (with_reducible refine (H11.out hd _ _ _ _ _ K8).mono ?_); rintro e w9 ⟨rfl, K9⟩)
      | (go_at_call 7; (with_reducible refine (H7.out _ _ _ _ _ K9).mono ?_); rintro e w10 ⟨rfl, hb⟩))
    go_ret
    exact ⟨rfl, hb⟩
theorem wdec_walk (A : Option Addr) (c : Nat) (xs : List UInt8) (w : World) (hA : BAt w w.heap.size A xs) (hc : xs.length ≤ c) : Calls Tryz.prog 4 #[.slice A xs.length c] w fun e w' => e = .returned (.bool true) ∧ Below w.heap.size w w' := by
  by_cases hn : xs.length ≤ 6000
  · exact wdec_small A c xs w hA hc hn
  · exact wdec_big A xs.length c w hn
end Go.Proofs.YtehgpnnfjgmiiaaGreat
end
section
namespace Go.Proofs.YtehgpnnfjgmiiaaGreat
set_option maxRecDepth 100000
set_option linter.unusedVariables false
open Go.ChangeShapes Go.WideShapes Go.ChangeAt Go.RowKit

theorem wf_u8M {n : Int} (h : (Lit.int .u8 n).wf = true) : 0 ≤ n ∧ n ≤ 255 := by
  simp [Lit.wf, IntKind.min, IntKind.max, IntKind.bits, IntKind.signed] at h
  omega
/-- The bytes of a row of numbers that fit a byte. -/
def bytesOfM (zs : List Int) : List UInt8 := zs.map fun n => UInt8.ofNat n.toNat
theorem bytes_of_rowM {w : World} {x : Addr} {len cap : Nat} {zs : List Int} (hl : len ≤ cap) (hz : zs.length = cap) (hcell : ∀ i, i < zs.length → w.cell? (x.add i) = some (.int .u8 (zs.getD i 0))) (hwf : ∀ n ∈ zs, (Lit.int .u8 n).wf = true) :
    ∃ xs : List UInt8, xs.length = len ∧ BAt w w.heap.size (some x) xs := by
  refine ⟨bytesOfM (zs.take len), by simp [bytesOfM]; omega, ?_⟩
  by_cases h0 : len = 0
  · left
    subst h0
    simp [bytesOfM]
  · right
    obtain ⟨b, off, spot⟩ := x
    have hc := hcell 0 (by omega)
    have hspot : spot = none := by simpa [Addr.add] using World.cell?_spot hc
    subst hspot
    refine ⟨b, off, rfl, ?_, fun j hj => ?_⟩
    · have := World.block_lt_of_cell? w _ hc
      simpa [Addr.add] using this
    · have hj' : j < len := by simp [bytesOfM] at hj; omega
      have hc := hcell j (by omega)
      have e : (⟨b, off, none⟩ : Addr).add j = ⟨b, off + j, none⟩ := by unfold Addr.add; split <;> simp_all
      rw [e] at hc
      rw [hc]
      have hw := wf_u8M (hwf (zs[j]'(by omega)) (List.getElem_mem _))
      have e1 : zs.getD j 0 = zs[j]'(by omega) := by simp [List.getD, List.getElem?_eq_getElem (show j < zs.length by omega)]
      rw [e1]
      simp only [bytesOfM, List.getElem_map, List.getElem_take]
      congr 2
      simp
      omega
section
variable {H : Type} {enc : TypeId × Value → H} {W : World} {base : Nat} {sp : Nat → Bool} {hd : Bool} {a : Option Addr} {len cap : Nat} {d : DataW H} {p : List MemPlace}
theorem open_oneM {fuel : Nat} {V : Value} {x : DataW H × List MemPlace} (h : DataW.trod enc Tryz.prog W base sp hd fuel 31 [V] = some x) : ∃ (A : Option Addr) (xs : List UInt8) (c : Nat), V = .slice A xs.length c ∧ BAt W W.heap.size A xs ∧ xs.length ≤ c := by
  rcases open_ints Tryz.underlying31 Tryz.underlying5 (by kernel_rfl) h with ⟨hcs, _⟩ | ⟨x, l, c, zs, hcs, _, hl, hm, hz, _, hcell, hwz⟩
  · simp only [List.cons.injEq, and_true] at hcs
    exact ⟨none, [], 0, hcs, .inl rfl, Nat.le_refl _⟩
  · simp only [List.cons.injEq, and_true] at hcs
    obtain ⟨xs, h1, h2⟩ := bytes_of_rowM (len := l) (cap := zs.length) (by rw [hz]; split <;> omega) rfl hcell hwz
    exact ⟨some x, xs, c, by rw [hcs, h1], h2, by omega⟩
theorem open_bytes (h : DataW.Trod enc Tryz.prog W base sp hd 31 (.slice a len cap) d p) : ∃ xs : List UInt8, xs.length = len ∧ BAt W W.heap.size a xs ∧ len ≤ cap := by
  obtain ⟨fuel, hf⟩ := h
  obtain ⟨A, xs, c, hV, hb, hc⟩ := open_oneM (V := .slice a len cap) (by simpa [Value.cells] using hf)
  simp only [Value.slice.injEq] at hV
  obtain ⟨rfl, rfl, rfl⟩ := hV
  exact ⟨xs, rfl, hb, hc⟩
end
end Go.Proofs.YtehgpnnfjgmiiaaGreat
end
