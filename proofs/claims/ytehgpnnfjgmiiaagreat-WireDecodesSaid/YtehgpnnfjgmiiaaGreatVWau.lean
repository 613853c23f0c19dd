/- Decode of the program. Conditions: at most 100,000 bytes. Contracts of the reader of the reference: Left, fail, Done, Num. Conditions: the bytes are fewer than 900,000; a number that comes in is an int. GoodList of the reference. Conditions: at most 10,000 contacts. One, Plain and Same of the statements on contacts. Conditions: at most 10,000 contacts. Bytes, List and Without of the reference. Conditions: at most 10,000 contacts. -/
import Derived.Test.YtehgpnnfjgmiiaaGreatVWat
import Derived.Test.YtehgpnnfjgmiiaaGreatVWad
import Derived.Test.YtehgpnnfjgmiiaaGreatVRIiq
import Derived.Test.YtehgpnnfjgmiiaaGreatVNCcc
import Derived.Test.YtehgpnnfjgmiiaaGreatVREOctc
import Derived.Test.YtehgpnnfjgmiiaaGreatVRERdrd
import Derived.Test.YtehgpnnfjgmiiaaGreatRows
import Derived.WalkKit
import Derived.Deep.AppendSrc
import Derived.Laws.BytesString
import Derived.Laws.CopyOwn
import Derived.Deep.AppendLies
import Derived.Deep.Draws
import Derived.WalkSpells
import Derived.WalkLawsBesides
import Derived.Lib.Hide
import Derived.Outline
import Derived.Laws.BitsAllLaws
import Derived.Laws.BitsLemmas
import Derived.Laws.Bits64
import Derived.LoopTactic
import Derived.RegionTactic
import Derived.RegionCalls
import Derived.Deep.RegionHeld3
import Derived.Deep.QuietTactic
import Derived.BigQuiet
import Derived.Test.YtehgpnnfjgmiiaaGreatVOja
import Derived.Test.YtehgpnnfjgmiiaaGreatVObd
import Derived.Test.YtehgpnnfjgmiiaaGreatVIiv
import Derived.Test.YtehgpnnfjgmiiaaGreatVObc
import Derived.Test.YtehgpnnfjgmiiaaGreatVROcc
import Derived.Test.YtehgpnnfjgmiiaaGreatVRERefb
import Derived.Test.YtehgpnnfjgmiiaaGreatVRKCdk
import Derived.Test.YtehgpnnfjgmiiaaGreatVRIip
import Derived.Test.YtehgpnnfjgmiiaaGreatVNCra
import Derived.Test.YtehgpnnfjgmiiaaGreatVNCdm
section
namespace Go.Proofs.YtehgpnnfjgmiiaaGreat
open Go.Shelf Go.RowKit Go.Lib Go.Great
set_option maxRecDepth 100000
set_option maxHeartbeats 2000000
/-- What a message holds. -/
structure Cnt where
  kind : Int
  txn : Nat
  frm : List UInt8
  key : List UInt8
  L : List Con
  R : List Ins
def IsM (w : World) (m : Msg) (C : Cnt) : Prop := m.kind = C.kind ∧ m.txn = C.txn ∧ m.frm = C.frm ∧ m.key = C.key ∧ ConV w m.vc C.L ∧ InsV w m.vr C.R
def dS1 (xs : List UInt8) : St := numS ⟨xs, false⟩ 1
def dKy (xs : List UInt8) : Bool := keyM (nxV (dS1 xs) : Int)
def dEnd (xs : List UInt8) : St := nxE (nxV (dS1 xs)) (nxS4 (dKy xs) (dS1 xs))
def dL (xs : List UInt8) : List Con := nxL (nxV (dS1 xs)) (nxS4 (dKy xs) (dS1 xs))
def dR (xs : List UInt8) : List Ins := nxR (nxV (dS1 xs)) (nxS4 (dKy xs) (dS1 xs))
def dGd (xs : List UInt8) : Bool := goodM (nxV (dS1 xs) : Int) (nxY (dKy xs) (dS1 xs)) (dL xs) (dR xs)
def dOk (xs : List UInt8) : Bool := decide (numV ⟨xs, false⟩ 1 = 1) && (decide (doneE (dEnd xs) = 0) && dGd xs)
def decC (xs : List UInt8) : Cnt := if dOk xs then ⟨(nxV (dS1 xs) : Int), nxT (dS1 xs), nxF (dS1 xs), nxY (dKy xs) (dS1 xs), dL xs, dR xs⟩ else ⟨0, 0, zero20, zero20, [], []⟩
def DecIs (w : World) (xs : List UInt8) (e : Ending) (w' : World) : Prop :=
  ∃ m : Msg, e = .returned (.tuple #[.agg (encM m).toArray, .int .i64 (if dOk xs then 0 else 10)]) ∧ IsM w' m (decC xs) ∧ Below w.heap.size w w'
/-- A reader beside the block of what is told. -/
structure DW (w : World) (g B : Nat) (s : St) (W : World) : Prop where
  rd : RdrB W g s B
  hr : W.heap[w.heap.size]? = some (.cells (encM zeroM).toArray 28 (0, 0))
  be : Below w.heap.size w W
  hg : w.heap.size < g
  hB : B ≤ W.heap.size
section
variable {w W W' : World} {g B : Nat} {s s' : St}
theorem DW.lt (d : DW w g B s W) : w.heap.size < W.heap.size := (Array.getElem?_eq_some_iff.1 d.hr).1
theorem DW.read (d : DW w g B s W) (h : RdrB W' g s' B) (hg : W.grownBy W' (some g)) : DW w g B s' W' :=
  ⟨h, (hg.block _ d.lt (by intro e; injection e with e; have := d.hg; omega)).trans d.hr, below_ownB d.be d.be.size hg (fun k hk => by injection hk with hk; have := d.hg; omega), d.hg, Nat.le_trans d.hB hg.size⟩
theorem DW.bel (d : DW w g B s W) (hb : Below W.heap.size W W') : DW w g B s W' :=
  ⟨d.rd.below hb, (hb.block _ d.lt).trans d.hr, d.be.trans (hb.mono d.be.size), d.hg, Nat.le_trans d.hB hb.size⟩
theorem DW.fin (d : DW w g B s W) (cs : List Value) (hl : cs.length = 44) : W.there w.heap.size 0 44 ∧ (W.setCells w.heap.size 0 cs).rangeAt w.heap.size 0 cs ∧ Below w.heap.size w (W.setCells w.heap.size 0 cs) := by
  have ht := row_there d.hr
  rw [encM_length] at ht
  exact ⟨ht, World.rangeAt_setCells_same W _ 0 cs (by rw [hl]; exact ht), below_ownB d.be d.be.size (grown_sets W _ 0 cs) (fun k hk => by injection hk with hk; omega)⟩
end
theorem zero_is (w : World) : IsM w zeroM ⟨0, 0, zero20, zero20, [], []⟩ := ⟨rfl, rfl, rfl, rfl, conV_nil w, insV_nil w⟩
/-- What Decode's calls answer, one behind the other. -/
structure DecK (w : World) (A : Option Addr) (n c : Nat) (v : Nat) (s0 s1 : St) : Prop where
  op : Calls Tryz.prog 39 #[.slice A n c] (w.alloc (.cells (encM zeroM).toArray 28)) fun e w' => ∃ g B, e = .returned (.pointer (some ⟨g, 0, none⟩)) ∧ DW w g B s0 w'
  nu : ∀ W g B, DW w g B s0 W → Calls Tryz.prog 40 #[.pointer (some ⟨g, 0, none⟩), .int .i64 1] W fun e w' => e = .returned (.int .u64 (v : Int)) ∧ DW w g B s1 w'
theorem decK {w : World} {A : Option Addr} {c : Nat} {xs : List UInt8} (hA : BAt w w.heap.size A xs) (hl : xs.length ≤ 100000) : DecK w A xs.length c (numV ⟨xs, false⟩ 1) ⟨xs, false⟩ (dS1 xs) := by
  have hb : Below w.heap.size w (w.alloc (.cells (encM zeroM).toArray 28)) := (Below.refl _ w).alloc (Nat.le_refl _) _
  refine ⟨(open_any A c xs _ ((hA.below hb).more hb.size) (by omega)).mono ?_, fun W g B d => (num_anyB d.rd 1 (by omega)).mono ?_⟩
  · rintro e w' ⟨g, rfl, hg, hr, hb2⟩
    have hs : (w.alloc (.cells (encM zeroM).toArray 28)).heap.size = w.heap.size + 1 := by simp
    exact ⟨g, w'.heap.size, rfl, hr.rb, (hb2.block _ (by omega)).trans (heap_alloc_new w _), hb.trans (hb2.mono (by omega)), by omega, Nat.le_refl _⟩
  · rintro e w' ⟨rfl, h1, h2⟩
    exact ⟨rfl, d.read h1 h2⟩
theorem decode_v (w : World) (A : Option Addr) (n c v : Nat) (s0 s1 : St) (K : DecK w A n c v s0 s1) (hv : ¬ v = 1) : Calls Tryz.prog 19 #[.slice A n c] w fun e w' => e = .returned (.tuple #[.agg (encM zeroM).toArray, .int .i64 10]) ∧ Below w.heap.size w w' := by
  have bv := bneT (show ¬ (v : Int) = 1 by omega)
  have H39 := Lib.hid K.op
  have H40 := Lib.hid K.nu
  have HBU := Lib.hid run_build28z
  have HZ := Lib.hid (encM_length zeroM)
  have HZO := Lib.hid (encM_one zeroM)
  have HFI : Hid (∀ g B s W, DW w g B s W → W.there w.heap.size 0 44 ∧ (W.setCells w.heap.size 0 (encM zeroM)).rangeAt w.heap.size 0 (encM zeroM) ∧ Below w.heap.size w (W.setCells w.heap.size 0 (encM zeroM))) := Lib.hid (fun g B s W d => d.fin _ HZ.out)
  clear K
  go_enter Tryz.func19, Tryz.ntmps19
  go_wp2_with (first
    | (with_reducible refine wpList_allocM (o := ⟨some 2, _, _, _, _, _⟩) w.heap.size rfl rfl 2 rfl rfl ?_)
    | (go_at_call 39; (with_reducible refine H39.out.mono ?_); rintro e w1 ⟨g, B, rfl, d1⟩)
    | (go_at_call 40; (with_reducible refine (H40.out _ _ _ d1).mono ?_); rintro e w2 ⟨rfl, d2⟩; obtain ⟨x1, x2, x3⟩ := HFI.out _ _ _ _ d2)
    | ((with_reducible refine wpList_buildV (o := ⟨some 11, _, _, _, _, _⟩) rfl 28 #[] rfl #[] ?_ _ (HBU.out _) ?_); rfl)
    | ((with_reducible refine wpList_storeM (o := ⟨none, _, _, _, _, _⟩) rfl (.tmp 2) (.tmp 11) rfl w.heap.size (encM zeroM) HZ.out HZO.out ?_ ?_ x1 ?_); rfl; rfl))
  refine bodyPost_ret (results_cs (p := 2) (t := 3) (ty := 28) rfl _ _ w.heap.size 0 (encM zeroM) _ _ rfl rfl x2 Tryz.underlying28 rfl (by rw [HZ.out]; exact size28m)) rfl ?_
  exact ⟨rfl, x3⟩
theorem IsM.bel {W W' : World} {m : Msg} {C : Cnt} (h : IsM W m C) (hb : Below W.heap.size W W') : IsM W' m C := ⟨h.1, h.2.1, h.2.2.1, h.2.2.2.1, h.2.2.2.2.1.below hb, h.2.2.2.2.2.below hb⟩
theorem IsM.sets {W : World} {m : Msg} {C : Cnt} {b0 r : Nat} {cs : List Value} (h : IsM W m C) (h1 : FrV b0 m.vc) (h2 : FrV b0 m.vr) (hr : r < b0) : IsM (W.setCells r 0 cs) m C := ⟨h.1, h.2.1, h.2.2.1, h.2.2.2.1, conV_sets h.2.2.2.2.1 h1 hr, insV_sets h.2.2.2.2.2 h2 hr⟩
theorem decode_n (w : World) (A : Option Addr) (n c : Nat) (s0 s1 : St) (K : DecK w A n c 1 s0 s1) (dn : Int) (gd : Bool) (C : Cnt)
    (H41 : Hid (∀ W g B, DW w g B s1 W → Calls Tryz.prog 41 #[.pointer (some ⟨g, 0, none⟩)] W fun e w' => ∃ m : Msg, e = .returned (.agg (encM m).toArray) ∧ IsM w' m C ∧ FrV W.heap.size m.vc ∧ FrV W.heap.size m.vr ∧ ∃ sE, DW w g B sE w' ∧ doneE sE = dn))
    (H11 : Hid (∀ W m, IsM W m C → Calls Tryz.prog 11 #[.agg (encM m).toArray] W fun e w' => e = .returned (.bool gd) ∧ Below W.heap.size W w')) :
    Calls Tryz.prog 19 #[.slice A n c] w fun e w' => ∃ m : Msg, e = .returned (.tuple #[.agg (encM m).toArray, .int .i64 (if dn = 0 ∧ gd = true then 0 else 10)]) ∧ IsM w' m (if dn = 0 ∧ gd = true then C else ⟨0, 0, zero20, zero20, [], []⟩) ∧ Below w.heap.size w w' := by
  have H39 := Lib.hid K.op
  have H40 := Lib.hid K.nu
  have HBU := Lib.hid run_build28z
  have HZ := Lib.hid (encM_length zeroM)
  have HZO := Lib.hid (encM_one zeroM)
  have HML := Lib.hid encM_length
  have HMO := Lib.hid encM_one
  have HDN : Hid (∀ W g B s, DW w g B s W → doneE s = dn → Calls Tryz.prog 42 #[.pointer (some ⟨g, 0, none⟩)] W fun e w' => e = .returned (.int .i64 dn) ∧ w' = W) := Lib.hid (fun W g B s d h => (done_any d.rd.rs).mono (by
    rintro e w' ⟨rfl, rfl⟩
    exact ⟨by rw [h], rfl⟩))
  clear K
  go_enter Tryz.func19, Tryz.ntmps19
  go_upto_region 5 with (first
    | (with_reducible refine wpList_allocM (o := ⟨some 2, _, _, _, _, _⟩) w.heap.size rfl rfl 2 rfl rfl ?_)
    | (go_at_call 39; (with_reducible refine H39.out.mono ?_); rintro e w1 ⟨g, B, rfl, d1⟩)
    | (go_at_call 40; (with_reducible refine (H40.out _ _ _ d1).mono ?_); rintro e w2 ⟨rfl, d2⟩)
    | (go_at_call 41; (with_reducible refine (H41.out _ _ _ d2).mono ?_); rintro e w3 ⟨m, rfl, hm, hf1, hf2, sE, d3, hdn⟩)
    | (with_reducible refine wpList_allocM (o := ⟨some 5, _, _, _, _, _⟩) w3.heap.size rfl rfl 5 rfl rfl ?_)
    | ((with_reducible refine wpList_storeMn (o := ⟨none, _, _, _, _, _⟩) rfl (.tmp 5) (.tmp 13) rfl w3.heap.size rfl (encM zeroM) (encM m) HZ.out (HML.out m) (HMO.out m) ?_ ?_ ?_); rfl; rfl))
  have hba : Below w3.heap.size w3 (w3.alloc (.cells (encM m).toArray 28)) := (Below.refl _ w3).alloc (Nat.le_refl _) _
  have d5 := d3.bel hba
  have hm5 := hm.bel hba
  have hn5 := heap_alloc_new w3 (.cells (encM m).toArray 28)
  have hr2 : w.heap.size < w2.heap.size := d2.lt
  generalize w3.heap.size = p5 at *
  generalize w3.alloc (.cells (encM m).toArray 28) = W5 at *
  have HLD : Hid (∀ W, Below W5.heap.size W5 W → (loadVar 28 ⟨p5, 0, none⟩).run Tryz.prog W = .ok (.agg (encM m).toArray) W) := Lib.hid (fun W hW => (fldM_below hn5 hW (Array.getElem?_eq_some_iff.1 hn5).1).all)
  have HR := Lib.hid (Below.refl W5.heap.size W5)
  have C11 := Lib.hid (H11.out _ m hm5)
  have C42 := Lib.hid (HDN.out _ _ _ _ d5 hdn)
  have FZ : Hid (∀ W, Below W5.heap.size W5 W → W.there w.heap.size 0 44 ∧ (W.setCells w.heap.size 0 (encM zeroM)).rangeAt w.heap.size 0 (encM zeroM) ∧ Below w.heap.size w (W.setCells w.heap.size 0 (encM zeroM))) := Lib.hid (fun W hW => (d5.bel hW).fin _ HZ.out)
  have FM : Hid (∀ W, Below W5.heap.size W5 W → W.there w.heap.size 0 44 ∧ (W.setCells w.heap.size 0 (encM m)).rangeAt w.heap.size 0 (encM m) ∧ Below w.heap.size w (W.setCells w.heap.size 0 (encM m)) ∧ IsM (W.setCells w.heap.size 0 (encM m)) m C) := Lib.hid (fun W hW => by
    obtain ⟨x1, x2, x3⟩ := (d5.bel hW).fin (encM m) (HML.out m)
    exact ⟨x1, x2, x3, (hm5.bel hW).sets hf1 hf2 hr2⟩)
  have MO := Lib.hid (HMO.out m)
  have ML := Lib.hid (HML.out m)
  clear d1 d2 d3 d5 hm hm5 hf1 hf2 hdn hba hn5 hr2 H39 H40 H41 H11 HDN HML HMO
  by_cases h0 : dn = 0
  · subst h0
    cases gd with
    | false =>
      go_wp2_with (first
        | (go_at_call 42; (with_reducible refine C42.out.mono ?_); rintro e w6 ⟨rfl, rfl⟩)
        | ((with_reducible refine wpList_loadG (o := ⟨some 18, _, _, _, _, _⟩) rfl 28 (.tmp 5) rfl _ ?_ _ (HLD.out _ HR.out) ?_); rfl)
        | (go_at_call 11; (with_reducible refine C11.out.mono ?_); rintro e w7 ⟨rfl, hb7⟩; obtain ⟨x1, x2, x3⟩ := FZ.out _ hb7)
        | ((with_reducible refine wpList_buildV (o := ⟨some 22, _, _, _, _, _⟩) rfl 28 #[] rfl #[] ?_ _ (HBU.out _) ?_); rfl)
        | ((with_reducible refine wpList_storeM (o := ⟨none, _, _, _, _, _⟩) rfl (.tmp 2) (.tmp 22) rfl w.heap.size (encM zeroM) HZ.out HZO.out ?_ ?_ x1 ?_); rfl; rfl))
      refine bodyPost_ret (results_cs (p := 2) (t := 3) (ty := 28) rfl _ _ w.heap.size 0 (encM zeroM) _ _ rfl rfl x2 Tryz.underlying28 rfl (by rw [HZ.out]; exact size28m)) rfl ?_
      exact ⟨zeroM, by simp, by simpa using zero_is _, x3⟩
    | true =>
      go_wp2_with (first
        | (go_at_call 42; (with_reducible refine C42.out.mono ?_); rintro e w6 ⟨rfl, rfl⟩)
        | ((with_reducible refine wpList_loadG (o := ⟨some 18, _, _, _, _, _⟩) rfl 28 (.tmp 5) rfl _ ?_ _ (HLD.out _ HR.out) ?_); rfl)
        | (go_at_call 11; (with_reducible refine C11.out.mono ?_); rintro e w7 ⟨rfl, hb7⟩; obtain ⟨x1, x2, x3, x4⟩ := FM.out _ hb7)
        | ((with_reducible refine wpList_loadV (op := ⟨some 23, _, _, _, _, _⟩) rfl 28 (.tmp 5) rfl _ ?_ _ (HLD.out _ hb7) ?_); rfl)
        | ((with_reducible refine wpList_storeM (o := ⟨none, _, _, _, _, _⟩) rfl (.tmp 2) (.tmp 23) rfl w.heap.size (encM m) ML.out MO.out ?_ ?_ x1 ?_); rfl; rfl))
      refine bodyPost_ret (results_cs (p := 2) (t := 3) (ty := 28) rfl _ _ w.heap.size 0 (encM m) _ _ rfl rfl x2 Tryz.underlying28 rfl (by rw [ML.out]; exact size28m)) rfl ?_
      exact ⟨m, by simp, by simpa using x4, x3⟩
  · have bd := bneT h0
    obtain ⟨x1, x2, x3⟩ := FZ.out _ HR.out
    go_wp2_with (first
      | (go_at_call 42; (with_reducible refine C42.out.mono ?_); rintro e w6 ⟨rfl, rfl⟩)
      | ((with_reducible refine wpList_buildV (o := ⟨some 22, _, _, _, _, _⟩) rfl 28 #[] rfl #[] ?_ _ (HBU.out _) ?_); rfl)
      | ((with_reducible refine wpList_storeM (o := ⟨none, _, _, _, _, _⟩) rfl (.tmp 2) (.tmp 22) rfl w.heap.size (encM zeroM) HZ.out HZO.out ?_ ?_ x1 ?_); rfl; rfl))
    refine bodyPost_ret (results_cs (p := 2) (t := 3) (ty := 28) rfl _ _ w.heap.size 0 (encM zeroM) _ _ rfl rfl x2 Tryz.underlying28 rfl (by rw [HZ.out]; exact size28m)) rfl ?_
    exact ⟨zeroM, by first | rfl | simp [h0], by first | exact zero_is _ | simpa [h0] using zero_is _, x3⟩
theorem ros_tgts (k : Nat) (s : St) : ∀ x ∈ nxR k s, x.tgt.length ≤ 1024 := by
  intro x hx
  unfold nxR at hx
  split at hx
  · unfold rosL at hx
    split at hx
    · exact rosN_tgt _ _ x hx
    · cases hx
  · cases hx
theorem nxL_len (k : Nat) (s : St) : (nxL k s).length ≤ 256 := by
  unfold nxL
  split
  · unfold rlL
    split
    · rw [nxI_len]
      have := numV1_lt s
      omega
    · simp
  · simp
theorem decode_any (A : Option Addr) (c : Nat) (xs : List UInt8) (w : World) (hA : BAt w w.heap.size A xs) (hl : xs.length ≤ 100000) : Calls Tryz.prog 19 #[.slice A xs.length c] w (DecIs w xs) := by
  have K := decK (c := c) hA hl
  unfold DecIs decC
  by_cases hv : numV ⟨xs, false⟩ 1 = 1
  · rw [hv] at K
    have hok : (dOk xs = true) = (doneE (dEnd xs) = 0 ∧ dGd xs = true) := by
      unfold dOk
      rw [hv]
      simp
    have h := decode_n w A xs.length c _ _ K (doneE (dEnd xs)) (dGd xs) ⟨(nxV (dS1 xs) : Int), nxT (dS1 xs), nxF (dS1 xs), nxY (dKy xs) (dS1 xs), dL xs, dR xs⟩ (Lib.hid (fun W g B d => (mnext_any d.rd d.hB).mono (by
      rintro e w' ⟨vc, vr, rfl, o1, o2, f1, f2, hc, hr, hrd, hg⟩
      have hv256 : nxV (dS1 xs) < 256 := numV_lt _ 1
      have hyl : (nxY (dKy xs) (dS1 xs)).length = 20 := by
        unfold nxY
        split
        · exact pubV_length _
        · simp [zero20]
      exact ⟨⟨(nxV (dS1 xs) : Int), nxT (dS1 xs), nxF (dS1 xs), nxY (dKy xs) (dS1 xs), vc, vr, by omega, numV_lt _ 4, pubV_length _, hyl, o1, o2⟩, rfl, ⟨rfl, rfl, rfl, rfl, hc, hr⟩, f1, f2, dEnd xs, d.read hrd hg, rfl⟩))) (Lib.hid (fun W m hm => by
      obtain ⟨h1, _, _, h4, h5, h6⟩ := hm
      have := mgood_any m _ _ W h5 h6 (by have := nxL_len (nxV (dS1 xs)) (nxS4 (dKy xs) (dS1 xs)); show (dL xs).length ≤ _; unfold dL; omega) (fun x hx => by have := ros_tgts _ _ x hx; omega)
      rw [h1, h4] at this
      exact this))
    simp only [hok]
    exact h
  · have hok : dOk xs = false := by unfold dOk; rw [decide_eq_false hv, Bool.false_and]
    rw [hok]
    refine (decode_v w A xs.length c _ _ _ K hv).mono ?_
    rintro e w' ⟨rfl, hb⟩
    exact ⟨zeroM, rfl, zero_is _, hb⟩
end Go.Proofs.YtehgpnnfjgmiiaaGreat
end
section
namespace Go.Proofs.YtehgpnnfjgmiiaaGreat
set_option maxRecDepth 100000
open Go.RowKit
set_option linter.unusedVariables false

section
variable {w w' : World} {h : Nat} {A : Option Addr} {c : Nat} {xs : List UInt8} {k : Nat} {bad : Bool}
theorem rleft_any (r : RRd w h A c xs k bad) : Calls Tryz.prog 77 #[.pointer (some ⟨h, 0, none⟩)] w fun e w' => e = .returned (.int .i64 ((xs.length - k : Nat) : Int)) ∧ ∃ n, w' = w.drewN n := by
  obtain ⟨c0, c1, c2, f⟩ := r.cells
  obtain ⟨_, _, hk, hc, hl, _⟩ := r
  have e1 : ((xs.length - k : Nat) : Int) = (xs.length : Int) - (k : Int) := by omega
  rw [e1]
  have hk' : (k : Int) ≤ (xs.length : Int) := by omega
  clear e1
  go_enter Tryz.func77, Tryz.ntmps77
  go_wp2
  go_quiet (fail)
  go_wp2
  go_ret
  exact ⟨rfl, nq, rfl⟩

theorem rdone_any (r : RRd w h A c xs k bad) : Calls Tryz.prog 48 #[.pointer (some ⟨h, 0, none⟩)] w fun e w' => e = .returned (.int .i64 (doneE ⟨xs.drop k, bad⟩)) ∧ ∃ n, w' = w.drewN n := by
  obtain ⟨c0, c1, c2, f⟩ := r.cells
  have HL := Lib.hid (rleft_any r)
  have hl : xs.length ≤ 900000 := r.2.2.2.2.1
  have e1 : (xs.drop k).length = xs.length - k := by rw [List.length_drop]
  unfold doneE
  simp only [e1]
  generalize hm : xs.length - k = m at HL ⊢
  have hm' : m ≤ 900000 := by omega
  clear r e1 hm hl
  by_cases hb : bad = true
  · subst hb
    rw [if_pos (.inl rfl)]
    go_enter Tryz.func48, Tryz.ntmps48
    go_wp2_with (go_at_call 77; refine (HL.out).mono ?_; rintro e w1 ⟨rfl, n1, rfl⟩)
    go_ret
    exact ⟨rfl, 0, rfl⟩
  · have hb' : bad = false := by simpa using hb
    subst hb'
    by_cases hp : 0 < m
    · rw [if_pos (.inr hp)]
      clear hb
      have d : decide ((0 : Int) < (m : Int)) = true := by simpa using hp
      go_enter Tryz.func48, Tryz.ntmps48
      go_wp2_with (go_at_call 77; refine (HL.out).mono ?_; rintro e w1 ⟨rfl, n1, rfl⟩)
      go_ret
      exact ⟨rfl, n1, rfl⟩
    · rw [if_neg (fun h => h.elim hb hp)]
      clear hb
      have d : decide ((0 : Int) < (m : Int)) = false := by simpa using hp
      go_enter Tryz.func48, Tryz.ntmps48
      go_wp2_with (go_at_call 77; refine (HL.out).mono ?_; rintro e w1 ⟨rfl, n1, rfl⟩)
      go_ret
      exact ⟨rfl, n1, rfl⟩

end
end Go.Proofs.YtehgpnnfjgmiiaaGreat
end
section
namespace Go.Proofs.YtehgpnnfjgmiiaaGreat
open Go.Shelf Go.RowKit Go.Lib Go.Sort Go.Great
set_option maxRecDepth 100000
set_option maxHeartbeats 1000000
theorem idxP_own (L : List Con) (q : Nat) (hq : q < L.length) : idxP (isC (idC L[q])) L = (q : Int) ↔ findC (ctsC L) (L[q].1.1) = some q := by
  rw [idxP_findC]
  show (match findC (ctsC L) (L[q].1.1) with | some k => (k : Int) | none => -1) = (q : Int) ↔ _
  cases h : findC (ctsC L) (L[q].1.1) with
  | none =>
    simp only [reduceCtorEq, iff_false] <;> omega
  | some k =>
    simp only [Option.some.injEq]
    omega
theorem goodC_yes {L : List Con} (h : ∀ q (hq : q < L.length), ctGood L[q].1 = true ∧ idxP (isC (idC L[q])) L = (q : Int)) : goodC (ctsC L) = decide (L.length ≤ 64) := by
  have h1 : (ctsC L).all ctGood = true := by
    unfold ctsC
    rw [List.all_map, List.all_eq_true]
    intro x hx
    obtain ⟨j, hj, rfl⟩ := List.getElem_of_mem hx
    exact (h j hj).1
  have h2 : ((ctsC L).map (·.1)).Nodup := by
    rw [← find_nodup]
    intro i hi
    have hi' : i < L.length := by simpa [ctsC] using hi
    have := (idxP_own L i hi').1 (h i hi').2
    simpa [ctsC] using this
  unfold goodC
  rw [h1, decide_eq_true h2, Bool.true_and, Bool.true_and]
  simp [ctsC]
theorem goodC_no {L : List Con} (q : Nat) (hq : q < L.length) (h : ¬ (ctGood L[q].1 = true ∧ idxP (isC (idC L[q])) L = (q : Int))) : goodC (ctsC L) = false := by
  cases hg : goodC (ctsC L) with
  | false => rfl
  | true =>
    refine absurd ⟨goodC_all hg _ (List.mem_map.2 ⟨L[q], List.getElem_mem hq, rfl⟩), (idxP_own L q hq).2 ?_⟩ h
    have hn : ((ctsC L).map (·.1)).Nodup := by
      unfold goodC at hg
      simp only [Bool.and_eq_true, decide_eq_true_eq] at hg
      exact hg.1.2
    have := (find_nodup (ctsC L)).2 hn q (by simpa [ctsC] using hq)
    simpa [ctsC] using this
def GlRel (W0 : World) (L : List Con) (i : Value) (wr : World) : Prop := ∃ j : Nat, j ≤ L.length ∧ i = .int .i64 (j : Int) ∧ (∀ q (hq : q < L.length), q < j → ctGood L[q].1 = true ∧ idxP (isC (idC L[q])) L = (q : Int)) ∧ Below W0.heap.size W0 wr
theorem rgoodlist_any (A : Option Addr) (c : Nat) (L : List Con) (w : World) (hL : L.length ≤ 10000) (hA : CAt w w.heap.size A L) :
    Calls Tryz.prog 34 #[.slice A L.length c] w fun e w' => e = .returned (.bool (goodC (ctsC L))) ∧ Below w.heap.size w w' := by
  have HA := Lib.hid hA
  have R0 : Hid (GlRel w L (.int .i64 0) w) := Lib.hid ⟨0, by omega, rfl, fun q hq h => by omega, Below.refl _ _⟩
  obtain ⟨n, hn⟩ : ∃ n, n = L.length := ⟨_, rfl⟩
  rw [← hn] at hL ⊢
  have HN := Lib.hid hn
  obtain ⟨D, hD⟩ : ∃ D, D = goodC (ctsC L) := ⟨_, rfl⟩
  rw [← hD]
  have HD := Lib.hid hD
  clear hA hn hD
  go_enter Tryz.func34, Tryz.ntmps34
  go_upto_region 2 with fail
  go_loopw [3] (GlRel w L) (fun i _ => n - (RowKit.intOf i).toNat)
  case atStart => exact R0.out
  case round =>
    obtain ⟨j, hj, rfl, hq, hb⟩ := hrel
    clear R0
    have HQ := Lib.hid hq
    have HB := Lib.hid hb
    by_cases hlt : j < n
    · have hjL : j < L.length := by have := HN.out; omega
      obtain ⟨x, hx⟩ : ∃ x, L[j]'hjL = x := ⟨_, rfl⟩
      have hF : ∀ W, Below wr.heap.size wr W → Calls Tryz.prog 60 #[.slice A n c, .agg (encID (idC x)).toArray] W fun e w' => e = .returned (.int .i64 (idxP (isC (idC x)) L)) ∧ Below w.heap.size w w' := fun W hW => by
        have h1 := hb.trans (hW.mono hb.size)
        have := rfind_any A c L (idC x) W (by rw [← HN.out]; exact hL) ((HA.out.below h1).more h1.size)
        rw [← HN.out] at this
        refine this.mono ?_
        rintro e w' ⟨rfl, k⟩
        exact ⟨rfl, h1.trans (k.mono h1.size)⟩
      have HF := Lib.hid hF
      obtain ⟨g, off, rfl, hg, hr⟩ := (HA.out.below hb).some_ (by omega)
      have hgr : g < wr.heap.size := Nat.lt_of_lt_of_le hg hb.size
      have hre := range_elem hr j hjL
      rw [hx] at hre
      have HLY := Lib.hid (load73 hre)
      have HLI : Hid (∀ W, Below wr.heap.size wr W → (loadVar 87 ⟨g, off + j * 22, none⟩).run Tryz.prog W = .ok (.agg (encID (idC x)).toArray) W) := Lib.hid (fun W hW => range_load42 (range_keep (range_idC hre) (hW.block g hgr)))
      have HG := Lib.hid (rcgood_any x wr)
      have HJ := Lib.hid hjL
      have HIX : Hid (L[j]'hjL = x) := Lib.hid hx
      have HNO : Hid (¬ (ctGood x.1 = true ∧ idxP (isC (idC x)) L = (j : Int)) → goodC (ctsC L) = false) := Lib.hid (fun h => goodC_no j hjL (fun k => h ⟨(congrArg (fun z : Con => ctGood z.1) hx).symm.trans k.1, (congrArg (fun z : Con => idxP (isC (idC z)) L) hx).symm.trans k.2⟩))
      by_cases hgd : ctGood x.1 = true
      · rw [hgd] at HG
        by_cases hix : idxP (isC (idC x)) L = (j : Int)
        · rw [hix] at HF
          have HS : Hid (∀ wk, Below w.heap.size w wk → GlRel w L (.int .i64 ((j : Int) + 1)) wk) := Lib.hid (fun wk hk => ⟨j + 1, by have := HN.out; omega, by go_num, fun q hq h => by
            by_cases e : q = j
            · subst e; exact ⟨(congrArg (fun z : Con => ctGood z.1) HIX.out).trans hgd, (congrArg (fun z : Con => idxP (isC (idC z)) L) HIX.out).trans hix⟩
            · exact HQ.out q hq (by omega), hk⟩)
          clear hr hg hgr hb hq hgd hix hF hx hre HNO
          generalize (encC x).toArray = X at HLY HG
          generalize (encID (idC x)).toArray = Y at HLI HF
          go_wp2_with (first
            | ((with_reducible refine wpList_loadV (op := ⟨some 13, _, _, _, _, _⟩) rfl 90 (.tmp 12) rfl _ ?_ _ HLY.out ?_); rfl)
            | (go_at_call 59; (with_reducible refine HG.out.mono ?_); rintro e1 w1 ⟨rfl, hb1⟩)
            | ((with_reducible refine wpList_loadGN (op := ⟨some 22, _, _, _, _, _⟩) ?_ 87 (.tmp 21) rfl _ ?_ _ (HLI.out _ hb1) ?_); rfl; rfl)
            | (go_at_call 60; (with_reducible refine (HF.out _ hb1).mono ?_); rintro e2 w2 ⟨rfl, hb2⟩))
          go_roundw
          case rel => exact HS.out _ hb2
          case measure => simp [RowKit.intOf]; omega
        · have HP : Hid (D = false) := Lib.hid (by rw [HD.out]; exact HNO.out (fun h => hix h.2))
          obtain ⟨ix, hix2⟩ : ∃ ix, ix = idxP (isC (idC x)) L := ⟨_, rfl⟩
          rw [← hix2] at HF hix
          clear hr hg hgr hb hq hgd hF hix2 hx hre HNO
          have hne : (ix == (j : Int)) = false := by simpa using hix
          generalize (encC x).toArray = X at HLY HG
          generalize (encID (idC x)).toArray = Y at HLI HF
          go_wp2_with (first
            | ((with_reducible refine wpList_loadV (op := ⟨some 13, _, _, _, _, _⟩) rfl 90 (.tmp 12) rfl _ ?_ _ HLY.out ?_); rfl)
            | (go_at_call 59; (with_reducible refine HG.out.mono ?_); rintro e1 w1 ⟨rfl, hb1⟩)
            | ((with_reducible refine wpList_loadGN (op := ⟨some 22, _, _, _, _, _⟩) ?_ 87 (.tmp 21) rfl _ ?_ _ (HLI.out _ hb1) ?_); rfl; rfl)
            | (go_at_call 60; (with_reducible refine (HF.out _ hb1).mono ?_); rintro e2 w2 ⟨rfl, hb2⟩))
          go_ret
          exact ⟨by rw [HP.out] <;> rfl, hb2⟩
      · have hgd' : ctGood x.1 = false := by cases h : ctGood x.1 with | true => exact absurd h hgd | false => rfl
        rw [hgd'] at HG
        have HP : Hid (D = false) := Lib.hid (by rw [HD.out]; exact HNO.out (fun h => hgd h.1))
        clear hr hg hgr hb hq hgd hgd' HF hF HLI hx hre HNO
        generalize (encC x).toArray = X at HLY HG
        go_wp2_with (first
          | ((with_reducible refine wpList_loadV (op := ⟨some 13, _, _, _, _, _⟩) rfl 90 (.tmp 12) rfl _ ?_ _ HLY.out ?_); rfl)
          | (go_at_call 59; (with_reducible refine HG.out.mono ?_); rintro e1 w1 ⟨rfl, hb1⟩))
        go_ret
        exact ⟨by rw [HP.out] <;> rfl, HB.out.trans (hb1.mono HB.out.size)⟩
    · have HP : Hid (D = decide (n ≤ 64)) := Lib.hid (by
        rw [HD.out, HN.out]
        exact goodC_yes (fun q hq => HQ.out q hq (by have := HN.out; omega)))
      clear hb hq HQ
      by_cases h64 : n ≤ 64
      · rw [decide_eq_true h64] at HP
        have h64' : (n : Int) ≤ 64 := by omega
        go_wp2
        go_ret
        exact ⟨by rw [HP.out] <;> rfl, HB.out⟩
      · rw [decide_eq_false h64] at HP
        have h64' : ¬ (n : Int) ≤ 64 := by omega
        go_wp2
        go_ret
        exact ⟨by rw [HP.out] <;> rfl, HB.out⟩
end Go.Proofs.YtehgpnnfjgmiiaaGreat
end
section
namespace Go.Proofs.YtehgpnnfjgmiiaaGreat
open Go.Shelf Go.RowKit Go.Lib Go.Sort Go.Great
set_option maxRecDepth 100000
set_option maxHeartbeats 1000000
theorem wpList_alloc73 {w : World} {A : Obj} {ops : Array Oper} {rest : List Oper} {o : Oper} {a : Act} {Q : Exit → Act → World → Prop} (hgd : o.guard = none) (d : Nat) (hd : o.dst = some d) (ho : o.op = .alloc 90)
    (h : wpList Tryz.prog ops Q rest (a.put (some d) (.pointer (some ⟨w.heap.size + 1, 0, none⟩))) ((w.alloc A).alloc (.cells (encC default).toArray 90))) : wpList Tryz.prog ops Q (o :: rest) a (w.alloc A) :=
  wpList_plain hgd fun _ hK => by
    have es : w.heap.size + 1 = (w.alloc A).heap.size := by simp
    rw [es] at h
    have hz := fun W => zV73 W
    generalize (encC default).toArray = Z at hz h
    unfold Oper.wp execOp
    simp only [ho, Instr.alloc, Sem.run_bind, hz, Result.andThen_ok, Value.cells]
    simp [Oper.upon, hd]
    exact hK _ _ h
theorem own_belC {base e size n : Nat} {v : Value} {xs : List Value} {w w' : World} (h : w.ownsRow base e size v n xs) (hb : Below w.heap.size w w') : w'.ownsRow base e size v n xs :=
  h.kept (grown_of_bel hb none) (by cases v.ownBlock <;> simp)
end Go.Proofs.YtehgpnnfjgmiiaaGreat
end
section
namespace Go.Proofs.YtehgpnnfjgmiiaaGreat
open Go.Shelf Go.RowKit Go.Lib Go.Sort Go.Great
set_option maxRecDepth 100000
set_option maxHeartbeats 1000000
end Go.Proofs.YtehgpnnfjgmiiaaGreat
end
