/- Decode of the program. Conditions: at most 100,000 bytes. Contracts of the reader of the reference: Left, fail, Done, Num. Conditions: the bytes are fewer than 900,000; a number that comes in is an int. GoodList of the reference. Conditions: at most 10,000 contacts. One, Plain and Same of the statements on contacts. Conditions: at most 10,000 contacts. Bytes, List and Without of the reference. Conditions: at most 10,000 contacts. Contract of Read of package contact. Conditions: at most 900,000 bytes. Read of the reference. Conditions: at most 900,000 bytes. Contract of lives of the statements on contact. No condition. Plain facts on reading lists of contacts. No condition. -/
import Derived.Test.YtehgpnnfjgmiiaaGreatYWat
import Derived.Test.YtehgpnnfjgmiiaaGreatYWad
import Derived.Test.YtehgpnnfjgmiiaaGreatYRIiq
import Derived.Test.YtehgpnnfjgmiiaaGreatYNCcc
import Derived.Test.YtehgpnnfjgmiiaaGreatYRERdrb
import Derived.Test.YtehgpnnfjgmiiaaGreatYRERefa
import Derived.Test.YtehgpnnfjgmiiaaGreatRows
import Derived.WalkKit
import Derived.Deep.AppendSrc
import Derived.Laws.BytesString
import Derived.Laws.CopyOwn
import Derived.Deep.AppendLies
import Derived.Deep.Draws
import Derived.WalkSpells
import Derived.WalkLawsBesides
import Derived.Lib.Hide
import Derived.Outline
import Derived.Laws.BitsAllLaws
import Derived.Laws.BitsLemmas
import Derived.Laws.Bits64
import Derived.LoopTactic
import Derived.RegionTactic
import Derived.RegionCalls
import Derived.Deep.RegionHeld3
import Derived.Deep.QuietTactic
import Derived.BigQuiet
import Derived.Test.YtehgpnnfjgmiiaaGreatYOja
import Derived.Test.YtehgpnnfjgmiiaaGreatYOcb
import Derived.Test.YtehgpnnfjgmiiaaGreatYOga
import Derived.Test.YtehgpnnfjgmiiaaGreatYRIis
import Derived.Test.YtehgpnnfjgmiiaaGreatYRERefc
import Derived.Test.YtehgpnnfjgmiiaaGreatYRIip
import Derived.Test.YtehgpnnfjgmiiaaGreatYREOcta
import Derived.Test.YtehgpnnfjgmiiaaGreatYNCra
import Derived.Test.YtehgpnnfjgmiiaaGreatYNCdm
import Derived.Test.YtehgpnnfjgmiiaaGreatYNCsa
import Derived.Lib.ConvBytes
section
namespace Go.Proofs.YtehgpnnfjgmiiaaGreat
open Go.Shelf Go.RowKit Go.Lib Go.Great
set_option maxRecDepth 100000
set_option maxHeartbeats 2000000
/-- What a message holds. -/
structure Cnt where
  kind : Int
  txn : Nat
  frm : List UInt8
  key : List UInt8
  L : List Con
  R : List Ins
def IsM (w : World) (m : Msg) (C : Cnt) : Prop := m.kind = C.kind ∧ m.txn = C.txn ∧ m.frm = C.frm ∧ m.key = C.key ∧ ConV w m.vc C.L ∧ InsV w m.vr C.R
def dS1 (xs : List UInt8) : St := numS ⟨xs, false⟩ 1
def dKy (xs : List UInt8) : Bool := keyM (nxV (dS1 xs) : Int)
def dEnd (xs : List UInt8) : St := nxE (nxV (dS1 xs)) (nxS4 (dKy xs) (dS1 xs))
def dL (xs : List UInt8) : List Con := nxL (nxV (dS1 xs)) (nxS4 (dKy xs) (dS1 xs))
def dR (xs : List UInt8) : List Ins := nxR (nxV (dS1 xs)) (nxS4 (dKy xs) (dS1 xs))
def dGd (xs : List UInt8) : Bool := goodM (nxV (dS1 xs) : Int) (nxY (dKy xs) (dS1 xs)) (dL xs) (dR xs)
def dOk (xs : List UInt8) : Bool := decide (numV ⟨xs, false⟩ 1 = 1) && (decide (doneE (dEnd xs) = 0) && dGd xs)
def decC (xs : List UInt8) : Cnt := if dOk xs then ⟨(nxV (dS1 xs) : Int), nxT (dS1 xs), nxF (dS1 xs), nxY (dKy xs) (dS1 xs), dL xs, dR xs⟩ else ⟨0, 0, zero20, zero20, [], []⟩
def DecIs (w : World) (xs : List UInt8) (e : Ending) (w' : World) : Prop :=
  ∃ m : Msg, e = .returned (.tuple #[.agg (encM m).toArray, .int .i64 (if dOk xs then 0 else 10)]) ∧ IsM w' m (decC xs) ∧ Below w.heap.size w w'
/-- A reader beside the block of what is told. -/
structure DW (w : World) (g B : Nat) (s : St) (W : World) : Prop where
  rd : RdrB W g s B
  hr : W.heap[w.heap.size]? = some (.cells (encM zeroM).toArray 28 (0, 0))
  be : Below w.heap.size w W
  hg : w.heap.size < g
  hB : B ≤ W.heap.size
section
variable {w W W' : World} {g B : Nat} {s s' : St}
theorem DW.lt (d : DW w g B s W) : w.heap.size < W.heap.size := (Array.getElem?_eq_some_iff.1 d.hr).1
theorem DW.read (d : DW w g B s W) (h : RdrB W' g s' B) (hg : W.grownBy W' (some g)) : DW w g B s' W' :=
  ⟨h, (hg.block _ d.lt (by intro e; injection e with e; have := d.hg; omega)).trans d.hr, below_ownB d.be d.be.size hg (fun k hk => by injection hk with hk; have := d.hg; omega), d.hg, Nat.le_trans d.hB hg.size⟩
theorem DW.bel (d : DW w g B s W) (hb : Below W.heap.size W W') : DW w g B s W' :=
  ⟨d.rd.below hb, (hb.block _ d.lt).trans d.hr, d.be.trans (hb.mono d.be.size), d.hg, Nat.le_trans d.hB hb.size⟩
theorem DW.fin (d : DW w g B s W) (cs : List Value) (hl : cs.length = 44) : W.there w.heap.size 0 44 ∧ (W.setCells w.heap.size 0 cs).rangeAt w.heap.size 0 cs ∧ Below w.heap.size w (W.setCells w.heap.size 0 cs) := by
  have ht := row_there d.hr
  rw [encM_length] at ht
  exact ⟨ht, World.rangeAt_setCells_same W _ 0 cs (by rw [hl]; exact ht), below_ownB d.be d.be.size (grown_sets W _ 0 cs) (fun k hk => by injection hk with hk; omega)⟩
end
theorem zero_is (w : World) : IsM w zeroM ⟨0, 0, zero20, zero20, [], []⟩ := ⟨rfl, rfl, rfl, rfl, conV_nil w, insV_nil w⟩
/-- What Decode's calls answer, one behind the other. -/
structure DecK (w : World) (A : Option Addr) (n c : Nat) (v : Nat) (s0 s1 : St) : Prop where
  op : Calls Tryz.prog 39 #[.slice A n c] (w.alloc (.cells (encM zeroM).toArray 28)) fun e w' => ∃ g B, e = .returned (.pointer (some ⟨g, 0, none⟩)) ∧ DW w g B s0 w'
  nu : ∀ W g B, DW w g B s0 W → Calls Tryz.prog 40 #[.pointer (some ⟨g, 0, none⟩), .int .i64 1] W fun e w' => e = .returned (.int .u64 (v : Int)) ∧ DW w g B s1 w'
theorem decK {w : World} {A : Option Addr} {c : Nat} {xs : List UInt8} (hA : BAt w w.heap.size A xs) (hl : xs.length ≤ 100000) : DecK w A xs.length c (numV ⟨xs, false⟩ 1) ⟨xs, false⟩ (dS1 xs) := by
  have hb : Below w.heap.size w (w.alloc (.cells (encM zeroM).toArray 28)) := (Below.refl _ w).alloc (Nat.le_refl _) _
  refine ⟨(open_any A c xs _ ((hA.below hb).more hb.size) (by omega)).mono ?_, fun W g B d => (num_anyB d.rd 1 (by omega)).mono ?_⟩
  · rintro e w' ⟨g, rfl, hg, hr, hb2⟩
    have hs : (w.alloc (.cells (encM zeroM).toArray 28)).heap.size = w.heap.size + 1 := by simp
    exact ⟨g, w'.heap.size, rfl, hr.rb, (hb2.block _ (by omega)).trans (heap_alloc_new w _), hb.trans (hb2.mono (by omega)), by omega, Nat.le_refl _⟩
  · rintro e w' ⟨rfl, h1, h2⟩
    exact ⟨rfl, d.read h1 h2⟩
theorem decode_v (w : World) (A : Option Addr) (n c v : Nat) (s0 s1 : St) (K : DecK w A n c v s0 s1) (hv : ¬ v = 1) : Calls Tryz.prog 19 #[.slice A n c] w fun e w' => e = .returned (.tuple #[.agg (encM zeroM).toArray, .int .i64 10]) ∧ Below w.heap.size w w' := by
  have bv := bneT (show ¬ (v : Int) = 1 by omega)
  have H39 := Lib.hid K.op
  have H40 := Lib.hid K.nu
  have HBU := Lib.hid run_build28z
  have HZ := Lib.hid (encM_length zeroM)
  have HZO := Lib.hid (encM_one zeroM)
  have HFI : Hid (∀ g B s W, DW w g B s W → W.there w.heap.size 0 44 ∧ (W.setCells w.heap.size 0 (encM zeroM)).rangeAt w.heap.size 0 (encM zeroM) ∧ Below w.heap.size w (W.setCells w.heap.size 0 (encM zeroM))) := Lib.hid (fun g B s W d => d.fin _ HZ.out)
  clear K
  go_enter Tryz.func19, Tryz.ntmps19
  go_wp2_with (first
    | (with_reducible refine wpList_allocM (o := ⟨some 2, _, _, _, _, _⟩) w.heap.size rfl rfl 2 rfl rfl ?_)
    | (go_at_call 39; (with_reducible refine H39.out.mono ?_); rintro e w1 ⟨g, B, rfl, d1⟩)
    | (go_at_call 40; (with_reducible refine (H40.out _ _ _ d1).mono ?_); rintro e w2 ⟨rfl, d2⟩; obtain ⟨x1, x2, x3⟩ := HFI.out _ _ _ _ d2)
    | ((with_reducible refine wpList_buildV (o := ⟨some 11, _, _, _, _, _⟩) rfl 28 #[] rfl #[] ?_ _ (HBU.out _) ?_); rfl)
    | ((with_reducible refine wpList_storeM (o := ⟨none, _, _, _, _, _⟩) rfl (.tmp 2) (.tmp 11) rfl w.heap.size (encM zeroM) HZ.out HZO.out ?_ ?_ x1 ?_); rfl; rfl))
  refine bodyPost_ret (results_cs (p := 2) (t := 3) (ty := 28) rfl _ _ w.heap.size 0 (encM zeroM) _ _ rfl rfl x2 Tryz.underlying28 rfl (by rw [HZ.out]; exact size28m)) rfl ?_
  exact ⟨rfl, x3⟩
theorem IsM.bel {W W' : World} {m : Msg} {C : Cnt} (h : IsM W m C) (hb : Below W.heap.size W W') : IsM W' m C := ⟨h.1, h.2.1, h.2.2.1, h.2.2.2.1, h.2.2.2.2.1.below hb, h.2.2.2.2.2.below hb⟩
theorem IsM.sets {W : World} {m : Msg} {C : Cnt} {b0 r : Nat} {cs : List Value} (h : IsM W m C) (h1 : FrV b0 m.vc) (h2 : FrV b0 m.vr) (hr : r < b0) : IsM (W.setCells r 0 cs) m C := ⟨h.1, h.2.1, h.2.2.1, h.2.2.2.1, conV_sets h.2.2.2.2.1 h1 hr, insV_sets h.2.2.2.2.2 h2 hr⟩
theorem decode_n (w : World) (A : Option Addr) (n c : Nat) (s0 s1 : St) (K : DecK w A n c 1 s0 s1) (dn : Int) (gd : Bool) (C : Cnt)
    (H41 : Hid (∀ W g B, DW w g B s1 W → Calls Tryz.prog 41 #[.pointer (some ⟨g, 0, none⟩)] W fun e w' => ∃ m : Msg, e = .returned (.agg (encM m).toArray) ∧ IsM w' m C ∧ FrV W.heap.size m.vc ∧ FrV W.heap.size m.vr ∧ ∃ sE, DW w g B sE w' ∧ doneE sE = dn))
    (H11 : Hid (∀ W m, IsM W m C → Calls Tryz.prog 11 #[.agg (encM m).toArray] W fun e w' => e = .returned (.bool gd) ∧ Below W.heap.size W w')) :
    Calls Tryz.prog 19 #[.slice A n c] w fun e w' => ∃ m : Msg, e = .returned (.tuple #[.agg (encM m).toArray, .int .i64 (if dn = 0 ∧ gd = true then 0 else 10)]) ∧ IsM w' m (if dn = 0 ∧ gd = true then C else ⟨0, 0, zero20, zero20, [], []⟩) ∧ Below w.heap.size w w' := by
  have H39 := Lib.hid K.op
  have H40 := Lib.hid K.nu
  have HBU := Lib.hid run_build28z
  have HZ := Lib.hid (encM_length zeroM)
  have HZO := Lib.hid (encM_one zeroM)
  have HML := Lib.hid encM_length
  have HMO := Lib.hid encM_one
  have HDN : Hid (∀ W g B s, DW w g B s W → doneE s = dn → Calls Tryz.prog 42 #[.pointer (some ⟨g, 0, none⟩)] W fun e w' => e = .returned (.int .i64 dn) ∧ w' = W) := Lib.hid (fun W g B s d h => (done_any d.rd.rs).mono (by
    rintro e w' ⟨rfl, rfl⟩
    exact ⟨by rw [h], rfl⟩))
  clear K
  go_enter Tryz.func19, Tryz.ntmps19
  go_upto_region 5 with (first
    | (with_reducible refine wpList_allocM (o := ⟨some 2, _, _, _, _, _⟩) w.heap.size rfl rfl 2 rfl rfl ?_)
    | (go_at_call 39; (with_reducible refine H39.out.mono ?_); rintro e w1 ⟨g, B, rfl, d1⟩)
    | (go_at_call 40; (with_reducible refine (H40.out _ _ _ d1).mono ?_); rintro e w2 ⟨rfl, d2⟩)
    | (go_at_call 41; (with_reducible refine (H41.out _ _ _ d2).mono ?_); rintro e w3 ⟨m, rfl, hm, hf1, hf2, sE, d3, hdn⟩)
    | (with_reducible refine wpList_allocM (o := ⟨some 5, _, _, _, _, _⟩) w3.heap.size rfl rfl 5 rfl rfl ?_)
    | ((with_reducible refine wpList_storeMn (o := ⟨none, _, _, _, _, _⟩) rfl (.tmp 5) (.tmp 13) rfl w3.heap.size rfl (encM zeroM) (encM m) HZ.out (HML.out m) (HMO.out m) ?_ ?_ ?_); rfl; rfl))
  have hba : Below w3.heap.size w3 (w3.alloc (.cells (encM m).toArray 28)) := (Below.refl _ w3).alloc (Nat.le_refl _) _
  have d5 := d3.bel hba
  have hm5 := hm.bel hba
  have hn5 := heap_alloc_new w3 (.cells (encM m).toArray 28)
  have hr2 : w.heap.size < w2.heap.size := d2.lt
  generalize w3.heap.size = p5 at *
  generalize w3.alloc (.cells (encM m).toArray 28) = W5 at *
  have HLD : Hid (∀ W, Below W5.heap.size W5 W → (loadVar 28 ⟨p5, 0, none⟩).run Tryz.prog W = .ok (.agg (encM m).toArray) W) := Lib.hid (fun W hW => (fldM_below hn5 hW (Array.getElem?_eq_some_iff.1 hn5).1).all)
  have HR := Lib.hid (Below.refl W5.heap.size W5)
  have C11 := Lib.hid (H11.out _ m hm5)
  have C42 := Lib.hid (HDN.out _ _ _ _ d5 hdn)
  have FZ : Hid (∀ W, Below W5.heap.size W5 W → W.there w.heap.size 0 44 ∧ (W.setCells w.heap.size 0 (encM zeroM)).rangeAt w.heap.size 0 (encM zeroM) ∧ Below w.heap.size w (W.setCells w.heap.size 0 (encM zeroM))) := Lib.hid (fun W hW => (d5.bel hW).fin _ HZ.out)
  have FM : Hid (∀ W, Below W5.heap.size W5 W → W.there w.heap.size 0 44 ∧ (W.setCells w.heap.size 0 (encM m)).rangeAt w.heap.size 0 (encM m) ∧ Below w.heap.size w (W.setCells w.heap.size 0 (encM m)) ∧ IsM (W.setCells w.heap.size 0 (encM m)) m C) := Lib.hid (fun W hW => by
    obtain ⟨x1, x2, x3⟩ := (d5.bel hW).fin (encM m) (HML.out m)
    exact ⟨x1, x2, x3, (hm5.bel hW).sets hf1 hf2 hr2⟩)
  have MO := Lib.hid (HMO.out m)
  have ML := Lib.hid (HML.out m)
  clear d1 d2 d3 d5 hm hm5 hf1 hf2 hdn hba hn5 hr2 H39 H40 H41 H11 HDN HML HMO
  by_cases h0 : dn = 0
  · subst h0
    cases gd with
    | false =>
      go_wp2_with (first
        | (go_at_call 42; (with_reducible refine C42.out.mono ?_); rintro e w6 ⟨rfl, rfl⟩)
        | ((with_reducible refine wpList_loadG (o := ⟨some 18, _, _, _, _, _⟩) rfl 28 (.tmp 5) rfl _ ?_ _ (HLD.out _ HR.out) ?_); rfl)
        | (go_at_call 11; (with_reducible refine C11.out.mono ?_); rintro e w7 ⟨rfl, hb7⟩; obtain ⟨x1, x2, x3⟩ := FZ.out _ hb7)
        | ((with_reducible refine wpList_buildV (o := ⟨some 22, _, _, _, _, _⟩) rfl 28 #[] rfl #[] ?_ _ (HBU.out _) ?_); rfl)
        | ((with_reducible refine wpList_storeM (o := ⟨none, _, _, _, _, _⟩) rfl (.tmp 2) (.tmp 22) rfl w.heap.size (encM zeroM) HZ.out HZO.out ?_ ?_ x1 ?_); rfl; rfl))
      refine bodyPost_ret (results_cs (p := 2) (t := 3) (ty := 28) rfl _ _ w.heap.size 0 (encM zeroM) _ _ rfl rfl x2 Tryz.underlying28 rfl (by rw [HZ.out]; exact size28m)) rfl ?_
      exact ⟨zeroM, by simp, by simpa using zero_is _, x3⟩
    | true =>
      go_wp2_with (first
        | (go_at_call 42; (with_reducible refine C42.out.mono ?_); rintro e w6 ⟨rfl, rfl⟩)
        | ((with_reducible refine wpList_loadG (o := ⟨some 18, _, _, _, _, _⟩) rfl 28 (.tmp 5) rfl _ ?_ _ (HLD.out _ HR.out) ?_); rfl)
        | (go_at_call 11; (with_reducible refine C11.out.mono ?_); rintro e w7 ⟨rfl, hb7⟩; obtain ⟨x1, x2, x3, x4⟩ := FM.out _ hb7)
        | ((with_reducible refine wpList_loadV (op := ⟨some 23, _, _, _, _, _⟩) rfl 28 (.tmp 5) rfl _ ?_ _ (HLD.out _ hb7) ?_); rfl)
        | ((with_reducible refine wpList_storeM (o := ⟨none, _, _, _, _, _⟩) rfl (.tmp 2) (.tmp 23) rfl w.heap.size (encM m) ML.out MO.out ?_ ?_ x1 ?_); rfl; rfl))
      refine bodyPost_ret (results_cs (p := 2) (t := 3) (ty := 28) rfl _ _ w.heap.size 0 (encM m) _ _ rfl rfl x2 Tryz.underlying28 rfl (by rw [ML.out]; exact size28m)) rfl ?_
      exact ⟨m, by simp, by simpa using x4, x3⟩
  · have bd := bneT h0
    obtain ⟨x1, x2, x3⟩ := FZ.out _ HR.out
    go_wp2_with (first
      | (go_at_call 42; (with_reducible refine C42.out.mono ?_); rintro e w6 ⟨rfl, rfl⟩)
      | ((with_reducible refine wpList_buildV (o := ⟨some 22, _, _, _, _, _⟩) rfl 28 #[] rfl #[] ?_ _ (HBU.out _) ?_); rfl)
      | ((with_reducible refine wpList_storeM (o := ⟨none, _, _, _, _, _⟩) rfl (.tmp 2) (.tmp 22) rfl w.heap.size (encM zeroM) HZ.out HZO.out ?_ ?_ x1 ?_); rfl; rfl))
    refine bodyPost_ret (results_cs (p := 2) (t := 3) (ty := 28) rfl _ _ w.heap.size 0 (encM zeroM) _ _ rfl rfl x2 Tryz.underlying28 rfl (by rw [HZ.out]; exact size28m)) rfl ?_
    exact ⟨zeroM, by first | rfl | simp [h0], by first | exact zero_is _ | simpa [h0] using zero_is _, x3⟩
theorem ros_tgts (k : Nat) (s : St) : ∀ x ∈ nxR k s, x.tgt.length ≤ 1024 := by
  intro x hx
  unfold nxR at hx
  split at hx
  · unfold rosL at hx
    split at hx
    · exact rosN_tgt _ _ x hx
    · cases hx
  · cases hx
theorem nxL_len (k : Nat) (s : St) : (nxL k s).length ≤ 256 := by
  unfold nxL
  split
  · unfold rlL
    split
    · rw [nxI_len]
      have := numV1_lt s
      omega
    · simp
  · simp
theorem decode_any (A : Option Addr) (c : Nat) (xs : List UInt8) (w : World) (hA : BAt w w.heap.size A xs) (hl : xs.length ≤ 100000) : Calls Tryz.prog 19 #[.slice A xs.length c] w (DecIs w xs) := by
  have K := decK (c := c) hA hl
  unfold DecIs decC
  by_cases hv : numV ⟨xs, false⟩ 1 = 1
  · rw [hv] at K
    have hok : (dOk xs = true) = (doneE (dEnd xs) = 0 ∧ dGd xs = true) := by
      unfold dOk
      rw [hv]
      simp
    have h := decode_n w A xs.length c _ _ K (doneE (dEnd xs)) (dGd xs) ⟨(nxV (dS1 xs) : Int), nxT (dS1 xs), nxF (dS1 xs), nxY (dKy xs) (dS1 xs), dL xs, dR xs⟩ (Lib.hid (fun W g B d => (mnext_any d.rd d.hB).mono (by
      rintro e w' ⟨vc, vr, rfl, o1, o2, f1, f2, hc, hr, hrd, hg⟩
      have hv256 : nxV (dS1 xs) < 256 := numV_lt _ 1
      have hyl : (nxY (dKy xs) (dS1 xs)).length = 20 := by
        unfold nxY
        split
        · exact pubV_length _
        · simp [zero20]
      exact ⟨⟨(nxV (dS1 xs) : Int), nxT (dS1 xs), nxF (dS1 xs), nxY (dKy xs) (dS1 xs), vc, vr, by omega, numV_lt _ 4, pubV_length _, hyl, o1, o2⟩, rfl, ⟨rfl, rfl, rfl, rfl, hc, hr⟩, f1, f2, dEnd xs, d.read hrd hg, rfl⟩))) (Lib.hid (fun W m hm => by
      obtain ⟨h1, _, _, h4, h5, h6⟩ := hm
      have := mgood_any m _ _ W h5 h6 (by have := nxL_len (nxV (dS1 xs)) (nxS4 (dKy xs) (dS1 xs)); show (dL xs).length ≤ _; unfold dL; omega) (fun x hx => by have := ros_tgts _ _ x hx; omega)
      rw [h1, h4] at this
      exact this))
    simp only [hok]
    exact h
  · have hok : dOk xs = false := by unfold dOk; rw [decide_eq_false hv, Bool.false_and]
    rw [hok]
    refine (decode_v w A xs.length c _ _ _ K hv).mono ?_
    rintro e w' ⟨rfl, hb⟩
    exact ⟨zeroM, rfl, zero_is _, hb⟩
end Go.Proofs.YtehgpnnfjgmiiaaGreat
end
section
namespace Go.Proofs.YtehgpnnfjgmiiaaGreat
set_option maxRecDepth 100000
open Go.RowKit
set_option linter.unusedVariables false

section
variable {w w' : World} {h : Nat} {A : Option Addr} {c : Nat} {xs : List UInt8} {k : Nat} {bad : Bool}
end
end Go.Proofs.YtehgpnnfjgmiiaaGreat
end
section
namespace Go.Proofs.YtehgpnnfjgmiiaaGreat
open Go.Shelf Go.RowKit Go.Lib Go.Sort Go.Great
set_option maxRecDepth 100000
set_option maxHeartbeats 1000000
def GlRel (W0 : World) (L : List Con) (i : Value) (wr : World) : Prop := ∃ j : Nat, j ≤ L.length ∧ i = .int .i64 (j : Int) ∧ (∀ q (hq : q < L.length), q < j → ctGood L[q].1 = true ∧ idxP (isC (idC L[q])) L = (q : Int)) ∧ Below W0.heap.size W0 wr
end Go.Proofs.YtehgpnnfjgmiiaaGreat
end
section
namespace Go.Proofs.YtehgpnnfjgmiiaaGreat
open Go.Shelf Go.RowKit Go.Lib Go.Sort Go.Great
set_option maxRecDepth 100000
set_option maxHeartbeats 1000000
theorem own_belC {base e size n : Nat} {v : Value} {xs : List Value} {w w' : World} (h : w.ownsRow base e size v n xs) (hb : Below w.heap.size w w') : w'.ownsRow base e size v n xs :=
  h.kept (grown_of_bel hb none) (by cases v.ownBlock <;> simp)
end Go.Proofs.YtehgpnnfjgmiiaaGreat
end
section
namespace Go.Proofs.YtehgpnnfjgmiiaaGreat
open Go.Shelf Go.RowKit Go.Lib Go.Sort Go.Great
set_option maxRecDepth 100000
set_option maxHeartbeats 1000000
end Go.Proofs.YtehgpnnfjgmiiaaGreat
end
section
namespace Go.Proofs.YtehgpnnfjgmiiaaGreat
open Go.Shelf Go.RowKit Go.Lib Go.Sort Go.Great
set_option maxRecDepth 100000
set_option maxHeartbeats 1000000
/-- Bytes that are a contact; the contact, or the zero one; the error. -/
def rdOk (xs : List UInt8) : Prop := xs.length = 26 ∧ getN ((xs.drop 20).take 4) ≠ 0 ∧ getN (((xs.drop 20).drop 4).take 2) ≠ 0
instance (xs : List UInt8) : Decidable (rdOk xs) := by unfold rdOk; exact inferInstance
def rdK (xs : List UInt8) : Con := if h : rdOk xs then ⟨(xs.take 20, getN ((xs.drop 20).take 4), getN (((xs.drop 20).drop 4).take 2)), ⟨by rw [List.length_take]; have := h.1; omega, getN_lt' _ 4 (by rw [List.length_take]; omega), getN_lt' _ 2 (by rw [List.length_take]; omega)⟩⟩ else default
def rdE (xs : List UInt8) : Int := if rdOk xs then 0 else 10
theorem nx_take (xs : List UInt8) (h : 20 ≤ xs.length) : takeV ⟨xs, false⟩ 20 = xs.take 20 ∧ takeS ⟨xs, false⟩ 20 = ⟨xs.drop 20, false⟩ := by
  have hk : takeOk ⟨xs, false⟩ 20 := ⟨rfl, by omega, by show (20 : Int) ≤ (xs.length : Int); omega⟩
  unfold takeV takeS
  rw [if_pos hk, if_pos hk]
  exact ⟨rfl, rfl⟩
theorem nx_take6 (xs : List UInt8) (h : 6 ≤ xs.length) : takeV ⟨xs, false⟩ 6 = xs.take 6 ∧ takeS ⟨xs, false⟩ 6 = ⟨xs.drop 6, false⟩ := by
  have hk : takeOk ⟨xs, false⟩ 6 := ⟨rfl, by omega, by show (6 : Int) ≤ (xs.length : Int); omega⟩
  unfold takeV takeS
  rw [if_pos hk, if_pos hk]
  exact ⟨rfl, rfl⟩
theorem nx_long (xs : List UInt8) (h : 26 ≤ xs.length) : (takeV ⟨xs, false⟩ 20 = xs.take 20 ∧ takeV (takeS ⟨xs, false⟩ 20) 6 = (xs.drop 20).take 6) ∧ nxS ⟨xs, false⟩ = ⟨xs.drop 26, false⟩ := by
  obtain ⟨a, b⟩ := nx_take xs (by omega)
  obtain ⟨c, d⟩ := nx_take6 (xs.drop 20) (by rw [List.length_drop]; omega)
  unfold nxS
  rw [a, b, c, d, List.drop_drop]
  exact ⟨⟨rfl, rfl⟩, rfl⟩
theorem take26 (xs : List UInt8) : (xs.take 26).drop 20 = (xs.drop 20).take 6 ∧ (xs.take 26).take 20 = xs.take 20 := by
  rw [List.drop_take, List.take_take]
  exact ⟨rfl, rfl⟩
theorem nx_ok (xs : List UInt8) (h : 26 ≤ xs.length) : nxOk ⟨xs, false⟩ ↔ rdOk (xs.take 26) := by
  obtain ⟨⟨a, b⟩, _⟩ := nx_long xs h
  have h1 : (xs.take 26).length = 26 := by rw [List.length_take]; omega
  have h2 : (xs.take 20).length = 20 := by rw [List.length_take]; omega
  have h3 : ((xs.drop 20).take 6).length = 6 := by rw [List.length_take, List.length_drop]; omega
  unfold nxOk rdOk
  rw [a, b, (take26 xs).1]
  constructor
  · rintro ⟨_, _, c, d⟩
    exact ⟨h1, c, d⟩
  · rintro ⟨_, c, d⟩
    exact ⟨h2, h3, c, d⟩
theorem nx_con (xs : List UInt8) (h : 26 ≤ xs.length) : nxC ⟨xs, false⟩ = rdK (xs.take 26) := by
  unfold nxC rdK
  by_cases hk : nxOk ⟨xs, false⟩
  · rw [dif_pos hk, dif_pos ((nx_ok xs h).1 hk)]
    obtain ⟨⟨a, b⟩, _⟩ := nx_long xs h
    refine Subtype.ext ?_
    simp only
    rw [a, b, (take26 xs).1, (take26 xs).2]
  · rw [dif_neg hk, dif_neg (fun h2 => hk ((nx_ok xs h).2 h2))]
section
variable {w W W' : World} {g : Nat} {s : St}
end
end Go.Proofs.YtehgpnnfjgmiiaaGreat
end
section
namespace Go.Proofs.YtehgpnnfjgmiiaaGreat
set_option maxRecDepth 100000
open Go.Shelf Go.RowKit Go.Lib Go.Sort Go.Great
set_option maxRecDepth 1000000
set_option maxHeartbeats 2000000
/-- While Read of the reference runs. -/
structure RWx (w : World) (cq : List Value) (W : World) : Prop where
  hr : W.heap[w.heap.size]? = some (.cells (encC default).toArray 90 (0, 0))
  hq : W.heap[w.heap.size + 1]? = some (.cells cq.toArray 90 (0, 0))
  be : Below w.heap.size w W
section
variable {w W W' : World} {cq cq' : List Value}
theorem RWx.lt (r : RWx w cq W) : w.heap.size < W.heap.size ∧ w.heap.size + 1 < W.heap.size := ⟨(Array.getElem?_eq_some_iff.1 r.hr).1, (Array.getElem?_eq_some_iff.1 r.hq).1⟩
theorem RWx.bel (r : RWx w cq W) (hb : Below W.heap.size W W') : RWx w cq W' := ⟨(hb.block _ r.lt.1).trans r.hr, (hb.block _ r.lt.2).trans r.hq, r.be.trans (hb.mono r.be.size)⟩
theorem RWx.put (r : RWx w cq W) (hq : W'.heap[w.heap.size + 1]? = some (.cells cq'.toArray 90 (0, 0))) (hg : W.grownBy W' (some (w.heap.size + 1))) : RWx w cq' W' :=
  ⟨(hg.block _ r.lt.1 (by intro e; injection e with e; omega)).trans r.hr, hq, below_ownB r.be r.be.size hg (fun k hk => by injection hk with hk; omega)⟩
theorem RWx.fin (r : RWx w cq W) (c : Con) : W.there w.heap.size 0 22 ∧ (W.setCells w.heap.size 0 (encC c)).rangeAt w.heap.size 0 (encC c) ∧ Below w.heap.size w (W.setCells w.heap.size 0 (encC c)) := by
  have ht : W.there w.heap.size 0 22 := by
    have := row_there r.hr
    rw [encC_length] at this
    exact this
  exact ⟨ht, World.rangeAt_setCells_same W w.heap.size 0 (encC c) (by rw [encC_length]; exact ht), below_cellsE (Nat.le_refl _) _ _ _ r.be⟩
end
end Go.Proofs.YtehgpnnfjgmiiaaGreat
end
section
namespace Go.Proofs.YtehgpnnfjgmiiaaGreat
open Go.Shelf Go.RowKit Go.Lib Go.Sort Go.Great
set_option maxRecDepth 100000
set_option maxHeartbeats 1000000
theorem rdK_ctB {c : Con} (h : rdOk (ctB c.1)) : rdK (ctB c.1) = c := by
  have hid := c.2.id
  have e1 : (ctB c.1).take 20 = c.1.1 := by unfold ctB; rw [List.take_append_of_le_length (by omega), List.take_of_length_le (by omega)]
  have e2 : (ctB c.1).drop 20 = adB c.1.2.1 c.1.2.2 := by unfold ctB; rw [List.drop_append_of_le_length (by omega), List.drop_of_length_le (by omega), List.nil_append]
  unfold rdK
  rw [dif_pos h]
  refine Subtype.ext ?_
  simp only
  rw [e1, e2, adB_take _ _ c.2.hh, adB_drop _ _ c.2.hp]
end Go.Proofs.YtehgpnnfjgmiiaaGreat
end
section
namespace Go.Proofs.YtehgpnnfjgmiiaaGreat
set_option maxRecDepth 100000
theorem rdOk_ctB {c : Con} (hg : ctGood c.1 = true) : rdOk (ctB c.1) := by
  have h := rdC_ctB c.2 hg
  unfold rdC at h
  split at h
  · rename_i hk; exact hk
  · cases h
theorem flatC_cons (c : Con) (L : List Con) : flatC (ctsC (c :: L)) = ctB c.1 ++ flatC (ctsC L) := by
  unfold ctsC flatC
  rw [List.map_cons, List.flatMap_cons]
/-- What is put is read. -/
theorem nxI_flat (rest : List UInt8) : ∀ (n : Nat) (L : List Con), (∀ c ∈ L, ctGood c.1 = true) → n ≤ L.length → nxI n ⟨flatC (ctsC L) ++ rest, false⟩ = (L.take n, ⟨flatC (ctsC (L.drop n)) ++ rest, false⟩)
  | 0, L, _, _ => rfl
  | n + 1, L, hg, hn => by
    rw [nxI, nxI_flat rest n L hg (by omega)]
    have hd : L.drop n = L[n] :: L.drop (n + 1) := List.drop_eq_getElem_cons (by omega)
    have hgn := hg L[n] (List.getElem_mem _)
    have hl26 : (ctB L[n].1).length = 26 := ctB_length L[n].2.id
    have e1 : flatC (ctsC (L.drop n)) ++ rest = ctB L[n].1 ++ (flatC (ctsC (L.drop (n + 1))) ++ rest) := by rw [hd, flatC_cons, List.append_assoc]
    have hl : 26 ≤ (flatC (ctsC (L.drop n)) ++ rest).length := by rw [e1, List.length_append]; omega
    simp only
    rw [nx_con _ hl]
    have e2 : nxS ⟨flatC (ctsC (L.drop n)) ++ rest, false⟩ = ⟨flatC (ctsC (L.drop (n + 1))) ++ rest, false⟩ := by
      rw [(nx_long _ hl).2, e1, List.drop_append_of_le_length (by omega), List.drop_of_length_le (by omega), List.nil_append]
    have e3 : (ctB L[n].1 ++ (flatC (ctsC (L.drop (n + 1))) ++ rest)).take 26 = ctB L[n].1 := by rw [List.take_append_of_le_length (by omega), List.take_of_length_le (by omega)]
    rw [e2, e1, e3, rdK_ctB (rdOk_ctB hgn)]
    rw [List.take_succ_eq_append_getElem (by omega)]
theorem num1_cons (b : UInt8) (ys : List UInt8) : numV ⟨b :: ys, false⟩ 1 = b.toNat ∧ numS ⟨b :: ys, false⟩ 1 = ⟨ys, false⟩ := by
  have hk : numOk ⟨b :: ys, false⟩ 1 := ⟨rfl, by omega, by omega, by show (1 : Int) ≤ ((b :: ys).length : Int); simp only [List.length_cons]; omega⟩
  unfold numV numS
  rw [if_pos hk, if_pos hk]
  refine ⟨?_, rfl⟩
  show getN ([b]) = _
  rw [getN_cons]
  simp [getN]
/-- A good list is read from its bytes. -/
theorem rl_list {L : List Con} (hg : goodC (ctsC L) = true) (rest : List UInt8) : rlL ⟨listC (ctsC L) ++ rest, false⟩ = L ∧ rlS ⟨listC (ctsC L) ++ rest, false⟩ = ⟨rest, false⟩ := by
  have hl := goodC_len hg
  have hl' : L.length ≤ 64 := by unfold ctsC at hl; simpa using hl
  have hall : ∀ c ∈ L, ctGood c.1 = true := fun c hc => goodC_all hg _ (List.mem_map.2 ⟨c, hc, rfl⟩)
  have e : listC (ctsC L) ++ rest = UInt8.ofNat L.length :: (flatC (ctsC L) ++ rest) := by
    unfold listC
    rw [show (ctsC L).length = L.length by unfold ctsC; simp]
    rfl
  obtain ⟨n1, n2⟩ := num1_cons (UInt8.ofNat L.length) (flatC (ctsC L) ++ rest)
  have hn : (UInt8.ofNat L.length).toNat = L.length := by rw [UInt8.toNat_ofNat']; omega
  have hI := nxI_flat rest L.length L hall (Nat.le_refl _)
  rw [List.take_length, List.drop_length] at hI
  have hr : rlG ⟨listC (ctsC L) ++ rest, false⟩ = true := by
    unfold rlG
    rw [e, n1, n2, hn, hI]
    exact hg
  unfold rlL rlS
  rw [hr, if_pos rfl, if_pos rfl, e, n1, n2, hn, hI]
  exact ⟨rfl, rfl⟩
end Go.Proofs.YtehgpnnfjgmiiaaGreat
end
