/- While the reference reads an instance: the worlds; what is read is good only of a reader that is not bad. Conditions: at most 900,000 bytes. Read of the reference of layer inst. Conditions: at most 900,000 bytes. roster.Read of the reference. No condition beyond a good reader. Instances are read back from their bytes, and what is read has just these: plain. No condition. A good roster is read from its bytes, and what is read has them: plain. No condition. -/
import Derived.Test.YtehgpnnfjgmiiaaGreatYOja
import Derived.Test.YtehgpnnfjgmiiaaGreatYOcb
import Derived.Test.YtehgpnnfjgmiiaaGreatYOga
import Derived.Test.YtehgpnnfjgmiiaaGreatYRIiq
import Derived.Test.YtehgpnnfjgmiiaaGreatProg
import Derived.RegionTactic
import Derived.RegionCalls
import Derived.WalkKit
import Derived.Deep.RegionHeld3
import Derived.Deep.QuietTactic
import Derived.BigQuiet
import Derived.LoopTactic
import Derived.Laws.BitsAllLaws
import Derived.Deep.MidRow
import Derived.Deep.DeepCutAuto
import Derived.Great.BuildSlice
import Derived.Lib.SlBytesConst
import Derived.Stop.BytesEq
import Derived.Shelf.Abstract
import Derived.Test.YtehgpnnfjgmiiaaGreatYRERefc
import Derived.Test.YtehgpnnfjgmiiaaGreatYREOcta
import Derived.Deep.AppendSrc
import Derived.Laws.BytesString
import Derived.Laws.CopyOwn
import Derived.Deep.AppendLies
import Derived.Deep.Draws
import Derived.WalkSpells
import Derived.Test.YtehgpnnfjgmiiaaGreatRows
import Derived.WalkLawsBesides
import Derived.Lib.Hide
import Derived.Outline
import Derived.Laws.BitsLemmas
import Derived.Laws.Bits64
import Derived.Sort.Grow
import Derived.Lib.ConvBytes
import Derived.StillTailTactics
import Derived.Lib.OwnBridge
import Derived.Lib.SliceRun
import Derived.Below
import Derived.ProofKit
import Derived.OpenShut
import Derived.ChangeOld
import Derived.Laws.Tables
import Derived.Deep.LoopGhost
import Derived.Shelf.LaysM
import Derived.RangeFuncFrom
import Derived.RangeFuncLeaves
import Derived.RangeFuncNested
import Derived.RangeFuncBound
import Derived.RangeFuncCalls
import Derived.OwnWalkIn
import Derived.TacticsInMore
import Derived.LoopNIn
import Derived.LoopIn
import Derived.Lib.Join
import Derived.Shelf.SlGeneric
import Derived.Shelf.Strings.Search1
import Derived.Shelf.Strings.Search2
import Derived.Ground.GgzProg
import Derived.Deep.Cut
import Derived.Maps.AppendAt
import Derived.RangeFuncBox
import Derived.Lib.AppendStr
import Derived.Laws.ResultCell
import Derived.Shelf.SlicesE.Clone
import Derived.Lib.Bytealg
import Derived.Test.YtehgpnnfjgmiiaaGreatYRIin
section
namespace Go.Proofs.YtehgpnnfjgmiiaaGreat
set_option maxRecDepth 100000
open Go.Shelf Go.RowKit Go.Lib Go.Great
set_option maxRecDepth 1000000
set_option maxHeartbeats 2000000
/-- While Read of the reference runs. -/
structure RXI (w : World) (h : Nat) (A : Option Addr) (c : Nat) (xs : List UInt8) (B r q : Nat) (s : St) (cq : List Value) (W : World) : Prop where
  rd : RRB W h A c xs s B
  hr : W.heap[r]? = some (.cells (encI zeroI).toArray 79 (0, 0))
  hq : W.heap[q]? = some (.cells cq.toArray 79 (0, 0))
  gr : w.grownBy W (some h)
  hg : h < w.heap.size
  hB : B ≤ w.heap.size
  rw : w.heap.size ≤ r
  qw : w.heap.size ≤ q
  rq : r ≠ q
section
variable {w W W' : World} {h c B r q : Nat} {A : Option Addr} {xs : List UInt8} {s s' : St} {cq cq' : List Value}
theorem RXI.lt (n : RXI w h A c xs B r q s cq W) : r < W.heap.size ∧ q < W.heap.size := ⟨(Array.getElem?_eq_some_iff.1 n.hr).1, (Array.getElem?_eq_some_iff.1 n.hq).1⟩
theorem RXI.bel (n : RXI w h A c xs B r q s cq W) (hb : Below W.heap.size W W') : RXI w h A c xs B r q s cq W' :=
  ⟨n.rd.bel hb, (hb.block r n.lt.1).trans n.hr, (hb.block q n.lt.2).trans n.hq, grownBy_trans n.gr (grown_of_bel hb _), n.hg, n.hB, n.rw, n.qw, n.rq⟩
theorem RXI.read (n : RXI w h A c xs B r q s cq W) (hs : RRS W' h A c xs s') (hg : W.grownBy W' (some h)) : RXI w h A c xs B r q s' cq W' :=
  ⟨n.rd.read hs hg, (hg.block r n.lt.1 (by intro e; injection e with e; have := n.hg; have := n.rw; omega)).trans n.hr, (hg.block q n.lt.2 (by intro e; injection e with e; have := n.hg; have := n.qw; omega)).trans n.hq, grownBy_trans n.gr hg, n.hg, n.hB, n.rw, n.qw, n.rq⟩
theorem RXI.put (n : RXI w h A c xs B r q s cq W) (hq : W'.heap[q]? = some (.cells cq'.toArray 79 (0, 0))) (hg : W.grownBy W' (some q)) : RXI w h A c xs B r q s cq' W' where
  rd := n.rd.keep (hg.block h n.rd.lt (by intro e; injection e with e; have := n.hg; have := n.qw; omega)) hg.size (fun i hi => hg.block i (by have := n.rd.lt; have := n.gr.size; have := n.hB; omega) (by intro e; injection e with e; have := n.hB; have := n.qw; omega))
  hr := (hg.block r n.lt.1 (by intro e; injection e with e; have := n.rq; omega)).trans n.hr
  hq := hq
  gr := ⟨hg.os.trans n.gr.os, hg.tape.trans n.gr.tape, hg.output.trans n.gr.output, Nat.le_trans n.gr.size hg.size, fun i hi hne => (hg.block i (Nat.lt_of_lt_of_le hi n.gr.size) (by intro e; injection e with e; have := n.qw; omega)).trans (n.gr.block i hi hne)⟩
  hg := n.hg
  hB := n.hB
  rw := n.rw
  qw := n.qw
  rq := n.rq
theorem RXI.set (n : RXI w h A c xs B r q s cq W) {j : Nat} {v : Value} (hq : (W.setCell ⟨q, j, none⟩ v).heap[q]? = some (.cells cq'.toArray 79 (0, 0))) : RXI w h A c xs B r q s cq' (W.setCell ⟨q, j, none⟩ v) :=
  n.put hq (grownBy_setCell (World.grownBy.refl W _) _ _)
theorem RXI.cell (n : RXI w h A c xs B r q s cq W) {j : Nat} {v : Value} (hv : cq[j]? = some v) : W.cell? ⟨q, j, none⟩ = some v ∧ W.frozen? ⟨q, j, none⟩ = false := by
  refine ⟨?_, frozen_of_row _ _ _ _ _ n.hq⟩
  rw [cell_of_row _ _ j _ 79 (0, 0) n.hq, List.getElem?_toArray]
  exact hv
theorem RXI.take (n : RXI w h A c xs B r q s cq W) (k : Int) (hk : k ≤ 9223372036854775807) : Calls Tryz.prog 44 #[.pointer (some ⟨h, 0, none⟩), .int .i64 k] W fun e W' => ∃ A' c', e = .returned (.slice A' (takeV s k).length c') ∧ RXI w h A c xs B r q (takeS s k) cq W' ∧ BAt W' W'.heap.size A' (takeV s k) := by
  refine (rrtake_s n.rd.rs k hk).mono ?_
  rintro e W' ⟨v, rfl, ho, hr, hg⟩
  obtain ⟨A', c', rfl, hA, _⟩ := own_bat ho
  exact ⟨A', c', rfl, n.read hr hg, hA⟩
theorem RXI.num (n : RXI w h A c xs B r q s cq W) (k : Int) (hk : k ≤ 9223372036854775807) {j : Nat} {v : Value} (hv : cq[j]? = some v) : Calls Tryz.prog 43 #[.pointer (some ⟨h, 0, none⟩), .int .i64 k] W fun e W' => e = .returned (.int .u64 (numV s k : Int)) ∧ RXI w h A c xs B r q (numS s k) cq W' ∧ W'.cell? ⟨q, j, none⟩ = some v ∧ W'.frozen? ⟨q, j, none⟩ = false := by
  refine (rrnum_s n.rd.rs k hk).mono ?_
  rintro e W' ⟨rfl, hr, hg⟩
  have n2 := n.read hr hg
  exact ⟨rfl, n2, n2.cell hv⟩
theorem rrtext_s (r : RRS W h A c xs s) (n : Int) (hn : n ≤ 9223372036854775807) : Calls Tryz.prog 96 #[.pointer (some ⟨h, 0, none⟩), .int .i64 n] W (RTxtP W h A c xs s n) := by
  obtain ⟨k, hr, hy⟩ := r
  have e1 := St.eta s hy rfl
  have := rrtext_any hr n hn
  rwa [← e1] at this
theorem RXI.txt (n : RXI w h A c xs B r q s cq W) (k : Int) (hk : k ≤ 9223372036854775807) {j : Nat} {v : Value} (hv : cq[j]? = some v) : Calls Tryz.prog 96 #[.pointer (some ⟨h, 0, none⟩), .int .i64 k] W fun e W' => e = .returned (.string (bstr (txtV s k))) ∧ RXI w h A c xs B r q (txtS s k) cq W' ∧ W'.cell? ⟨q, j, none⟩ = some v ∧ W'.frozen? ⟨q, j, none⟩ = false := by
  refine (rrtext_s n.rd.rs k hk).mono ?_
  rintro e W' ⟨rfl, hr, hg⟩
  have n2 := n.read hr hg
  exact ⟨rfl, n2, n2.cell hv⟩
theorem RXI.bad (n : RXI w h A c xs B r q s cq W) : W.cell? ⟨h, 2, none⟩ = some (.bool s.bad) := by
  obtain ⟨k, h1, _⟩ := n.rd
  have := cell_of_row W h 2 _ 72 (0, 0) h1
  simpa using this
/-- The told block takes the instance. -/
theorem RXI.fin (n : RXI w h A c xs B r q s cq W) (i : Ins) : W.there r 0 28 ∧ (W.setCells r 0 (encI i)).rangeAt r 0 (encI i) ∧ RRB (W.setCells r 0 (encI i)) h A c xs s B ∧ w.grownBy (W.setCells r 0 (encI i)) (some h) := by
  have ht : W.there r 0 28 := by
    have := row_there n.hr
    rw [encI_length] at this
    exact this
  have hgc : W.grownBy (W.setCells r 0 (encI i)) (some r) := grown_cells (encI i) 0 W (World.grownBy.refl W _)
  refine ⟨ht, World.rangeAt_setCells_same W r 0 (encI i) (by rw [encI_length]; exact ht), ?_, ?_⟩
  · exact n.rd.keep (hgc.block h n.rd.lt (by intro e; injection e with e; have := n.hg; have := n.rw; omega)) hgc.size (fun i hi => hgc.block i (by have := n.gr.size; have := n.hB; omega) (by intro e; injection e with e; have := n.hB; have := n.rw; omega))
  · exact ⟨hgc.os.trans n.gr.os, hgc.tape.trans n.gr.tape, hgc.output.trans n.gr.output, Nat.le_trans n.gr.size hgc.size, fun i hi hne => (hgc.block i (Nat.lt_of_lt_of_le hi n.gr.size) (by intro e; injection e with e; have := n.rw; omega)).trans (n.gr.block i hi hne)⟩
end
end Go.Proofs.YtehgpnnfjgmiiaaGreat
end
section
namespace Go.Proofs.YtehgpnnfjgmiiaaGreat
set_option maxRecDepth 100000
open Go.Shelf Go.RowKit Go.Lib Go.Great
set_option maxRecDepth 1000000
set_option maxHeartbeats 4000000
def RRdIs (w : World) (h : Nat) (A : Option Addr) (c : Nat) (xs : List UInt8) (B : Nat) (s : St) (e : Ending) (w' : World) : Prop := e = .returned (.tuple #[.agg (encI (readI s)).toArray, .bool (goodI (nextI s))]) ∧ RRB w' h A c xs (readS s) B ∧ w.grownBy w' (some h)
end Go.Proofs.YtehgpnnfjgmiiaaGreat
end
section
namespace Go.Proofs.YtehgpnnfjgmiiaaGreat
open Go.Shelf Go.RowKit Go.Lib Go.Sort Go.Great
set_option maxRecDepth 100000
set_option maxHeartbeats 1000000
theorem RRB.none_ {w : World} {h c B : Nat} {A : Option Addr} {xs : List UInt8} {s : St} (r : RRB w h A c xs s B) (hb : s.bad = true) : s = ⟨[], true⟩ := by
  obtain ⟨k, _, _, _, _, _, h6, h7, _⟩ := r
  rw [h6 hb, List.drop_length] at h7
  cases s
  simp at hb h7
  subst hb h7
  rfl
def RosRIs (w : World) (h : Nat) (A : Option Addr) (c : Nat) (xs : List UInt8) (B : Nat) (s : St) (e : Ending) (w' : World) : Prop :=
  ∃ A' c', e = .returned (.slice A' (rosL s).length c') ∧ IAt w' w'.heap.size A' (rosL s) ∧ RRB w' h A c xs (rosS s) B ∧ w.grownBy w' (some h)
end Go.Proofs.YtehgpnnfjgmiiaaGreat
end
section
namespace Go.Proofs.YtehgpnnfjgmiiaaGreat
open Go.Shelf Go.RowKit Go.Lib Go.Great
set_option maxRecDepth 100000
set_option maxHeartbeats 1000000
theorem putB_succ (N k : Nat) : putB N (k + 1) = putB (N / 256) k ++ [UInt8.ofNat N] := by
  unfold putB
  rw [List.range_succ, List.map_append]
  congr 1
  · apply List.map_congr_left
    intro i hi
    have hi : i < k := by simpa using hi
    congr 1
    rw [Nat.div_div_eq_div_mul, show (256 : Nat) = 2 ^ 8 from rfl, ← Nat.pow_add]
    congr 2
    omega
  · simp

theorem getN_putB (k : Nat) : ∀ N : Nat, getN (putB N k) = N % 256 ^ k := by
  induction k with
  | zero => intro N; simp [putB, getN, Nat.mod_one]
  | succ k ih =>
    intro N
    rw [putB_succ, getN_snoc, ih]
    have h1 : (UInt8.ofNat N).toNat = N % 256 := by simp
    rw [h1, Nat.pow_succ, Nat.mul_comm (256 ^ k) 256, Nat.mod_mul]
    omega

/-- A number's part is read again. -/
theorem num_back (N k : Nat) (ys : List UInt8) (h1 : 1 ≤ k) (h8 : k ≤ 8) : numV ⟨putB N k ++ ys, false⟩ (k : Int) = N % 256 ^ k ∧ numS ⟨putB N k ++ ys, false⟩ (k : Int) = ⟨ys, false⟩ := by
  have hl := putB_length N k
  have hok : numOk ⟨putB N k ++ ys, false⟩ (k : Int) := ⟨rfl, by omega, by omega, by simp only [List.length_append]; omega⟩
  simp only [numV, numS, if_pos hok, Int.toNat_natCast]
  rw [List.take_left' hl, List.drop_left' hl, getN_putB]
  exact ⟨rfl, rfl⟩
/-- A text's part is read again. -/
theorem txt_back (t ys : List UInt8) (h : t.length ≤ 1024) : txtV ⟨(putB t.length 2 ++ t) ++ ys, false⟩ 1024 = t ∧ txtS ⟨(putB t.length 2 ++ t) ++ ys, false⟩ 1024 = ⟨ys, false⟩ := by
  have hl := putB_length t.length 2
  have e1 : ((putB t.length 2 ++ t) ++ ys).take 2 = putB t.length 2 := by rw [List.append_assoc, List.take_left' hl]
  have e2 : ((putB t.length 2 ++ t) ++ ys).drop 2 = t ++ ys := by rw [List.append_assoc, List.drop_left' hl]
  have e3 : getN (putB t.length 2) = t.length := by rw [getN_putB]; omega
  have hok : txtOk ⟨(putB t.length 2 ++ t) ++ ys, false⟩ 1024 := by
    refine ⟨rfl, by simp only [List.length_append]; omega, ?_, ?_, ?_⟩
    · simp only [e1, e3]; omega
    · simp only [e1, e3]; omega
    · simp only [e1, e3, List.length_append]; omega
  simp only [txtV, txtS, if_pos hok, e1, e2, e3]
  rw [List.take_left' rfl, List.drop_left' rfl]
  exact ⟨rfl, rfl⟩

/-- What was read is put again: as long as the reader is not bad, what was put and what is left are the bytes. -/
def Back (b o : List UInt8) (s : St) : Prop := s.bad = false → b = o ++ s.ys
theorem take_back (p ys : List UInt8) (h : p.length = 20) : takeV ⟨p ++ ys, false⟩ 20 = p ∧ takeS ⟨p ++ ys, false⟩ 20 = ⟨ys, false⟩ := by
  have hok : takeOk ⟨p ++ ys, false⟩ 20 := ⟨rfl, by omega, by simp only [List.length_append]; omega⟩
  simp only [takeV, takeS, if_pos hok]
  rw [show (20 : Int).toNat = 20 from rfl, List.take_left' h, List.drop_left' h]
  exact ⟨rfl, rfl⟩
theorem gone_fields {i : Ins} (h : goodI i = true) (hg : i.gone = true) : i.pri = 0 ∧ i.wei = 0 ∧ i.port = 0 ∧ i.tgt = [] := by
  unfold goodI at h
  rw [hg, if_pos rfl, eq_bare i hg] at h
  simp only [Bool.and_eq_true, decide_eq_true_eq] at h
  exact ⟨h.2.1, h.2.2.1, h.2.2.2.1, h.2.2.2.2⟩
/-- A good instance is read from its bytes. -/
theorem next_back {i : Ins} (h : goodI i = true) (ys : List UInt8) : nextI ⟨bytesI i ++ ys, false⟩ = i ∧ nextS ⟨bytesI i ++ ys, false⟩ = ⟨ys, false⟩ := by
  obtain ⟨T, hT⟩ : ∃ T, T = if i.gone then ys else putB i.pri 2 ++ (putB i.wei 2 ++ (putB i.port 2 ++ ((putB i.tgt.length 2 ++ i.tgt) ++ ys))) := ⟨_, rfl⟩
  have e : bytesI i ++ ys = i.pub ++ (putB i.seq 8 ++ (putB i.born 8 ++ (putB i.life 4 ++ (putB (flagN i.gone) 1 ++ T)))) := by
    rw [hT]
    unfold bytesI headB
    cases i.gone
    · simp only [Bool.false_eq_true, if_false, List.append_assoc]
    · simp only [if_true, List.append_assoc]
  rw [e]
  have n8 := fun N (ys : List UInt8) => num_back N 8 ys (by omega) (by omega)
  have n4 := fun N (ys : List UInt8) => num_back N 4 ys (by omega) (by omega)
  have n1 := fun N (ys : List UInt8) => num_back N 1 ys (by omega) (by omega)
  have n2 := fun N (ys : List UInt8) => num_back N 2 ys (by omega) (by omega)
  simp only [show ((8 : Nat) : Int) = 8 from rfl, show ((4 : Nat) : Int) = 4 from rfl, show ((1 : Nat) : Int) = 1 from rfl, show ((2 : Nat) : Int) = 2 from rfl] at n8 n4 n1 n2
  have k0 := take_back i.pub (putB i.seq 8 ++ (putB i.born 8 ++ (putB i.life 4 ++ (putB (flagN i.gone) 1 ++ T)))) i.hp
  generalize hs : (⟨i.pub ++ (putB i.seq 8 ++ (putB i.born 8 ++ (putB i.life 4 ++ (putB (flagN i.gone) 1 ++ T)))), false⟩ : St) = s at *
  have e1 : s1 s = ⟨putB i.seq 8 ++ (putB i.born 8 ++ (putB i.life 4 ++ (putB (flagN i.gone) 1 ++ T))), false⟩ := k0.2
  have k1 := n8 i.seq (putB i.born 8 ++ (putB i.life 4 ++ (putB (flagN i.gone) 1 ++ T)))
  have e2 : s2 s = ⟨putB i.born 8 ++ (putB i.life 4 ++ (putB (flagN i.gone) 1 ++ T)), false⟩ := by unfold s2; rw [e1]; exact k1.2
  have k2 := n8 i.born (putB i.life 4 ++ (putB (flagN i.gone) 1 ++ T))
  have e3 : s3 s = ⟨putB i.life 4 ++ (putB (flagN i.gone) 1 ++ T), false⟩ := by unfold s3; rw [e2]; exact k2.2
  have k3 := n4 i.life (putB (flagN i.gone) 1 ++ T)
  have e4 : s4 s = ⟨putB (flagN i.gone) 1 ++ T, false⟩ := by unfold s4; rw [e3]; exact k3.2
  have k4 := n1 (flagN i.gone) T
  have e5 : s5 s = ⟨T, false⟩ := by unfold s5; rw [e4]; exact k4.2
  have v0 : pubV s = i.pub := by unfold pubV; rw [k0.1, if_pos i.hp]
  have v1 : numV (s1 s) 8 = i.seq := by rw [e1, k1.1]; exact Nat.mod_eq_of_lt i.hs
  have v2 : numV (s2 s) 8 = i.born := by rw [e2, k2.1]; exact Nat.mod_eq_of_lt i.hb
  have v3 : numV (s3 s) 4 = i.life := by rw [e3, k3.1]; exact Nat.mod_eq_of_lt i.hl
  have v4 : flagV s = flagN i.gone := by unfold flagV; rw [e4, k4.1]; exact Nat.mod_eq_of_lt (by unfold flagN; split <;> decide)
  clear k1 k2 k3 k4 k0
  cases hg : i.gone
  · rw [hg] at v4 hT
    simp only [Bool.false_eq_true, if_false] at hT
    have f0 : flagV s = 0 := v4
    have k5 := n2 i.pri (putB i.wei 2 ++ (putB i.port 2 ++ ((putB i.tgt.length 2 ++ i.tgt) ++ ys)))
    have e6 : s6 s = ⟨putB i.wei 2 ++ (putB i.port 2 ++ ((putB i.tgt.length 2 ++ i.tgt) ++ ys)), false⟩ := by unfold s6; rw [e5, hT]; exact k5.2
    have k6 := n2 i.wei (putB i.port 2 ++ ((putB i.tgt.length 2 ++ i.tgt) ++ ys))
    have e7 : s7 s = ⟨putB i.port 2 ++ ((putB i.tgt.length 2 ++ i.tgt) ++ ys), false⟩ := by unfold s7; rw [e6]; exact k6.2
    have k7 := n2 i.port ((putB i.tgt.length 2 ++ i.tgt) ++ ys)
    have e8 : s8 s = ⟨(putB i.tgt.length 2 ++ i.tgt) ++ ys, false⟩ := by unfold s8; rw [e7]; exact k7.2
    have k8 := txt_back i.tgt ys (by have := goodI_len h; omega)
    have e9 : s9 s = ⟨ys, false⟩ := by unfold s9; rw [e8]; exact k8.2
    refine ⟨?_, by unfold nextS; rw [if_pos f0]; exact e9⟩
    unfold nextI
    rw [if_pos f0]
    refine Ins.same v0 v1 v2 v3 hg.symm ?_ ?_ ?_ ?_
    · show numV (s5 s) 2 = i.pri
      rw [e5, hT, k5.1]; exact Nat.mod_eq_of_lt i.h1
    · show numV (s6 s) 2 = i.wei
      rw [e6, k6.1]; exact Nat.mod_eq_of_lt i.h2
    · show numV (s7 s) 2 = i.port
      rw [e7, k7.1]; exact Nat.mod_eq_of_lt i.h3
    · show txtV (s8 s) 1024 = i.tgt
      rw [e8]; exact k8.1
  · rw [hg] at v4 hT
    simp only [if_true] at hT
    have f1 : flagV s = 1 := v4
    obtain ⟨g1, g2, g3, g4⟩ := gone_fields h hg
    refine ⟨?_, by unfold nextS; rw [if_neg (by omega), e5, hT]⟩
    unfold nextI
    rw [if_neg (by omega)]
    refine Ins.same v0 v1 v2 v3 ?_ g1.symm g2.symm g3.symm g4.symm
    show decide (flagV s = 1) = i.gone
    rw [f1, hg]
    rfl
theorem read_back {i : Ins} (h : goodI i = true) (ys : List UInt8) : readI ⟨bytesI i ++ ys, false⟩ = i ∧ readS ⟨bytesI i ++ ys, false⟩ = ⟨ys, false⟩ ∧ goodI (nextI ⟨bytesI i ++ ys, false⟩) = true := by
  obtain ⟨h1, h2⟩ := next_back h ys
  unfold readI readS
  rw [h1, h2, if_pos h, if_pos h]
  exact ⟨rfl, rfl, h⟩
end Go.Proofs.YtehgpnnfjgmiiaaGreat
end
section
namespace Go.Proofs.YtehgpnnfjgmiiaaGreat
open Go.Shelf Go.RowKit Go.Lib Go.Great
set_option maxRecDepth 100000
set_option maxHeartbeats 400000
theorem byI_is {i : Ins} (h : goodI i = true) : byI i = bytesI i := by unfold byI; rw [if_pos h]
theorem rosN_back (L : List Ins) (ys : List UInt8) (hg : ∀ x ∈ L, goodI x = true) : ∀ k, k ≤ L.length → rosN k ⟨L.flatMap byI ++ ys, false⟩ = (L.take k, ⟨(L.drop k).flatMap byI ++ ys, false⟩)
  | 0, _ => by simp [rosN]
  | k + 1, hk => by
    have hk' : k < L.length := by omega
    rw [rosN, rosN_back L ys hg k (by omega)]
    have hx := hg _ (List.getElem_mem hk')
    have e : (L.drop k).flatMap byI ++ ys = bytesI L[k] ++ ((L.drop (k + 1)).flatMap byI ++ ys) := by
      rw [List.drop_eq_getElem_cons hk', List.flatMap_cons, byI_is hx, List.append_assoc]
    obtain ⟨h1, h2, _⟩ := read_back hx ((L.drop (k + 1)).flatMap byI ++ ys)
    simp only [e, h1, h2]
    rw [List.take_add_one, List.getElem?_eq_getElem hk']
    rfl
theorem roster_back {L : List Ins} (h : goodR L = true) (ys : List UInt8) : rosL ⟨byR L ++ ys, false⟩ = L ∧ rosS ⟨byR L ++ ys, false⟩ = ⟨ys, false⟩ := by
  have hl := ((goodR_iff L).1 h).1
  have e : byR L ++ ys = putB L.length 1 ++ (L.flatMap byI ++ ys) := by
    unfold byR upR
    rw [if_pos h, List.take_length, List.append_assoc]
  obtain ⟨n1, n2⟩ := num_back L.length 1 (L.flatMap byI ++ ys) (by omega) (by omega)
  have e1 : L.length % 256 ^ 1 = L.length := by omega
  rw [e1] at n1
  have hn := rosN_back L ys (goodR_all h) L.length (Nat.le_refl _)
  rw [List.take_length, List.drop_length] at hn
  have hG : rosG ⟨byR L ++ ys, false⟩ = true := by
    unfold rosG
    rw [e]
    have n1' : numV ⟨putB L.length 1 ++ (L.flatMap byI ++ ys), false⟩ 1 = L.length := n1
    have n2' : numS ⟨putB L.length 1 ++ (L.flatMap byI ++ ys), false⟩ 1 = ⟨L.flatMap byI ++ ys, false⟩ := n2
    rw [n1', n2', hn]
    exact h
  unfold rosL rosS
  rw [if_pos hG, if_pos hG, e]
  have n1' : numV ⟨putB L.length 1 ++ (L.flatMap byI ++ ys), false⟩ 1 = L.length := n1
  have n2' : numS ⟨putB L.length 1 ++ (L.flatMap byI ++ ys), false⟩ 1 = ⟨L.flatMap byI ++ ys, false⟩ := n2
  rw [n1', n2', hn]
  exact ⟨rfl, rfl⟩
end Go.Proofs.YtehgpnnfjgmiiaaGreat
end
