/- While an instance is read: the worlds; the copy of the publisher. Conditions: at most 900,000 bytes. -/
import Derived.Test.YtehgpnnfjgmiiaaGreatVOja
import Derived.Test.YtehgpnnfjgmiiaaGreatVObd
import Derived.Test.YtehgpnnfjgmiiaaGreatVIiv
import Derived.Test.YtehgpnnfjgmiiaaGreatVObc
import Derived.Test.YtehgpnnfjgmiiaaGreatVRKCdk
import Derived.Test.YtehgpnnfjgmiiaaGreatVRERefb
import Derived.Test.YtehgpnnfjgmiiaaGreatProg
import Derived.RegionTactic
import Derived.RegionCalls
import Derived.WalkKit
import Derived.Deep.RegionHeld3
import Derived.Deep.QuietTactic
import Derived.BigQuiet
import Derived.LoopTactic
import Derived.Laws.BitsAllLaws
import Derived.Deep.MidRow
import Derived.Deep.DeepCutAuto
import Derived.Great.BuildSlice
import Derived.Lib.SlBytesConst
import Derived.Stop.BytesEq
import Derived.Test.YtehgpnnfjgmiiaaGreatVREOctc
import Derived.Deep.AppendSrc
import Derived.Laws.BytesString
import Derived.Laws.CopyOwn
import Derived.Deep.AppendLies
import Derived.Deep.Draws
import Derived.WalkSpells
import Derived.Test.YtehgpnnfjgmiiaaGreatRows
import Derived.WalkLawsBesides
import Derived.Lib.Hide
import Derived.Outline
import Derived.Laws.BitsLemmas
import Derived.Laws.Bits64
import Derived.Sort.Grow
import Derived.Lib.ConvBytes
import Derived.StillTailTactics
import Derived.Lib.OwnBridge
import Derived.Lib.SliceRun
import Derived.Below
import Derived.ProofKit
import Derived.OpenShut
import Derived.ChangeOld
import Derived.Laws.Tables
import Derived.Deep.LoopGhost
import Derived.Shelf.LaysM
namespace Go.Proofs.YtehgpnnfjgmiiaaGreat
set_option maxRecDepth 100000
open Go.Shelf Go.RowKit Go.Lib Go.Great
set_option maxRecDepth 1000000
set_option maxHeartbeats 2000000
theorem row_there {w : World} {g : Nat} {cs : List Value} {ty : TypeId} (h : w.heap[g]? = some (.cells cs.toArray ty (0, 0))) : w.there g 0 cs.length := fun i hi => by
  rw [Nat.zero_add, cell_of_row w _ i _ ty (0, 0) h, frozen_of_row w _ i _ ty h]
  exact ⟨by simp; omega, rfl⟩
theorem size5c : (Tryz.prog.info? 5).map (·.size) = some 1 := by kernel_rfl
/-- While next runs: r is the block of what is told, q that of the instance. -/
structure NXI (w : World) (g B r q : Nat) (s : St) (cq : List Value) (W : World) : Prop where
  rd : RdrB W g s B
  hr : W.heap[r]? = some (.cells (encI zeroI).toArray 79 (0, 0))
  hq : W.heap[q]? = some (.cells cq.toArray 79 (0, 0))
  gr : w.grownBy W (some g)
  hg : g < w.heap.size
  hB : B ≤ w.heap.size
  rw : w.heap.size ≤ r
  qw : w.heap.size ≤ q
  rq : r ≠ q
section
variable {w W W' : World} {g B r q : Nat} {s s' : St} {cq cq' : List Value}
theorem NXI.lt (n : NXI w g B r q s cq W) : r < W.heap.size ∧ q < W.heap.size := ⟨(Array.getElem?_eq_some_iff.1 n.hr).1, (Array.getElem?_eq_some_iff.1 n.hq).1⟩
theorem NXI.bel (n : NXI w g B r q s cq W) (hb : Below W.heap.size W W') : NXI w g B r q s cq W' :=
  ⟨n.rd.below hb, (hb.block r n.lt.1).trans n.hr, (hb.block q n.lt.2).trans n.hq, grownBy_trans n.gr (grown_of_bel hb _), n.hg, n.hB, n.rw, n.qw, n.rq⟩
theorem NXI.read (n : NXI w g B r q s cq W) (h : RdrB W' g s' B) (hg : W.grownBy W' (some g)) : NXI w g B r q s' cq W' :=
  ⟨h, (hg.block r n.lt.1 (by intro e; injection e with e; have := n.hg; have := n.rw; omega)).trans n.hr, (hg.block q n.lt.2 (by intro e; injection e with e; have := n.hg; have := n.qw; omega)).trans n.hq, grownBy_trans n.gr hg, n.hg, n.hB, n.rw, n.qw, n.rq⟩
/-- The instance's block changes. -/
theorem NXI.put (n : NXI w g B r q s cq W) (hq : W'.heap[q]? = some (.cells cq'.toArray 79 (0, 0))) (hg : W.grownBy W' (some q)) : NXI w g B r q s cq' W' where
  rd := n.rd.keep (hg.block g n.rd.lt (by intro e; injection e with e; have := n.hg; have := n.qw; omega)) hg.size (fun i hi _ => hg.block i (by have := n.rd.lt; have := n.gr.size; have := n.hB; omega) (by intro e; injection e with e; have := n.hB; have := n.qw; omega))
  hr := (hg.block r n.lt.1 (by intro e; injection e with e; have := n.rq; omega)).trans n.hr
  hq := hq
  gr := ⟨hg.os.trans n.gr.os, hg.tape.trans n.gr.tape, hg.output.trans n.gr.output, Nat.le_trans n.gr.size hg.size, fun i hi hne => (hg.block i (Nat.lt_of_lt_of_le hi n.gr.size) (by intro e; injection e with e; have := n.qw; omega)).trans (n.gr.block i hi hne)⟩
  hg := n.hg
  hB := n.hB
  rw := n.rw
  qw := n.qw
  rq := n.rq
/-- One cell of it. -/
theorem NXI.set (n : NXI w g B r q s cq W) {j : Nat} {v : Value} (hq : (W.setCell ⟨q, j, none⟩ v).heap[q]? = some (.cells cq'.toArray 79 (0, 0))) : NXI w g B r q s cq' (W.setCell ⟨q, j, none⟩ v) :=
  n.put hq (grownBy_setCell (World.grownBy.refl W _) _ _)
theorem NXI.cell (n : NXI w g B r q s cq W) {j : Nat} {v : Value} (hv : cq[j]? = some v) : W.cell? ⟨q, j, none⟩ = some v ∧ W.frozen? ⟨q, j, none⟩ = false := by
  refine ⟨?_, frozen_of_row _ _ _ _ _ n.hq⟩
  rw [cell_of_row _ _ j _ 79 (0, 0) n.hq, List.getElem?_toArray]
  exact hv
theorem NXI.take (n : NXI w g B r q s cq W) (k : Int) (hk : k ≤ 9223372036854775807) : Calls Tryz.prog 67 #[.pointer (some ⟨g, 0, none⟩), .int .i64 k] W fun e W' => ∃ A c, e = .returned (.slice A (takeV s k).length c) ∧ NXI w g B r q (takeS s k) cq W' ∧ BAt W' W'.heap.size A (takeV s k) := by
  refine (take_anyB n.rd k hk).mono ?_
  rintro e W' ⟨v, rfl, ho, hr, hg⟩
  obtain ⟨A, c, rfl, hA, _⟩ := own_bat ho
  exact ⟨A, c, rfl, n.read hr hg, hA⟩
theorem NXI.num (n : NXI w g B r q s cq W) (k : Int) (hk : k ≤ 9223372036854775807) {j : Nat} {v : Value} (hv : cq[j]? = some v) : Calls Tryz.prog 40 #[.pointer (some ⟨g, 0, none⟩), .int .i64 k] W fun e W' => e = .returned (.int .u64 (numV s k : Int)) ∧ NXI w g B r q (numS s k) cq W' ∧ W'.cell? ⟨q, j, none⟩ = some v ∧ W'.frozen? ⟨q, j, none⟩ = false := by
  refine (num_anyB n.rd k hk).mono ?_
  rintro e W' ⟨rfl, hr, hg⟩
  have n2 := n.read hr hg
  exact ⟨rfl, n2, n2.cell hv⟩
theorem NXI.txt (n : NXI w g B r q s cq W) (k : Int) (hk : k ≤ 9223372036854775807) {j : Nat} {v : Value} (hv : cq[j]? = some v) : Calls Tryz.prog 125 #[.pointer (some ⟨g, 0, none⟩), .int .i64 k] W fun e W' => e = .returned (.string (bstr (txtV s k))) ∧ NXI w g B r q (txtS s k) cq W' ∧ W'.cell? ⟨q, j, none⟩ = some v ∧ W'.frozen? ⟨q, j, none⟩ = false := by
  refine (txt_anyB n.rd k hk).mono ?_
  rintro e W' ⟨rfl, hr, hg⟩
  have n2 := n.read hr hg
  exact ⟨rfl, n2, n2.cell hv⟩
/-- The told block takes the instance. -/
theorem NXI.fin (n : NXI w g B r q s cq W) (c : Ins) : W.there r 0 28 ∧ (W.setCells r 0 (encI c)).rangeAt r 0 (encI c) ∧ RdrB (W.setCells r 0 (encI c)) g s B ∧ w.grownBy (W.setCells r 0 (encI c)) (some g) := by
  have ht : W.there r 0 28 := by
    have := row_there n.hr
    rw [encI_length] at this
    exact this
  have hgc : W.grownBy (W.setCells r 0 (encI c)) (some r) := grown_cells (encI c) 0 W (World.grownBy.refl W _)
  refine ⟨ht, World.rangeAt_setCells_same W r 0 (encI c) (by rw [encI_length]; exact ht), ?_, ?_⟩
  · exact n.rd.keep (hgc.block g n.rd.lt (by intro e; injection e with e; have := n.hg; have := n.rw; omega)) hgc.size (fun i hi _ => hgc.block i (by have := n.gr.size; have := n.hB; omega) (by intro e; injection e with e; have := n.hB; have := n.rw; omega))
  · exact ⟨hgc.os.trans n.gr.os, hgc.tape.trans n.gr.tape, hgc.output.trans n.gr.output, Nat.le_trans n.gr.size hgc.size, fun i hi hne => (hgc.block i (Nat.lt_of_lt_of_le hi n.gr.size) (by intro e; injection e with e; have := n.rw; omega)).trans (n.gr.block i hi hne)⟩
end
theorem takeV_20 (s : St) : (takeV s 20).length = 20 ∨ takeV s 20 = [] := by
  unfold takeV
  split
  · rename_i h
    left
    have := h.2.2
    rw [List.length_take]
    have e : (20 : Int).toNat = 20 := rfl
    omega
  · exact .inr rfl
/-- The zeros take what is read of the publisher. -/
theorem copy_pub (s : St) : splice (encI zeroI) 0 (bcells (takeV s 20)) = encR (pubV s) 0 0 0 false 0 0 0 [] := by
  unfold splice pubV
  rcases takeV_20 s with h | h
  · rw [if_pos h, List.take_zero, List.nil_append, bcells_length, h]
    rfl
  · rw [h]
    rfl
end Go.Proofs.YtehgpnnfjgmiiaaGreat
