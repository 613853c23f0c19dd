/- While the reference reads an instance: the worlds; what is read is good only of a reader that is not bad. Conditions: at most 900,000 bytes. -/
import Derived.Test.YtehgpnnfjgmiiaaGreatVOja
import Derived.Test.YtehgpnnfjgmiiaaGreatVObd
import Derived.Test.YtehgpnnfjgmiiaaGreatVIiv
import Derived.Test.YtehgpnnfjgmiiaaGreatVObc
import Derived.Test.YtehgpnnfjgmiiaaGreatVRIiq
namespace Go.Proofs.YtehgpnnfjgmiiaaGreat
set_option maxRecDepth 100000
open Go.Shelf Go.RowKit Go.Lib Go.Great
set_option maxRecDepth 1000000
set_option maxHeartbeats 2000000
/-- While Read of the reference runs. -/
structure RXI (w : World) (h : Nat) (A : Option Addr) (c : Nat) (xs : List UInt8) (B r q : Nat) (s : St) (cq : List Value) (W : World) : Prop where
  rd : RRB W h A c xs s B
  hr : W.heap[r]? = some (.cells (encI zeroI).toArray 79 (0, 0))
  hq : W.heap[q]? = some (.cells cq.toArray 79 (0, 0))
  gr : w.grownBy W (some h)
  hg : h < w.heap.size
  hB : B ≤ w.heap.size
  rw : w.heap.size ≤ r
  qw : w.heap.size ≤ q
  rq : r ≠ q
section
variable {w W W' : World} {h c B r q : Nat} {A : Option Addr} {xs : List UInt8} {s s' : St} {cq cq' : List Value}
theorem RXI.lt (n : RXI w h A c xs B r q s cq W) : r < W.heap.size ∧ q < W.heap.size := ⟨(Array.getElem?_eq_some_iff.1 n.hr).1, (Array.getElem?_eq_some_iff.1 n.hq).1⟩
theorem RXI.bel (n : RXI w h A c xs B r q s cq W) (hb : Below W.heap.size W W') : RXI w h A c xs B r q s cq W' :=
  ⟨n.rd.bel hb, (hb.block r n.lt.1).trans n.hr, (hb.block q n.lt.2).trans n.hq, grownBy_trans n.gr (grown_of_bel hb _), n.hg, n.hB, n.rw, n.qw, n.rq⟩
theorem RXI.read (n : RXI w h A c xs B r q s cq W) (hs : RRS W' h A c xs s') (hg : W.grownBy W' (some h)) : RXI w h A c xs B r q s' cq W' :=
  ⟨n.rd.read hs hg, (hg.block r n.lt.1 (by intro e; injection e with e; have := n.hg; have := n.rw; omega)).trans n.hr, (hg.block q n.lt.2 (by intro e; injection e with e; have := n.hg; have := n.qw; omega)).trans n.hq, grownBy_trans n.gr hg, n.hg, n.hB, n.rw, n.qw, n.rq⟩
theorem RXI.put (n : RXI w h A c xs B r q s cq W) (hq : W'.heap[q]? = some (.cells cq'.toArray 79 (0, 0))) (hg : W.grownBy W' (some q)) : RXI w h A c xs B r q s cq' W' where
  rd := n.rd.keep (hg.block h n.rd.lt (by intro e; injection e with e; have := n.hg; have := n.qw; omega)) hg.size (fun i hi => hg.block i (by have := n.rd.lt; have := n.gr.size; have := n.hB; omega) (by intro e; injection e with e; have := n.hB; have := n.qw; omega))
  hr := (hg.block r n.lt.1 (by intro e; injection e with e; have := n.rq; omega)).trans n.hr
  hq := hq
  gr := ⟨hg.os.trans n.gr.os, hg.tape.trans n.gr.tape, hg.output.trans n.gr.output, Nat.le_trans n.gr.size hg.size, fun i hi hne => (hg.block i (Nat.lt_of_lt_of_le hi n.gr.size) (by intro e; injection e with e; have := n.qw; omega)).trans (n.gr.block i hi hne)⟩
  hg := n.hg
  hB := n.hB
  rw := n.rw
  qw := n.qw
  rq := n.rq
theorem RXI.set (n : RXI w h A c xs B r q s cq W) {j : Nat} {v : Value} (hq : (W.setCell ⟨q, j, none⟩ v).heap[q]? = some (.cells cq'.toArray 79 (0, 0))) : RXI w h A c xs B r q s cq' (W.setCell ⟨q, j, none⟩ v) :=
  n.put hq (grownBy_setCell (World.grownBy.refl W _) _ _)
theorem RXI.cell (n : RXI w h A c xs B r q s cq W) {j : Nat} {v : Value} (hv : cq[j]? = some v) : W.cell? ⟨q, j, none⟩ = some v ∧ W.frozen? ⟨q, j, none⟩ = false := by
  refine ⟨?_, frozen_of_row _ _ _ _ _ n.hq⟩
  rw [cell_of_row _ _ j _ 79 (0, 0) n.hq, List.getElem?_toArray]
  exact hv
theorem RXI.take (n : RXI w h A c xs B r q s cq W) (k : Int) (hk : k ≤ 9223372036854775807) : Calls Tryz.prog 44 #[.pointer (some ⟨h, 0, none⟩), .int .i64 k] W fun e W' => ∃ A' c', e = .returned (.slice A' (takeV s k).length c') ∧ RXI w h A c xs B r q (takeS s k) cq W' ∧ BAt W' W'.heap.size A' (takeV s k) := by
  refine (rrtake_s n.rd.rs k hk).mono ?_
  rintro e W' ⟨v, rfl, ho, hr, hg⟩
  obtain ⟨A', c', rfl, hA, _⟩ := own_bat ho
  exact ⟨A', c', rfl, n.read hr hg, hA⟩
theorem RXI.num (n : RXI w h A c xs B r q s cq W) (k : Int) (hk : k ≤ 9223372036854775807) {j : Nat} {v : Value} (hv : cq[j]? = some v) : Calls Tryz.prog 43 #[.pointer (some ⟨h, 0, none⟩), .int .i64 k] W fun e W' => e = .returned (.int .u64 (numV s k : Int)) ∧ RXI w h A c xs B r q (numS s k) cq W' ∧ W'.cell? ⟨q, j, none⟩ = some v ∧ W'.frozen? ⟨q, j, none⟩ = false := by
  refine (rrnum_s n.rd.rs k hk).mono ?_
  rintro e W' ⟨rfl, hr, hg⟩
  have n2 := n.read hr hg
  exact ⟨rfl, n2, n2.cell hv⟩
theorem rrtext_s (r : RRS W h A c xs s) (n : Int) (hn : n ≤ 9223372036854775807) : Calls Tryz.prog 96 #[.pointer (some ⟨h, 0, none⟩), .int .i64 n] W (RTxtP W h A c xs s n) := by
  obtain ⟨k, hr, hy⟩ := r
  have e1 := St.eta s hy rfl
  have := rrtext_any hr n hn
  rwa [← e1] at this
theorem RXI.txt (n : RXI w h A c xs B r q s cq W) (k : Int) (hk : k ≤ 9223372036854775807) {j : Nat} {v : Value} (hv : cq[j]? = some v) : Calls Tryz.prog 96 #[.pointer (some ⟨h, 0, none⟩), .int .i64 k] W fun e W' => e = .returned (.string (bstr (txtV s k))) ∧ RXI w h A c xs B r q (txtS s k) cq W' ∧ W'.cell? ⟨q, j, none⟩ = some v ∧ W'.frozen? ⟨q, j, none⟩ = false := by
  refine (rrtext_s n.rd.rs k hk).mono ?_
  rintro e W' ⟨rfl, hr, hg⟩
  have n2 := n.read hr hg
  exact ⟨rfl, n2, n2.cell hv⟩
theorem RXI.bad (n : RXI w h A c xs B r q s cq W) : W.cell? ⟨h, 2, none⟩ = some (.bool s.bad) := by
  obtain ⟨k, h1, _⟩ := n.rd
  have := cell_of_row W h 2 _ 72 (0, 0) h1
  simpa using this
/-- The told block takes the instance. -/
theorem RXI.fin (n : RXI w h A c xs B r q s cq W) (i : Ins) : W.there r 0 28 ∧ (W.setCells r 0 (encI i)).rangeAt r 0 (encI i) ∧ RRB (W.setCells r 0 (encI i)) h A c xs s B ∧ w.grownBy (W.setCells r 0 (encI i)) (some h) := by
  have ht : W.there r 0 28 := by
    have := row_there n.hr
    rw [encI_length] at this
    exact this
  have hgc : W.grownBy (W.setCells r 0 (encI i)) (some r) := grown_cells (encI i) 0 W (World.grownBy.refl W _)
  refine ⟨ht, World.rangeAt_setCells_same W r 0 (encI i) (by rw [encI_length]; exact ht), ?_, ?_⟩
  · exact n.rd.keep (hgc.block h n.rd.lt (by intro e; injection e with e; have := n.hg; have := n.rw; omega)) hgc.size (fun i hi => hgc.block i (by have := n.gr.size; have := n.hB; omega) (by intro e; injection e with e; have := n.hB; have := n.rw; omega))
  · exact ⟨hgc.os.trans n.gr.os, hgc.tape.trans n.gr.tape, hgc.output.trans n.gr.output, Nat.le_trans n.gr.size hgc.size, fun i hi hne => (hgc.block i (Nat.lt_of_lt_of_le hi n.gr.size) (by intro e; injection e with e; have := n.rw; omega)).trans (n.gr.block i hi hne)⟩
end
theorem goodI_gone {i : Ins} (h : goodI i = true) : i.gone = true ∨ (i.port ≠ 0 ∧ goodL i.tgt = true) := by
  unfold goodI tgtL at h
  cases hg : i.gone
  · right
    rw [hg] at h
    simp only [Bool.and_eq_true, decide_eq_true_eq, Bool.false_eq_true, if_false] at h
    exact ⟨h.2.1, h.2.2.1⟩
  · exact .inl rfl
theorem goodL_nil : goodL [] = false := by decide +kernel
theorem numV_ok {s : St} {k : Int} (h : numV s k ≠ 0) : (numS s k).bad = false := by
  unfold numV at h
  unfold numS
  split
  · rfl
  · rename_i hk
    rw [if_neg hk] at h
    exact absurd rfl h
theorem nextS_bad {s : St} (h : (nextS s).bad = true) : goodI (nextI s) = false := by
  cases hg : goodI (nextI s)
  · rfl
  · exfalso
    have hgg := goodI_gone hg
    by_cases h0 : flagV s = 0
    · unfold nextS at h
      rw [if_pos h0] at h
      unfold nextI at hgg
      rw [if_pos h0] at hgg
      rcases hgg with hgg | ⟨_, hgg⟩
      · exact absurd hgg (by simp)
      · have : txtV (s8 s) 1024 = [] := by
          unfold s9 txtS at h
          unfold txtV
          split at h
          · exact absurd h (by simp)
          · rename_i hk
            rw [if_neg hk]
        simp only at hgg
        rw [this, goodL_nil] at hgg
        exact absurd hgg (by simp)
    · unfold nextS at h
      rw [if_neg h0] at h
      have := numV_ok (s := s4 s) (k := 1) h0
      unfold s5 at h
      rw [this] at h
      exact absurd h (by simp)
theorem flag_two {s : St} (h : 1 < flagV s) : goodI (nextI s) = false := by
  cases hg : goodI (nextI s)
  · rfl
  · exfalso
    have hgg := goodI_gone hg
    unfold nextI at hgg
    rw [if_neg (by omega)] at hgg
    rcases hgg with hgg | ⟨hgg, _⟩
    · simp only [decide_eq_true_eq] at hgg
      omega
    · exact hgg rfl
end Go.Proofs.YtehgpnnfjgmiiaaGreat
