/- While the reference reads an instance: the worlds; what is read is good only of a reader that is not bad. Conditions: at most 900,000 bytes. Stone, of the program and of the reference. No condition. What is read of the bytes of a good instance, and what is read has them; newer is an order: plain. No condition. -/
import Derived.Test.YtkceipkgebgigaaXIiq
import Derived.Test.YtkceipkgebgigaaXIin
import Derived.Test.YtkceipkgebgigaaXIik
section
namespace Go.Proofs.Ytkceipkgebgigaa
open Go.Shelf Go.RowKit Go.Lib Go.Great
set_option maxRecDepth 1000000
set_option maxHeartbeats 2000000
/-- While Read of the reference runs. -/
structure RXI (w : World) (h : Nat) (A : Option Addr) (c : Nat) (xs : List UInt8) (B r q : Nat) (s : St) (cq : List Value) (W : World) : Prop where
  rd : RRB W h A c xs s B
  hr : W.heap[r]? = some (.cells (encI zeroI).toArray 28 (0, 0))
  hq : W.heap[q]? = some (.cells cq.toArray 28 (0, 0))
  gr : w.grownBy W (some h)
  hg : h < w.heap.size
  hB : B ≤ w.heap.size
  rw : w.heap.size ≤ r
  qw : w.heap.size ≤ q
  rq : r ≠ q
section
variable {w W W' : World} {h c B r q : Nat} {A : Option Addr} {xs : List UInt8} {s s' : St} {cq cq' : List Value}
theorem RXI.lt (n : RXI w h A c xs B r q s cq W) : r < W.heap.size ∧ q < W.heap.size := ⟨(Array.getElem?_eq_some_iff.1 n.hr).1, (Array.getElem?_eq_some_iff.1 n.hq).1⟩
theorem RXI.bel (n : RXI w h A c xs B r q s cq W) (hb : Below W.heap.size W W') : RXI w h A c xs B r q s cq W' :=
  ⟨n.rd.bel hb, (hb.block r n.lt.1).trans n.hr, (hb.block q n.lt.2).trans n.hq, grownBy_trans n.gr (grown_of_bel hb _), n.hg, n.hB, n.rw, n.qw, n.rq⟩
theorem RXI.read (n : RXI w h A c xs B r q s cq W) (hs : RRS W' h A c xs s') (hg : W.grownBy W' (some h)) : RXI w h A c xs B r q s' cq W' :=
  ⟨n.rd.read hs hg, (hg.block r n.lt.1 (by intro e; injection e with e; have := n.hg; have := n.rw; omega)).trans n.hr, (hg.block q n.lt.2 (by intro e; injection e with e; have := n.hg; have := n.qw; omega)).trans n.hq, grownBy_trans n.gr hg, n.hg, n.hB, n.rw, n.qw, n.rq⟩
theorem RXI.put (n : RXI w h A c xs B r q s cq W) (hq : W'.heap[q]? = some (.cells cq'.toArray 28 (0, 0))) (hg : W.grownBy W' (some q)) : RXI w h A c xs B r q s cq' W' where
  rd := n.rd.keep (hg.block h n.rd.lt (by intro e; injection e with e; have := n.hg; have := n.qw; omega)) hg.size (fun i hi => hg.block i (by have := n.rd.lt; have := n.gr.size; have := n.hB; omega) (by intro e; injection e with e; have := n.hB; have := n.qw; omega))
  hr := (hg.block r n.lt.1 (by intro e; injection e with e; have := n.rq; omega)).trans n.hr
  hq := hq
  gr := ⟨hg.os.trans n.gr.os, hg.tape.trans n.gr.tape, hg.output.trans n.gr.output, Nat.le_trans n.gr.size hg.size, fun i hi hne => (hg.block i (Nat.lt_of_lt_of_le hi n.gr.size) (by intro e; injection e with e; have := n.qw; omega)).trans (n.gr.block i hi hne)⟩
  hg := n.hg
  hB := n.hB
  rw := n.rw
  qw := n.qw
  rq := n.rq
theorem RXI.set (n : RXI w h A c xs B r q s cq W) {j : Nat} {v : Value} (hq : (W.setCell ⟨q, j, none⟩ v).heap[q]? = some (.cells cq'.toArray 28 (0, 0))) : RXI w h A c xs B r q s cq' (W.setCell ⟨q, j, none⟩ v) :=
  n.put hq (grownBy_setCell (World.grownBy.refl W _) _ _)
theorem RXI.cell (n : RXI w h A c xs B r q s cq W) {j : Nat} {v : Value} (hv : cq[j]? = some v) : W.cell? ⟨q, j, none⟩ = some v ∧ W.frozen? ⟨q, j, none⟩ = false := by
  refine ⟨?_, frozen_of_row _ _ _ _ _ n.hq⟩
  rw [cell_of_row _ _ j _ 28 (0, 0) n.hq, List.getElem?_toArray]
  exact hv
theorem RXI.take (n : RXI w h A c xs B r q s cq W) (k : Int) (hk : k ≤ 9223372036854775807) : Calls Try.prog 69 #[.pointer (some ⟨h, 0, none⟩), .int .i64 k] W fun e W' => ∃ A' c', e = .returned (.slice A' (takeV s k).length c') ∧ RXI w h A c xs B r q (takeS s k) cq W' ∧ BAt W' W'.heap.size A' (takeV s k) := by
  refine (rrtake_s n.rd.rs k hk).mono ?_
  rintro e W' ⟨v, rfl, ho, hr, hg⟩
  obtain ⟨A', c', rfl, hA, _⟩ := own_bat ho
  exact ⟨A', c', rfl, n.read hr hg, hA⟩
theorem RXI.num (n : RXI w h A c xs B r q s cq W) (k : Int) (hk : k ≤ 9223372036854775807) {j : Nat} {v : Value} (hv : cq[j]? = some v) : Calls Try.prog 70 #[.pointer (some ⟨h, 0, none⟩), .int .i64 k] W fun e W' => e = .returned (.int .u64 (numV s k : Int)) ∧ RXI w h A c xs B r q (numS s k) cq W' ∧ W'.cell? ⟨q, j, none⟩ = some v ∧ W'.frozen? ⟨q, j, none⟩ = false := by
  refine (rrnum_s n.rd.rs k hk).mono ?_
  rintro e W' ⟨rfl, hr, hg⟩
  have n2 := n.read hr hg
  exact ⟨rfl, n2, n2.cell hv⟩
theorem rrtext_s (r : RRS W h A c xs s) (n : Int) (hn : n ≤ 9223372036854775807) : Calls Try.prog 71 #[.pointer (some ⟨h, 0, none⟩), .int .i64 n] W (RTxtP W h A c xs s n) := by
  obtain ⟨k, hr, hy⟩ := r
  have e1 := St.eta s hy rfl
  have := rrtext_any hr n hn
  rwa [← e1] at this
theorem RXI.txt (n : RXI w h A c xs B r q s cq W) (k : Int) (hk : k ≤ 9223372036854775807) {j : Nat} {v : Value} (hv : cq[j]? = some v) : Calls Try.prog 71 #[.pointer (some ⟨h, 0, none⟩), .int .i64 k] W fun e W' => e = .returned (.string (bstr (txtV s k))) ∧ RXI w h A c xs B r q (txtS s k) cq W' ∧ W'.cell? ⟨q, j, none⟩ = some v ∧ W'.frozen? ⟨q, j, none⟩ = false := by
  refine (rrtext_s n.rd.rs k hk).mono ?_
  rintro e W' ⟨rfl, hr, hg⟩
  have n2 := n.read hr hg
  exact ⟨rfl, n2, n2.cell hv⟩
theorem RXI.bad (n : RXI w h A c xs B r q s cq W) : W.cell? ⟨h, 2, none⟩ = some (.bool s.bad) := by
  obtain ⟨k, h1, _⟩ := n.rd
  have := cell_of_row W h 2 _ 47 (0, 0) h1
  simpa using this
/-- The told block takes the instance. -/
theorem RXI.fin (n : RXI w h A c xs B r q s cq W) (i : Ins) : W.there r 0 28 ∧ (W.setCells r 0 (encI i)).rangeAt r 0 (encI i) ∧ RRB (W.setCells r 0 (encI i)) h A c xs s B ∧ w.grownBy (W.setCells r 0 (encI i)) (some h) := by
  have ht : W.there r 0 28 := by
    have := row_there n.hr
    rw [encI_length] at this
    exact this
  have hgc : W.grownBy (W.setCells r 0 (encI i)) (some r) := grown_cells (encI i) 0 W (World.grownBy.refl W _)
  refine ⟨ht, World.rangeAt_setCells_same W r 0 (encI i) (by rw [encI_length]; exact ht), ?_, ?_⟩
  · exact n.rd.keep (hgc.block h n.rd.lt (by intro e; injection e with e; have := n.hg; have := n.rw; omega)) hgc.size (fun i hi => hgc.block i (by have := n.gr.size; have := n.hB; omega) (by intro e; injection e with e; have := n.hB; have := n.rw; omega))
  · exact ⟨hgc.os.trans n.gr.os, hgc.tape.trans n.gr.tape, hgc.output.trans n.gr.output, Nat.le_trans n.gr.size hgc.size, fun i hi hne => (hgc.block i (Nat.lt_of_lt_of_le hi n.gr.size) (by intro e; injection e with e; have := n.rw; omega)).trans (n.gr.block i hi hne)⟩
end
theorem goodI_gone {i : Ins} (h : goodI i = true) : i.gone = true ∨ (i.port ≠ 0 ∧ goodL i.tgt = true) := by
  unfold goodI tgtL at h
  cases hg : i.gone
  · right
    rw [hg] at h
    simp only [Bool.and_eq_true, decide_eq_true_eq, Bool.false_eq_true, if_false] at h
    exact ⟨h.2.1, h.2.2.1⟩
  · exact .inl rfl
theorem goodL_nil : goodL [] = false := by decide +kernel
theorem numV_ok {s : St} {k : Int} (h : numV s k ≠ 0) : (numS s k).bad = false := by
  unfold numV at h
  unfold numS
  split
  · rfl
  · rename_i hk
    rw [if_neg hk] at h
    exact absurd rfl h
theorem nextS_bad {s : St} (h : (nextS s).bad = true) : goodI (nextI s) = false := by
  cases hg : goodI (nextI s)
  · rfl
  · exfalso
    have hgg := goodI_gone hg
    by_cases h0 : flagV s = 0
    · unfold nextS at h
      rw [if_pos h0] at h
      unfold nextI at hgg
      rw [if_pos h0] at hgg
      rcases hgg with hgg | ⟨_, hgg⟩
      · exact absurd hgg (by simp)
      · have : txtV (s8 s) 1024 = [] := by
          unfold s9 txtS at h
          unfold txtV
          split at h
          · exact absurd h (by simp)
          · rename_i hk
            rw [if_neg hk]
        simp only at hgg
        rw [this, goodL_nil] at hgg
        exact absurd hgg (by simp)
    · unfold nextS at h
      rw [if_neg h0] at h
      have := numV_ok (s := s4 s) (k := 1) h0
      unfold s5 at h
      rw [this] at h
      exact absurd h (by simp)
theorem flag_two {s : St} (h : 1 < flagV s) : goodI (nextI s) = false := by
  cases hg : goodI (nextI s)
  · rfl
  · exfalso
    have hgg := goodI_gone hg
    unfold nextI at hgg
    rw [if_neg (by omega)] at hgg
    rcases hgg with hgg | ⟨hgg, _⟩
    · simp only [decide_eq_true_eq] at hgg
      omega
    · exact hgg rfl
end Go.Proofs.Ytkceipkgebgigaa
end
section
namespace Go.Proofs.Ytkceipkgebgigaa
open Go.Shelf Go.RowKit Go.Lib Go.Great
set_option maxRecDepth 100000
set_option maxHeartbeats 1000000
def stoneI (i : Ins) : Ins := ⟨i.pub, plusN i.seq 1, i.born, i.life, true, 0, 0, 0, [], i.hp, plusN_lt _ _, i.hb, i.hl, by omega, by omega, by omega⟩
theorem rstone_any (i : Ins) (w : World) : Calls Try.prog 27 #[.agg (encI i).toArray] w fun e w' => e = .returned (.agg (encI (stoneI i)).toArray) ∧ Below w.heap.size w w' := by
  obtain ⟨h1, h2, hb⟩ := heap2 w (.cells (encI i).toArray 28) (.cells (encI zeroI).toArray 28)
  have HF := fldB h1
  have HK := Lib.hid HF.pub
  have c1 := HF.seq
  have c2 := HF.born
  have c3 := HF.life
  have HBU : Hid (∀ W, (Instr.build 28 #[(0, .agg (bcells i.pub).toArray), (1, .int .u64 (plusN i.seq 1 : Int)), (2, .int .u64 (i.born : Int)), (3, .int .u32 (i.life : Int)), (4, .bool true)]).run Try.prog W = .ok (.agg (encI (stoneI i)).toArray) W) := Lib.hid (fun W => run_build28 i.pub i.hp (plusN i.seq 1) i.born i.life true W)
  obtain ⟨_, k2, kb⟩ := heap2 w (.cells (encI i).toArray 28) (.cells (encI (stoneI i)).toArray 28)
  have HR := Lib.hid (row_range k2)
  have HB := Lib.hid kb
  have hl := encI_length (stoneI i)
  have hs := i.hs
  have HP : Hid (plusN i.seq 1 = if 18446744073709551615 < i.seq + 1 then 18446744073709551615 else i.seq + 1) := Lib.hid rfl
  generalize stoneI i = j at *
  obtain ⟨J, hJ⟩ : ∃ J, J = (encI j).toArray := ⟨_, rfl⟩
  have HX := Lib.hid hJ
  rw [← hJ] at HBU HB ⊢
  generalize (encI i).toArray = X at *
  generalize (bcells i.pub).toArray = IX at *
  generalize plusN i.seq 1 = p at *
  generalize i.seq = s at *
  generalize i.born = b at *
  generalize i.life = l at *
  clear h1 h2 hb k2 kb hJ HF
  by_cases hm : s < 18446744073709551615
  · have hm' : (s : Int) < 18446744073709551615 := by omega
    have hp : p = s + 1 := by rw [HP.out, if_neg (by omega)]
    have hq : IntKind.u64.wrap ((s : Int) + 1) = (p : Int) := by rw [IntKind.wrap]; simp [IntKind.signed, IntKind.bits]; omega
    clear HP hp
    go_enter Try.func27, Try.ntmps27
    go_wp2_with (first
      | (with_reducible refine wpList_alloc28 (o := ⟨some 2, _, _, _, _, _⟩) (w.heap.size + 1) (by simp) rfl 2 rfl rfl ?_)
      | ((with_reducible refine wpList_loadV (op := ⟨some 11, _, _, _, _, _⟩) rfl 23 (.tmp 10) rfl _ ?_ _ HK.out ?_); rfl)
      | ((with_reducible refine wpList_buildV (o := ⟨some 17, _, _, _, _, _⟩) rfl 28 _ rfl _ ?_ _ (HBU.out _) ?_); (simp only [List.map_toArray, List.map_cons, List.map_nil]; rfl))
      | ((with_reducible refine wpList_store28n (o := ⟨none, _, _, _, _, _⟩) rfl (.tmp 2) (.tmp 17) rfl (w.heap.size + 1) ?_ zeroI j ?_ ?_ ?_); (simp); rfl; (rw [← HX.out]; rfl)))
    have hB := HB.out
    rw [HX.out] at hB ⊢
    refine bodyPost_ret (v := .agg (encI j).toArray) ?_ rfl ?_
    · exact results_cell1 (p := 2) (ty := 28) rfl _ _ (w.heap.size + 1) 0 (encI j) _ rfl HR.out Try.underlying28 rfl (by rw [hl]; exact size28i)
    · exact ⟨rfl, hB⟩
  · have hm' : ¬ (s : Int) < 18446744073709551615 := by omega
    have hp : p = s := by rw [HP.out, if_pos (by omega)]; omega
    subst hp
    clear HP
    go_enter Try.func27, Try.ntmps27
    go_wp2_with (first
      | (with_reducible refine wpList_alloc28 (o := ⟨some 2, _, _, _, _, _⟩) (w.heap.size + 1) (by simp) rfl 2 rfl rfl ?_)
      | ((with_reducible refine wpList_loadV (op := ⟨some 11, _, _, _, _, _⟩) rfl 23 (.tmp 10) rfl _ ?_ _ HK.out ?_); rfl)
      | ((with_reducible refine wpList_buildV (o := ⟨some 17, _, _, _, _, _⟩) rfl 28 _ rfl _ ?_ _ (HBU.out _) ?_); (simp only [List.map_toArray, List.map_cons, List.map_nil]; rfl))
      | ((with_reducible refine wpList_store28n (o := ⟨none, _, _, _, _, _⟩) rfl (.tmp 2) (.tmp 17) rfl (w.heap.size + 1) ?_ zeroI j ?_ ?_ ?_); (simp); rfl; (rw [← HX.out]; rfl)))
    have hB := HB.out
    rw [HX.out] at hB ⊢
    refine bodyPost_ret (v := .agg (encI j).toArray) ?_ rfl ?_
    · exact results_cell1 (p := 2) (ty := 28) rfl _ _ (w.heap.size + 1) 0 (encI j) _ rfl HR.out Try.underlying28 rfl (by rw [hl]; exact size28i)
    · exact ⟨rfl, hB⟩
/-- While Stone runs: the argument's block, what is told, the stone. -/
structure STW (w : World) (i : Ins) (n : Nat) (j : Ins) (W : World) : Prop where
  h1 : W.heap[w.heap.size]? = some (.cells (encI i).toArray 28 (0, 0))
  h2 : W.heap[w.heap.size + 1]? = some (.cells (encI zeroI).toArray 28 (0, 0))
  h3 : W.heap[n]? = some (.cells (encI j).toArray 28 (0, 0))
  be : Below w.heap.size w W
  hn : w.heap.size + 1 < n
theorem stone_any (i : Ins) (w : World) : Calls Try.prog 26 #[.agg (encI i).toArray] w fun e w' => e = .returned (.agg (encI (stoneI i)).toArray) ∧ Below w.heap.size w w' := by
  obtain ⟨h1, h2, hb⟩ := heap2 w (.cells (encI i).toArray 28) (.cells (encI zeroI).toArray 28)
  have HK := Lib.hid (fldB h1).all
  have HBa : Hid (∀ W, Calls Try.prog 52 #[.agg (encI i).toArray] W fun e w' => e = .returned (.agg (encI (bareI i)).toArray) ∧ Below W.heap.size W w') := Lib.hid (bare_any i)
  have HPl : Hid (∀ W, Calls Try.prog 56 #[.int .u64 (i.seq : Int), .int .u64 1] W fun e w' => e = .returned (.int .u64 (plusN i.seq 1 : Int)) ∧ w' = W) := Lib.hid (fun W => plus_any i.seq 1 i.hs (by omega) W)
  have H2 : Hid (∀ w1, Below ((w.alloc (.cells (encI i).toArray 28)).alloc (.cells (encI zeroI).toArray 28)).heap.size ((w.alloc (.cells (encI i).toArray 28)).alloc (.cells (encI zeroI).toArray 28)) w1 → STW w i w1.heap.size (bareI i) (w1.alloc (.cells (encI (bareI i)).toArray 28))) := Lib.hid (fun w1 hw1 => by
    have l1 := (Array.getElem?_eq_some_iff.1 h1).1
    have l2 := (Array.getElem?_eq_some_iff.1 h2).1
    have hs := hw1.size
    have hba : Below w1.heap.size w1 (w1.alloc (.cells (encI (bareI i)).toArray 28)) := (Below.refl _ w1).alloc (Nat.le_refl _) _
    have hbb := hb.trans (hw1.mono hb.size)
    exact ⟨(hba.block _ (by omega)).trans ((hw1.block _ l1).trans h1), (hba.block _ (by omega)).trans ((hw1.block _ l2).trans h2), heap_alloc_new w1 _, hbb.trans (hba.mono hbb.size), by omega⟩)
  have H3 : Hid (∀ n W, STW w i n (bareI i) W → W.cell? ⟨w.heap.size, 20, none⟩ = some (.int .u64 (i.seq : Int)) ∧ W.cell? ⟨n, 20, none⟩ = some (.int .u64 (i.seq : Int)) ∧ W.frozen? ⟨n, 20, none⟩ = false ∧ STW w i n (stoneI i) (W.setCell ⟨n, 20, none⟩ (.int .u64 (plusN i.seq 1 : Int)))) := Lib.hid (fun n W r => by
    refine ⟨(fldB r.h1).seq, (fldB r.h3).seq, frozen_of_row _ _ _ _ _ r.h3, ?_⟩
    have hg := grownBy_setCell (World.grownBy.refl W (some n)) 20 (.int .u64 (plusN i.seq 1 : Int))
    have l1 := (Array.getElem?_eq_some_iff.1 r.h1).1
    have l2 := (Array.getElem?_eq_some_iff.1 r.h2).1
    have hn := r.hn
    exact ⟨(hg.block _ l1 (by intro e; injection e with e; omega)).trans r.h1, (hg.block _ l2 (by intro e; injection e with e; omega)).trans r.h2, putS i.hp (s := i.seq) r.h3 _, r.be.setCell (p := ⟨n, 20, none⟩) (by show w.heap.size ≤ n; omega) _, hn⟩)
  have H4 : Hid (∀ n W, STW w i n (stoneI i) W → (loadVar 28 ⟨n, 0, none⟩).run Try.prog W = .ok (.agg (encI (stoneI i)).toArray) W ∧ W.there (w.heap.size + 1) 0 28 ∧ (W.setCells (w.heap.size + 1) 0 (encI (stoneI i))).rangeAt (w.heap.size + 1) 0 (encI (stoneI i)) ∧ Below w.heap.size w (W.setCells (w.heap.size + 1) 0 (encI (stoneI i)))) := Lib.hid (fun n W r => by
    have ht : W.there (w.heap.size + 1) 0 28 := by
      have := row_there r.h2
      rw [encI_length] at this
      exact this
    exact ⟨load28 (row_range r.h3), ht, World.rangeAt_setCells_same W _ 0 _ (by rw [encI_length]; exact ht), below_cellsE (by omega) _ _ _ r.be⟩)
  have hl := encI_length (stoneI i)
  generalize hS : stoneI i = S at *
  generalize hBB : bareI i = Bb at *
  obtain ⟨Y, hY⟩ : ∃ Y, Y = (encI Bb).toArray := ⟨_, rfl⟩
  obtain ⟨J, hJ⟩ : ∃ Y, Y = (encI S).toArray := ⟨_, rfl⟩
  have HY := Lib.hid hY
  have HJ := Lib.hid hJ
  rw [← hY] at HBa H2
  rw [← hJ] at H4 ⊢
  obtain ⟨X, hX⟩ : ∃ X, X = (encI i).toArray := ⟨_, rfl⟩
  rw [← hX] at HK HBa H2 ⊢
  generalize plusN i.seq 1 = p at *
  generalize i.seq = sq at *
  clear h1 h2 hb hY hJ hX hS hBB
  go_enter Try.func26, Try.ntmps26
  go_upto_region 2 with (first
    | (with_reducible refine wpList_alloc28 (o := ⟨some 2, _, _, _, _, _⟩) (w.heap.size + 1) (by simp) rfl 2 rfl rfl ?_)
    | ((with_reducible refine wpList_loadV (op := ⟨some 4, _, _, _, _, _⟩) rfl 28 (.tmp 1) rfl _ ?_ _ HK.out ?_); rfl)
    | (go_at_call 52; (with_reducible refine (HBa.out _).mono ?_); rintro e w1 ⟨rfl, hw1⟩)
    | (with_reducible refine wpList_alloc28 (o := ⟨some 3, _, _, _, _, _⟩) w1.heap.size rfl rfl 3 rfl rfl ?_)
    | ((with_reducible refine wpList_store28n (o := ⟨none, _, _, _, _, _⟩) rfl (.tmp 3) (.tmp 5) rfl w1.heap.size rfl zeroI Bb ?_ ?_ ?_); rfl; (rw [← HY.out]; rfl); rw [← HY.out]))
  have r2 := H2.out _ hw1
  generalize w1.alloc (.cells Y 28) = w2 at *
  generalize w1.heap.size = n at *
  obtain ⟨c1, c2, c3, r3⟩ := H3.out _ _ r2
  obtain ⟨k1, k2, k3, k4⟩ := H4.out _ _ r3
  have K1 := Lib.hid k1
  have K2 := Lib.hid k2
  have K3 := Lib.hid k3
  have K4 := Lib.hid k4
  clear hw1 r2 r3 k1 k2 k3 k4 H2 H3 H4 HK
  go_upto_region 3 with (go_at_call 56; (with_reducible refine (HPl.out _).mono ?_); rintro e w3 ⟨rfl, rfl⟩)
  go_wp2_with (first
    | ((with_reducible refine wpList_loadV (op := ⟨some 10, _, _, _, _, _⟩) rfl 28 (.tmp 3) rfl ⟨n, 0, none⟩ ?_ _ K1.out ?_); rfl)
    | ((with_reducible refine wpList_store28 (o := ⟨none, _, _, _, _, _⟩) rfl (.tmp 2) (.tmp 10) rfl (w.heap.size + 1) S ?_ ?_ K2.out ?_); rfl; (rw [← HJ.out]; rfl)))
  rw [HJ.out]
  refine bodyPost_ret (v := .agg (encI S).toArray) ?_ rfl ?_
  · exact results_cell1 (p := 2) (ty := 28) rfl _ _ (w.heap.size + 1) 0 (encI S) _ rfl K3.out Try.underlying28 rfl (by rw [hl]; exact size28i)
  · exact ⟨rfl, K4.out⟩
end Go.Proofs.Ytkceipkgebgigaa
end
section
namespace Go.Proofs.Ytkceipkgebgigaa
open Go.Shelf Go.RowKit Go.Lib Go.Great
set_option maxRecDepth 100000
set_option maxHeartbeats 1000000
/-- Three numbers that tell an order: -1, 0 or 1. -/
structure Ord3 (α : Type) (f : α → α → Int) : Prop where
  three : ∀ a b, f a b = -1 ∨ f a b = 0 ∨ f a b = 1
  anti : ∀ a b, f a b = - f b a
  eq : ∀ a b, f a b = 0 → a = b
  trans : ∀ a b c, f a b = 1 → f b c = 1 → f a c = 1
theorem cmpN_ord : Ord3 Nat cmpN where
  three a b := by
    unfold cmpN
    split
    · exact .inl rfl
    · split
      · exact .inr (.inr rfl)
      · exact .inr (.inl rfl)
  anti a b := by unfold cmpN; split <;> split <;> (try split) <;> omega
  eq a b h := by unfold cmpN at h; split at h; simp at h; split at h; simp at h; omega
  trans a b c h1 h2 := by
    unfold cmpN at *
    split at h1 <;> simp at h1
    split at h2 <;> simp at h2
    rw [if_neg (by omega), if_pos (by omega)]
theorem compareBytes_anti : ∀ a b : List UInt8, compareBytes a b = - compareBytes b a
  | [], [] => rfl
  | [], _ :: _ => rfl
  | _ :: _, [] => rfl
  | x :: a, y :: b => by
    have ih := compareBytes_anti a b
    unfold compareBytes
    by_cases hxy : x < y
    · have hyx : ¬ y < x := fun h => by rw [UInt8.lt_iff_toNat_lt] at *; omega
      rw [if_pos hxy, if_neg hyx, if_pos hxy]
    · rw [if_neg hxy]
      by_cases hyx : y < x
      · rw [if_pos hyx, if_pos hyx]; rfl
      · rw [if_neg hyx, if_neg hyx, if_neg hxy]; exact ih
theorem compareBytes_trans : ∀ a b c : List UInt8, compareBytes a b = 1 → compareBytes b c = 1 → compareBytes a c = 1
  | [], [], _, h, _ => absurd h (by simp [compareBytes])
  | [], _ :: _, _, h, _ => absurd h (by simp [compareBytes])
  | _ :: _, [], [], _, h => absurd h (by simp [compareBytes])
  | _ :: _, [], _ :: _, _, h => absurd h (by simp [compareBytes])
  | _ :: _, _ :: _, [], _, _ => rfl
  | x :: a, y :: b, z :: c, h1, h2 => by
    have ih := compareBytes_trans a b c
    simp only [compareBytes, UInt8.lt_iff_toNat_lt] at h1 h2 ⊢
    by_cases hxy : x.toNat < y.toNat
    · rw [if_pos hxy] at h1; simp at h1
    · rw [if_neg hxy] at h1
      by_cases hyz : y.toNat < z.toNat
      · rw [if_pos hyz] at h2; simp at h2
      · rw [if_neg hyz] at h2
        rw [if_neg (by omega)]
        by_cases hzx : z.toNat < x.toNat
        · rw [if_pos hzx]
        · rw [if_neg hzx]
          rw [if_neg (by omega)] at h1 h2
          exact ih h1 h2
theorem bytes_ord : Ord3 (List UInt8) compareBytes where
  three a b := (less_cmp a b).2.2
  anti := compareBytes_anti
  eq a b h := (less_cmp a b).2.1.2 h
  trans := compareBytes_trans
/-- The order of what is told first, then by the next. -/
theorem lex_ord {α β : Type} {f : α → α → Int} {g : β → β → Int} (hf : Ord3 α f) (hg : Ord3 β g) : Ord3 (α × β) (fun x y => if f x.1 y.1 = 0 then g x.2 y.2 else f x.1 y.1) where
  three a b := by
    have := hf.three a.1 b.1
    have := hg.three a.2 b.2
    split <;> assumption
  anti a b := by
    have h1 := hf.anti a.1 b.1
    have h2 := hg.anti a.2 b.2
    by_cases h : f a.1 b.1 = 0
    · rw [if_pos h, if_pos (by omega)]; exact h2
    · rw [if_neg h, if_neg (by omega)]; exact h1
  eq a b h := by
    split at h
    · rename_i h0
      exact Prod.ext (hf.eq _ _ h0) (hg.eq _ _ h)
    · rename_i h0
      exact absurd h h0
  trans a b c h1 h2 := by
    split at h1
    · rename_i e1
      have e1' := hf.eq _ _ e1
      split at h2
      · rename_i e2
        rw [e1', if_pos e2]
        exact hg.trans _ _ _ h1 h2
      · rename_i e2
        rw [e1', if_neg e2]
        exact h2
    · rename_i e1
      split at h2
      · rename_i e2
        have e2' := hf.eq _ _ e2
        rw [← e2', if_neg e1]
        exact h1
      · have := hf.trans _ _ _ h1 h2
        rw [this]
        rfl
theorem pull_ord {α β : Type} {f : α → α → Int} (hf : Ord3 α f) (p : β → α) (hp : ∀ x y, p x = p y → x = y) : Ord3 β (fun x y => f (p x) (p y)) where
  three a b := hf.three _ _
  anti a b := hf.anti _ _
  eq a b h := hp _ _ (hf.eq _ _ h)
  trans a b c := hf.trans _ _ _
theorem flagN_inj {a b : Bool} (h : flagN a = flagN b) : a = b := by cases a <;> cases b <;> simp [flagN] at * 
abbrev KeyI : Type := Nat × Bool × Nat × Nat × List UInt8 × Nat × Nat × Nat × List UInt8
def keyI (x : Ins) : KeyI := (x.seq, x.gone, x.born, x.life, x.pub, x.pri, x.wei, x.port, x.tgt)
theorem cmpI_ord : Ord3 Ins cmpI := by
  have hb : Ord3 Bool (fun a b => cmpN (flagN a) (flagN b)) := pull_ord cmpN_ord flagN (fun _ _ => flagN_inj)
  have H := lex_ord cmpN_ord (lex_ord hb (lex_ord cmpN_ord (lex_ord cmpN_ord (lex_ord bytes_ord (lex_ord cmpN_ord (lex_ord cmpN_ord (lex_ord cmpN_ord bytes_ord)))))))
  have H2 := pull_ord H keyI (fun x y h => by
    simp only [keyI, Prod.mk.injEq] at h
    obtain ⟨a, b, c, d, e, f, g, h, i⟩ := h
    exact Ins.same e a c d b f g h i)
  have e : cmpI = fun x y => (fun x y : KeyI => if cmpN x.1 y.1 = 0 then (if cmpN (flagN x.2.1) (flagN y.2.1) = 0 then (if cmpN x.2.2.1 y.2.2.1 = 0 then (if cmpN x.2.2.2.1 y.2.2.2.1 = 0 then (if compareBytes x.2.2.2.2.1 y.2.2.2.2.1 = 0 then (if cmpN x.2.2.2.2.2.1 y.2.2.2.2.2.1 = 0 then (if cmpN x.2.2.2.2.2.2.1 y.2.2.2.2.2.2.1 = 0 then (if cmpN x.2.2.2.2.2.2.2.1 y.2.2.2.2.2.2.2.1 = 0 then compareBytes x.2.2.2.2.2.2.2.2 y.2.2.2.2.2.2.2.2 else cmpN x.2.2.2.2.2.2.2.1 y.2.2.2.2.2.2.2.1) else cmpN x.2.2.2.2.2.2.1 y.2.2.2.2.2.2.1) else cmpN x.2.2.2.2.2.1 y.2.2.2.2.2.1) else compareBytes x.2.2.2.2.1 y.2.2.2.2.1) else cmpN x.2.2.2.1 y.2.2.2.1) else cmpN x.2.2.1 y.2.2.1) else cmpN (flagN x.2.1) (flagN y.2.1)) else cmpN x.1 y.1) (keyI x) (keyI y) := by
    funext x y
    unfold cmpI listI keyI
    simp only [firstZ]
    by_cases hz : compareBytes x.tgt y.tgt = 0
    · rw [if_pos hz, hz]
    · rw [if_neg hz]
  rw [e]
  exact H2
theorem cmpI_stone {i : Ins} (h : i.seq < 18446744073709551615) : cmpI (stoneI i) i = 1 := by
  have e : (stoneI i).seq = i.seq + 1 := by show plusN i.seq 1 = _; unfold plusN; rw [if_neg (by omega)]
  have h1 : cmpN (i.seq + 1) i.seq = 1 := by unfold cmpN; rw [if_neg (by omega), if_pos (by omega)]
  unfold cmpI listI
  rw [e, firstZ, h1]
  rfl
theorem stone_good {i : Ins} (h : goodI i = true) : goodI (stoneI i) = true := by
  unfold goodI at *
  simp only [Bool.and_eq_true, decide_eq_true_eq] at h ⊢
  refine ⟨h.1, ?_⟩
  rw [if_pos (show (stoneI i).gone = true from rfl), eq_bare _ rfl]
  simp [stoneI]
theorem stone_end (i : Ins) : endI (stoneI i) = endI i := rfl
theorem over_later {i : Ins} {n m : Nat} (h : n < m) (ho : overI i n = true) : overI i m = true := by
  unfold overI at *
  rw [decide_eq_true_eq] at *
  omega
theorem left_pos (i : Ins) (n : Nat) : decide (0 < leftI i n) = aliveI i n := by
  rw [Bool.eq_iff_iff, decide_eq_true_eq]
  unfold leftI
  cases h : aliveI i n
  · simp
  · simp only [if_true, iff_true]
    unfold aliveI overI at h
    simp only [Bool.and_eq_true, decide_eq_true_eq, Bool.not_eq_true', decide_eq_false_iff_not] at h
    omega
end Go.Proofs.Ytkceipkgebgigaa
end
