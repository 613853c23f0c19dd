/- Stone, of the program and of the reference. No condition. -/
import Derived.Test.YtkceipkgebgigaaXIin
namespace Go.Proofs.Ytkceipkgebgigaa
open Go.Shelf Go.RowKit Go.Lib Go.Great
set_option maxRecDepth 100000
set_option maxHeartbeats 1000000
def stoneI (i : Ins) : Ins := ⟨i.pub, plusN i.seq 1, i.born, i.life, true, 0, 0, 0, [], i.hp, plusN_lt _ _, i.hb, i.hl, by omega, by omega, by omega⟩
theorem rstone_any (i : Ins) (w : World) : Calls Try.prog 27 #[.agg (encI i).toArray] w fun e w' => e = .returned (.agg (encI (stoneI i)).toArray) ∧ Below w.heap.size w w' := by
  obtain ⟨h1, h2, hb⟩ := heap2 w (.cells (encI i).toArray 28) (.cells (encI zeroI).toArray 28)
  have HF := fldB h1
  have HK := Lib.hid HF.pub
  have c1 := HF.seq
  have c2 := HF.born
  have c3 := HF.life
  have HBU : Hid (∀ W, (Instr.build 28 #[(0, .agg (bcells i.pub).toArray), (1, .int .u64 (plusN i.seq 1 : Int)), (2, .int .u64 (i.born : Int)), (3, .int .u32 (i.life : Int)), (4, .bool true)]).run Try.prog W = .ok (.agg (encI (stoneI i)).toArray) W) := Lib.hid (fun W => run_build28 i.pub i.hp (plusN i.seq 1) i.born i.life true W)
  obtain ⟨_, k2, kb⟩ := heap2 w (.cells (encI i).toArray 28) (.cells (encI (stoneI i)).toArray 28)
  have HR := Lib.hid (row_range k2)
  have HB := Lib.hid kb
  have hl := encI_length (stoneI i)
  have hs := i.hs
  have HP : Hid (plusN i.seq 1 = if 18446744073709551615 < i.seq + 1 then 18446744073709551615 else i.seq + 1) := Lib.hid rfl
  generalize stoneI i = j at *
  obtain ⟨J, hJ⟩ : ∃ J, J = (encI j).toArray := ⟨_, rfl⟩
  have HX := Lib.hid hJ
  rw [← hJ] at HBU HB ⊢
  generalize (encI i).toArray = X at *
  generalize (bcells i.pub).toArray = IX at *
  generalize plusN i.seq 1 = p at *
  generalize i.seq = s at *
  generalize i.born = b at *
  generalize i.life = l at *
  clear h1 h2 hb k2 kb hJ HF
  by_cases hm : s < 18446744073709551615
  · have hm' : (s : Int) < 18446744073709551615 := by omega
    have hp : p = s + 1 := by rw [HP.out, if_neg (by omega)]
    have hq : IntKind.u64.wrap ((s : Int) + 1) = (p : Int) := by rw [IntKind.wrap]; simp [IntKind.signed, IntKind.bits]; omega
    clear HP hp
    go_enter Try.func27, Try.ntmps27
    go_wp2_with (first
      | (with_reducible refine wpList_alloc28 (o := ⟨some 2, _, _, _, _, _⟩) (w.heap.size + 1) (by simp) rfl 2 rfl rfl ?_)
      | ((with_reducible refine wpList_loadV (op := ⟨some 11, _, _, _, _, _⟩) rfl 23 (.tmp 10) rfl _ ?_ _ HK.out ?_); rfl)
      | ((with_reducible refine wpList_buildV (o := ⟨some 17, _, _, _, _, _⟩) rfl 28 _ rfl _ ?_ _ (HBU.out _) ?_); (simp only [List.map_toArray, List.map_cons, List.map_nil]; rfl))
      | ((with_reducible refine wpList_store28n (o := ⟨none, _, _, _, _, _⟩) rfl (.tmp 2) (.tmp 17) rfl (w.heap.size + 1) ?_ zeroI j ?_ ?_ ?_); (simp); rfl; (rw [← HX.out]; rfl)))
    have hB := HB.out
    rw [HX.out] at hB ⊢
    refine bodyPost_ret (v := .agg (encI j).toArray) ?_ rfl ?_
    · exact results_cell1 (p := 2) (ty := 28) rfl _ _ (w.heap.size + 1) 0 (encI j) _ rfl HR.out Try.underlying28 rfl (by rw [hl]; exact size28i)
    · exact ⟨rfl, hB⟩
  · have hm' : ¬ (s : Int) < 18446744073709551615 := by omega
    have hp : p = s := by rw [HP.out, if_pos (by omega)]; omega
    subst hp
    clear HP
    go_enter Try.func27, Try.ntmps27
    go_wp2_with (first
      | (with_reducible refine wpList_alloc28 (o := ⟨some 2, _, _, _, _, _⟩) (w.heap.size + 1) (by simp) rfl 2 rfl rfl ?_)
      | ((with_reducible refine wpList_loadV (op := ⟨some 11, _, _, _, _, _⟩) rfl 23 (.tmp 10) rfl _ ?_ _ HK.out ?_); rfl)
      | ((with_reducible refine wpList_buildV (o := ⟨some 17, _, _, _, _, _⟩) rfl 28 _ rfl _ ?_ _ (HBU.out _) ?_); (simp only [List.map_toArray, List.map_cons, List.map_nil]; rfl))
      | ((with_reducible refine wpList_store28n (o := ⟨none, _, _, _, _, _⟩) rfl (.tmp 2) (.tmp 17) rfl (w.heap.size + 1) ?_ zeroI j ?_ ?_ ?_); (simp); rfl; (rw [← HX.out]; rfl)))
    have hB := HB.out
    rw [HX.out] at hB ⊢
    refine bodyPost_ret (v := .agg (encI j).toArray) ?_ rfl ?_
    · exact results_cell1 (p := 2) (ty := 28) rfl _ _ (w.heap.size + 1) 0 (encI j) _ rfl HR.out Try.underlying28 rfl (by rw [hl]; exact size28i)
    · exact ⟨rfl, hB⟩
/-- While Stone runs: the argument's block, what is told, the stone. -/
structure STW (w : World) (i : Ins) (n : Nat) (j : Ins) (W : World) : Prop where
  h1 : W.heap[w.heap.size]? = some (.cells (encI i).toArray 28 (0, 0))
  h2 : W.heap[w.heap.size + 1]? = some (.cells (encI zeroI).toArray 28 (0, 0))
  h3 : W.heap[n]? = some (.cells (encI j).toArray 28 (0, 0))
  be : Below w.heap.size w W
  hn : w.heap.size + 1 < n
theorem stone_any (i : Ins) (w : World) : Calls Try.prog 26 #[.agg (encI i).toArray] w fun e w' => e = .returned (.agg (encI (stoneI i)).toArray) ∧ Below w.heap.size w w' := by
  obtain ⟨h1, h2, hb⟩ := heap2 w (.cells (encI i).toArray 28) (.cells (encI zeroI).toArray 28)
  have HK := Lib.hid (fldB h1).all
  have HBa : Hid (∀ W, Calls Try.prog 52 #[.agg (encI i).toArray] W fun e w' => e = .returned (.agg (encI (bareI i)).toArray) ∧ Below W.heap.size W w') := Lib.hid (bare_any i)
  have HPl : Hid (∀ W, Calls Try.prog 56 #[.int .u64 (i.seq : Int), .int .u64 1] W fun e w' => e = .returned (.int .u64 (plusN i.seq 1 : Int)) ∧ w' = W) := Lib.hid (fun W => plus_any i.seq 1 i.hs (by omega) W)
  have H2 : Hid (∀ w1, Below ((w.alloc (.cells (encI i).toArray 28)).alloc (.cells (encI zeroI).toArray 28)).heap.size ((w.alloc (.cells (encI i).toArray 28)).alloc (.cells (encI zeroI).toArray 28)) w1 → STW w i w1.heap.size (bareI i) (w1.alloc (.cells (encI (bareI i)).toArray 28))) := Lib.hid (fun w1 hw1 => by
    have l1 := (Array.getElem?_eq_some_iff.1 h1).1
    have l2 := (Array.getElem?_eq_some_iff.1 h2).1
    have hs := hw1.size
    have hba : Below w1.heap.size w1 (w1.alloc (.cells (encI (bareI i)).toArray 28)) := (Below.refl _ w1).alloc (Nat.le_refl _) _
    have hbb := hb.trans (hw1.mono hb.size)
    exact ⟨(hba.block _ (by omega)).trans ((hw1.block _ l1).trans h1), (hba.block _ (by omega)).trans ((hw1.block _ l2).trans h2), heap_alloc_new w1 _, hbb.trans (hba.mono hbb.size), by omega⟩)
  have H3 : Hid (∀ n W, STW w i n (bareI i) W → W.cell? ⟨w.heap.size, 20, none⟩ = some (.int .u64 (i.seq : Int)) ∧ W.cell? ⟨n, 20, none⟩ = some (.int .u64 (i.seq : Int)) ∧ W.frozen? ⟨n, 20, none⟩ = false ∧ STW w i n (stoneI i) (W.setCell ⟨n, 20, none⟩ (.int .u64 (plusN i.seq 1 : Int)))) := Lib.hid (fun n W r => by
    refine ⟨(fldB r.h1).seq, (fldB r.h3).seq, frozen_of_row _ _ _ _ _ r.h3, ?_⟩
    have hg := grownBy_setCell (World.grownBy.refl W (some n)) 20 (.int .u64 (plusN i.seq 1 : Int))
    have l1 := (Array.getElem?_eq_some_iff.1 r.h1).1
    have l2 := (Array.getElem?_eq_some_iff.1 r.h2).1
    have hn := r.hn
    exact ⟨(hg.block _ l1 (by intro e; injection e with e; omega)).trans r.h1, (hg.block _ l2 (by intro e; injection e with e; omega)).trans r.h2, putS i.hp (s := i.seq) r.h3 _, r.be.setCell (p := ⟨n, 20, none⟩) (by show w.heap.size ≤ n; omega) _, hn⟩)
  have H4 : Hid (∀ n W, STW w i n (stoneI i) W → (loadVar 28 ⟨n, 0, none⟩).run Try.prog W = .ok (.agg (encI (stoneI i)).toArray) W ∧ W.there (w.heap.size + 1) 0 28 ∧ (W.setCells (w.heap.size + 1) 0 (encI (stoneI i))).rangeAt (w.heap.size + 1) 0 (encI (stoneI i)) ∧ Below w.heap.size w (W.setCells (w.heap.size + 1) 0 (encI (stoneI i)))) := Lib.hid (fun n W r => by
    have ht : W.there (w.heap.size + 1) 0 28 := by
      have := row_there r.h2
      rw [encI_length] at this
      exact this
    exact ⟨load28 (row_range r.h3), ht, World.rangeAt_setCells_same W _ 0 _ (by rw [encI_length]; exact ht), below_cellsE (by omega) _ _ _ r.be⟩)
  have hl := encI_length (stoneI i)
  generalize hS : stoneI i = S at *
  generalize hBB : bareI i = Bb at *
  obtain ⟨Y, hY⟩ : ∃ Y, Y = (encI Bb).toArray := ⟨_, rfl⟩
  obtain ⟨J, hJ⟩ : ∃ Y, Y = (encI S).toArray := ⟨_, rfl⟩
  have HY := Lib.hid hY
  have HJ := Lib.hid hJ
  rw [← hY] at HBa H2
  rw [← hJ] at H4 ⊢
  obtain ⟨X, hX⟩ : ∃ X, X = (encI i).toArray := ⟨_, rfl⟩
  rw [← hX] at HK HBa H2 ⊢
  generalize plusN i.seq 1 = p at *
  generalize i.seq = sq at *
  clear h1 h2 hb hY hJ hX hS hBB
  go_enter Try.func26, Try.ntmps26
  go_upto_region 2 with (first
    | (with_reducible refine wpList_alloc28 (o := ⟨some 2, _, _, _, _, _⟩) (w.heap.size + 1) (by simp) rfl 2 rfl rfl ?_)
    | ((with_reducible refine wpList_loadV (op := ⟨some 4, _, _, _, _, _⟩) rfl 28 (.tmp 1) rfl _ ?_ _ HK.out ?_); rfl)
    | (go_at_call 52; (with_reducible refine (HBa.out _).mono ?_); rintro e w1 ⟨rfl, hw1⟩)
    | (with_reducible refine wpList_alloc28 (o := ⟨some 3, _, _, _, _, _⟩) w1.heap.size rfl rfl 3 rfl rfl ?_)
    | ((with_reducible refine wpList_store28n (o := ⟨none, _, _, _, _, _⟩) rfl (.tmp 3) (.tmp 5) rfl w1.heap.size rfl zeroI Bb ?_ ?_ ?_); rfl; (rw [← HY.out]; rfl); rw [← HY.out]))
  have r2 := H2.out _ hw1
  generalize w1.alloc (.cells Y 28) = w2 at *
  generalize w1.heap.size = n at *
  obtain ⟨c1, c2, c3, r3⟩ := H3.out _ _ r2
  obtain ⟨k1, k2, k3, k4⟩ := H4.out _ _ r3
  have K1 := Lib.hid k1
  have K2 := Lib.hid k2
  have K3 := Lib.hid k3
  have K4 := Lib.hid k4
  clear hw1 r2 r3 k1 k2 k3 k4 H2 H3 H4 HK
  go_upto_region 3 with (go_at_call 56; (with_reducible refine (HPl.out _).mono ?_); rintro e w3 ⟨rfl, rfl⟩)
  go_wp2_with (first
    | ((with_reducible refine wpList_loadV (op := ⟨some 10, _, _, _, _, _⟩) rfl 28 (.tmp 3) rfl ⟨n, 0, none⟩ ?_ _ K1.out ?_); rfl)
    | ((with_reducible refine wpList_store28 (o := ⟨none, _, _, _, _, _⟩) rfl (.tmp 2) (.tmp 10) rfl (w.heap.size + 1) S ?_ ?_ K2.out ?_); rfl; (rw [← HJ.out]; rfl)))
  rw [HJ.out]
  refine bodyPost_ret (v := .agg (encI S).toArray) ?_ rfl ?_
  · exact results_cell1 (p := 2) (ty := 28) rfl _ _ (w.heap.size + 1) 0 (encI S) _ rfl K3.out Try.underlying28 rfl (by rw [hl]; exact size28i)
  · exact ⟨rfl, K4.out⟩
end Go.Proofs.Ytkceipkgebgigaa
