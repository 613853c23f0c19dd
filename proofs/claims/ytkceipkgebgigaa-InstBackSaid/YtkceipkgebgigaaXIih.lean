/- Cmp of the program. No condition. -/
import Derived.Test.YtkceipkgebgigaaXIig
import Derived.StillTailTactics
import Derived.Great.BuildSlice
namespace Go.Proofs.Ytkceipkgebgigaa
open Go.Shelf Go.RowKit Go.Lib Go.Great
set_option maxRecDepth 100000
set_option maxHeartbeats 2000000
theorem region_tail {P : Program} {id : Nat} {Q : Exit → Act → World → Prop} {a : Act} {w : World} {l : List Oper} (n : Nat) (W1 : World) (hW : W1 = { w with drawn := w.drawn + 1 }) (hm : P.follows .mixedOrders = true) (hB : Region.lexTailB .any l.toArray n = true)
    (h : wpStill P l.toArray W1 (fun a' => wpList P l.toArray Q (l.drop n) a' W1) (l.take n) a) : (Code.region id l.toArray true).wp P Q a w := by
  subst hW
  exact wp_region_still_tail n hm hB h
/-- What decides, in its order. -/
def listI (x y : Ins) : List Int := [cmpN x.seq y.seq, cmpN (flagN x.gone) (flagN y.gone), cmpN x.born y.born, cmpN x.life y.life, compareBytes x.pub y.pub, cmpN x.pri y.pri, cmpN x.wei y.wei, cmpN x.port y.port, compareBytes x.tgt y.tgt]
/-- Which one is newer. -/
def cmpI (x y : Ins) : Int := firstZ (listI x y)
theorem compareBytes_self : ∀ l : List UInt8, compareBytes l l = 0
  | [] => rfl
  | a :: l => by
    have : ¬ a < a := UInt8.lt_irrefl a
    simp only [compareBytes, this, if_false]
    exact compareBytes_self l
theorem cmpN_self (a : Nat) : cmpN a a = 0 := by simp [cmpN]
theorem cmpI_self (x : Ins) : cmpI x x = 0 := by
  unfold cmpI listI
  simp only [cmpN_self, compareBytes_self, firstZ, if_true]
/-- Nine numbers in a slice of their own. -/
theorem run_build9 (a b c d e f g h i : Int) (w : World) : (Instr.buildSlice 82 9 #[(0, .int .i64 a), (1, .int .i64 b), (2, .int .i64 c), (3, .int .i64 d), (4, .int .i64 e), (5, .int .i64 f), (6, .int .i64 g), (7, .int .i64 h), (8, .int .i64 i)]).run Try.prog w = .ok (.slice (some ⟨w.heap.size, 0, none⟩) 9 9) (w.alloc (.cells #[.int .i64 a, .int .i64 b, .int .i64 c, .int .i64 d, .int .i64 e, .int .i64 f, .int .i64 g, .int .i64 h, .int .i64 i] 3)) := by kernel_rfl
theorem or9 (L : List Int) (hl : L.length = 9) (w : World) (g : Nat) (hg : w.heap[g]? = some (.cells #[.int .i64 L[0]!, .int .i64 L[1]!, .int .i64 L[2]!, .int .i64 L[3]!, .int .i64 L[4]!, .int .i64 L[5]!, .int .i64 L[6]!, .int .i64 L[7]!, .int .i64 L[8]!] 3 (0, 0))) :
    Calls Try.prog 57 #[.slice (some ⟨g, 0, none⟩) 9 9] w fun e w' => e = .returned (.int .i64 (firstZ L)) ∧ w' = w := by
  have := or_any L g 9 (by omega) w (fun j hj => by
    rw [cell_of_row w g j _ 3 (0, 0) hg]
    have : j = 0 ∨ j = 1 ∨ j = 2 ∨ j = 3 ∨ j = 4 ∨ j = 5 ∨ j = 6 ∨ j = 7 ∨ j = 8 := by omega
    rcases this with rfl | rfl | rfl | rfl | rfl | rfl | rfl | rfl | rfl <;> rfl)
  rwa [hl] at this
theorem wpList_bslice9 {w : World} {ops : Array Oper} {rest : List Oper} {o : Oper} {a : Act} {Q : Exit → Act → World → Prop} (hg : o.guard = none) (ps : Array (Nat × Operand)) (ho : o.op = .buildSlice 82 9 ps) (a1 a2 a3 a4 a5 a6 a7 a8 a9 : Int)
    (hv : (ps.map fun (i, x) => (i, a.eval x)) = #[(0, .int .i64 a1), (1, .int .i64 a2), (2, .int .i64 a3), (3, .int .i64 a4), (4, .int .i64 a5), (5, .int .i64 a6), (6, .int .i64 a7), (7, .int .i64 a8), (8, .int .i64 a9)])
    (h : wpList Try.prog ops Q rest (a.put o.dst (.slice (some ⟨w.heap.size, 0, none⟩) 9 9)) (w.alloc (.cells #[.int .i64 a1, .int .i64 a2, .int .i64 a3, .int .i64 a4, .int .i64 a5, .int .i64 a6, .int .i64 a7, .int .i64 a8, .int .i64 a9] 3))) : wpList Try.prog ops Q (o :: rest) a w :=
  wpList_plain hg fun _ hK => by
    have hr := run_build9 a1 a2 a3 a4 a5 a6 a7 a8 a9 w
    unfold Oper.wp execOp
    simp only [ho, hv, Sem.run_bind, hr, Result.andThen_ok]
    exact hK _ _ h
theorem icmp_any (x y : Ins) (w : World) : Calls Try.prog 24 #[.agg (encI x).toArray, .agg (encI y).toArray] w fun e w' => e = .returned (.int .i64 (cmpI x y)) ∧ Below w.heap.size w w' := by
  obtain ⟨h1, h2, hb⟩ := heap2 w (.cells (encI x).toArray 28) (.cells (encI y).toArray 28)
  have HB := Lib.hid hb
  have F1 := fldB h1
  have F2 := fldB h2
  have HK1 := Lib.hid F1.all
  have HK2 := Lib.hid F2.all
  have he := fun W => eqIns x y W
  cases hq : eqI x y with
  | true =>
    rw [hq] at he
    have hz : cmpI x y = 0 := by rw [(eqI_iff x y).1 hq, cmpI_self]
    rw [hz]
    generalize (encI x).toArray = X at *
    generalize (encI y).toArray = Y at *
    clear F1 F2 h1 h2 hb hz
    go_enter Try.func24, Try.ntmps24
    go_wp2_with (first
      | ((with_reducible refine wpList_loadV (op := ⟨some 5, _, _, _, _, _⟩) rfl 28 (.tmp 2) rfl _ ?_ _ HK1.out ?_); rfl)
      | ((with_reducible refine wpList_loadV (op := ⟨some 6, _, _, _, _, _⟩) rfl 28 (.tmp 3) rfl _ ?_ _ HK2.out ?_); rfl))
    go_ret
    exact ⟨rfl, HB.out⟩
  | false =>
    rw [hq] at he
    obtain ⟨W0, hW0⟩ : ∃ W0, W0 = (w.alloc (.cells (encI x).toArray 28)).alloc (.cells (encI y).toArray 28) := ⟨_, rfl⟩
    have HW0 := Lib.hid hW0
    rw [← hW0] at h1 h2
    obtain ⟨W1, hW1⟩ : ∃ W1, W1 = { W0 with drawn := W0.drawn + 1 } := ⟨_, rfl⟩
    have HW1 := Lib.hid hW1
    have hbd : Below W0.heap.size W0 W1 := by rw [hW1]; exact ⟨rfl, rfl, rfl, Nat.le_refl _, fun _ _ => rfl⟩
    have G1 := fldB (show W1.heap[w.heap.size]? = _ by rw [hW1]; exact h1)
    have G2 := fldB (show W1.heap[w.heap.size + 1]? = _ by rw [hW1]; exact h2)
    have k0 := G1.seq
    have k1 := G1.gone
    have k2 := G1.born
    have k3 := G1.life
    have k5 := G1.pri
    have k6 := G1.wei
    have k7 := G1.port
    have k8 := G1.tgt
    have l0 := G2.seq
    have l1 := G2.gone
    have l2 := G2.born
    have l3 := G2.life
    have l5 := G2.pri
    have l6 := G2.wei
    have l7 := G2.port
    have l8 := G2.tgt
    have hs1 : w.heap.size < W1.heap.size := by rw [hW1]; exact (Array.getElem?_eq_some_iff.1 h1).1
    have hs2 : w.heap.size + 1 < W1.heap.size := by rw [hW1]; exact (Array.getElem?_eq_some_iff.1 h2).1
    have P1 : BAt W1 W1.heap.size (some ⟨w.heap.size, 0, none⟩) x.pub := .inr ⟨_, 0, rfl, hs1, fun j hj => (range_frontI (show W1.rangeAt w.heap.size 0 (encI x) from row_range (by rw [hW1]; exact h1))) j _ (bcells_get x.pub j hj)⟩
    have P2 : BAt W1 W1.heap.size (some ⟨w.heap.size + 1, 0, none⟩) y.pub := .inr ⟨_, 0, rfl, hs2, fun j hj => (range_frontI (show W1.rangeAt (w.heap.size + 1) 0 (encI y) from row_range (by rw [hW1]; exact h2))) j _ (bcells_get y.pub j hj)⟩
    have HP := Lib.hid (bcmp_any _ _ 20 20 20 20 x.pub y.pub W1 x.hp y.hp P1 P2)
    have HS := Lib.hid (scmp_any x.tgt y.tgt W1)
    have HFl := Lib.hid (fun b => flag_any b W1)
    have H64 := Lib.hid (fun a b => cmp64 a b W1)
    have H32 := Lib.hid (fun a b => cmp32 a b W1)
    have H16 := Lib.hid (fun a b => cmp16 a b W1)
    have HO := Lib.hid (or9 (listI x y) rfl)
    have HB9 := Lib.hid run_build9
    have HBE : Hid (∀ o, Below w.heap.size w (W1.alloc o)) := Lib.hid (fun o => by
      have hb0 : Below w.heap.size w W0 := by rw [hW0]; exact hb
      have hb1 := hb0.trans (hbd.mono hb0.size)
      exact hb1.alloc hb1.size o)
    have HNX : Hid (∀ o, (W1.alloc o).heap[W1.heap.size]? = some o) := Lib.hid (fun o => heap_alloc_new W1 o)
    change Hid (∀ w g, w.heap[g]? = some (.cells #[.int .i64 (cmpN x.seq y.seq), .int .i64 (cmpN (flagN x.gone) (flagN y.gone)), .int .i64 (cmpN x.born y.born), .int .i64 (cmpN x.life y.life), .int .i64 (compareBytes x.pub y.pub), .int .i64 (cmpN x.pri y.pri), .int .i64 (cmpN x.wei y.wei), .int .i64 (cmpN x.port y.port), .int .i64 (compareBytes x.tgt y.tgt)] 3 (0, 0)) → Calls Try.prog 57 #[.slice (some ⟨g, 0, none⟩) 9 9] w fun e w' => e = .returned (.int .i64 (cmpI x y)) ∧ w' = w) at HO
    generalize (encI x).toArray = X at *
    generalize (encI y).toArray = Y at *
    generalize cmpI x y = r at *
    generalize compareBytes x.pub y.pub = cp at *
    generalize compareBytes x.tgt y.tgt = ct at *
    generalize bstr x.tgt = T1 at *
    generalize bstr y.tgt = T2 at *
    generalize x.seq = x0 at *
    generalize x.gone = x1 at *
    generalize x.born = x2 at *
    generalize x.life = x3 at *
    generalize x.pri = x5 at *
    generalize x.wei = x6 at *
    generalize x.port = x7 at *
    generalize y.seq = y0 at *
    generalize y.gone = y1 at *
    generalize y.born = y2 at *
    generalize y.life = y3 at *
    generalize y.pri = y5 at *
    generalize y.wei = y6 at *
    generalize y.port = y7 at *
    clear F1 F2 h1 h2 hb hq G1 G2 hbd P1 P2 hs1 hs2
    have hW1c := hW1
    clear hW1 hW0
    go_enter Try.func24, Try.ntmps24
    go_upto_region 3 with (first
      | ((with_reducible refine wpList_loadV (op := ⟨some 5, _, _, _, _, _⟩) rfl 28 (.tmp 2) rfl _ ?_ _ HK1.out ?_); rfl)
      | ((with_reducible refine wpList_loadV (op := ⟨some 6, _, _, _, _, _⟩) rfl 28 (.tmp 3) rfl _ ?_ _ HK2.out ?_); rfl))
    rw [← HW0.out]
    clear hW1c
    refine region_tail 47 W1 HW1.out (by kernel_rfl) (by kernel_rfl) ?_
    simp only [List.take_succ_cons, List.take_zero, List.drop_succ_cons, List.drop_zero]
    repeat (first
      | still_step
      | still_call (HP.out)
      | still_call (HS.out)
      | still_call (H64.out _ _)
      | still_call (H32.out _ _)
      | still_call (H16.out _ _)
      | still_call (HFl.out _))
    refine wpStill_nil ?_
    go_wp2_with (first
      | ((with_reducible refine wpList_bslice9 (o := ⟨some 55, _, _, _, _, _⟩) rfl _ rfl _ _ _ _ _ _ _ _ _ ?_ ?_); (simp only [List.map_toArray, List.map_cons, List.map_nil]; rfl))
      | (go_at_call 57; (with_reducible refine (HO.out _ _ (HNX.out _)).mono ?_); rintro e w1 ⟨rfl, rfl⟩))
    go_ret
    exact ⟨rfl, HBE.out _⟩
end Go.Proofs.Ytkceipkgebgigaa
