/- Contract of the reference's Read of layer addr. Conditions: fewer than 1000000 bytes. -/
import Derived.Test.YtieeffebecghiaaDoorPArd
namespace Go.Proofs.YtieeffebecghiaaDoor
set_option maxRecDepth 100000
set_option maxHeartbeats 1000000
open Go.RowKit Go.Lib Go.Great

theorem size53 : (Tryd.prog.info? 28).map (·.size) = some 2 := by kernel_rfl
/-- What Read tells. -/
def readV (xs : List UInt8) : Value :=
  if xs.length = 6 ∧ getN (xs.take 4) ≠ 0 ∧ getN ((xs.drop 4).take 2) ≠ 0 then .tuple #[.agg (adr (getN (xs.take 4)) (getN ((xs.drop 4).take 2))), .int .i64 0] else .tuple #[.agg (adr 0 0), .int .i64 10]
theorem rread_len (A : Option Addr) (n c : Nat) (hn : n ≠ 6) (w : World) : Calls Tryd.prog 18 #[.slice A n c] w fun e w' => e = .returned (.tuple #[.agg (adr 0 0), .int .i64 10]) ∧ Below w.heap.size w w' := by
  have hn' : ¬ (n : Int) = 6 := by omega
  go_enter Tryd.func18, Tryd.ntmps18
  go_wp2
  refine bodyPost_ret (v := .tuple #[.agg (adr 0 0), .int .i64 10]) ?_ rfl ?_
  · exact results_cell_tmpS (p := 2) (ty := 28) (q := 3) rfl _ _ w.heap.size 0 [.int .u32 0, .int .u16 0] _ (.int .i64 10) rfl rfl (row_range (heap_alloc_new w _)) Tryd.underlying28 rfl size53
  · exact ⟨rfl, (Below.refl _ w).alloc (Nat.le_refl _) _⟩
theorem rread_six (A : Option Addr) (c : Nat) (xs : List UInt8) (hx : xs.length = 6) (w : World) (hA : BAt w w.heap.size A xs) : Calls Tryd.prog 18 #[.slice A 6 c] w fun e w' => e = .returned (readV xs) ∧ Below w.heap.size w w' := by
  have hb0 : Below w.heap.size w (w.alloc (.cells #[.int .u32 0, .int .u16 0] 28)) := (Below.refl _ w).alloc (Nat.le_refl _) _
  have hA0 : BAt (w.alloc (.cells #[.int .u32 0, .int .u16 0] 28)) (w.alloc (.cells #[.int .u32 0, .int .u16 0] 28)).heap.size A xs := by
    have hs : BsIs xs (.slice A xs.length xs.length) w := ⟨A, xs.length, rfl, Nat.le_refl _, hA⟩
    obtain ⟨A', c', e, _, h⟩ := BsIs.keep _ _ _ hb0 hs
    injection e with e1
    rw [e1]
    exact h
  have G1 := Lib.hid (rget_yes A c xs 0 4 _ hA0 (by omega) (by omega) (by omega) (by omega))
  have G2 := Lib.hid (rget_yes A c xs 4 2 _ hA0 (by omega) (by omega) (by omega) (by omega))
  rw [hx] at G1 G2
  have l1 : getN (xs.take 4) < 4294967296 := by
    have := getN_lt (xs.take 4)
    rw [List.length_take, hx] at this
    simpa using this
  have l2 : getN ((xs.drop 4).take 2) < 65536 := by
    have := getN_lt ((xs.drop 4).take 2)
    rw [List.length_take, List.length_drop, hx] at this
    simpa using this
  have HR : Hid (readV xs = if getN (xs.take 4) ≠ 0 ∧ getN ((xs.drop 4).take 2) ≠ 0 then .tuple #[.agg (adr (getN (xs.take 4)) (getN ((xs.drop 4).take 2))), .int .i64 0] else .tuple #[.agg (adr 0 0), .int .i64 10]) := Lib.hid (by unfold readV; simp [hx])
  rw [List.drop_zero] at G1
  change Hid (Calls Tryd.prog 29 #[.slice A 6 c, .int .i64 0, .int .i64 4] _ _) at G1
  change Hid (Calls Tryd.prog 29 #[.slice A 6 c, .int .i64 4, .int .i64 2] _ _) at G2
  rw [HR.out]
  generalize getN (xs.take 4) = h at G1 l1
  generalize getN ((xs.drop 4).take 2) = p at G2 l2
  have HG := Lib.hid (fun W => rgood_any h p W)
  have HB0 := Lib.hid hb0
  clear hb0 hA0 HR hx hA
  have hgd : goodB h p = decide (h ≠ 0 ∧ p ≠ 0) := rfl
  by_cases hg : h ≠ 0 ∧ p ≠ 0
  · rw [if_pos hg]
    rw [hgd, decide_eq_true hg] at HG
    clear hgd hg
    unfold adr at *
    go_enter Tryd.func18, Tryd.ntmps18
    go_upto_region 6 with (first
      | (go_at_call 29; (with_reducible refine G1.out.mono ?_); rintro e w1 ⟨rfl, rfl⟩)
      | (go_at_call 29; (with_reducible refine G2.out.mono ?_); rintro e w2 ⟨rfl, rfl⟩))
    obtain ⟨k1, k2, hb2⟩ := heap2 w (.cells #[.int .u32 0, .int .u16 0] 28) (.cells #[.int .u32 (h : Int), .int .u16 (p : Int)] 28)
    generalize (w.alloc (.cells #[.int .u32 0, .int .u16 0] 28)).alloc (.cells #[.int .u32 (h : Int), .int .u16 (p : Int)] 28) = W2 at k1 k2 hb2 ⊢
    have g1 := (Array.getElem?_eq_some_iff.1 k1).1
    have g2 := (Array.getElem?_eq_some_iff.1 k2).1
    have HL : Hid (∀ W, Below W2.heap.size W2 W → (loadVar 28 ⟨w.heap.size + 1, 0, none⟩).run Tryd.prog W = .ok (.agg #[.int .u32 (h : Int), .int .u16 (p : Int)]) W) := Lib.hid (fun W hW => run_loadVar_mid W (w.heap.size + 1) 0 28 [.int .u32 (h : Int), .int .u16 (p : Int)] _ (row_range (cs := [.int .u32 (h : Int), .int .u16 (p : Int)]) ((hW.block _ g2).trans k2)) Tryd.underlying28 rfl size53)
    have HL2 := Lib.hid (HL.out W2 (Below.refl _ _))
    have HR : Hid (∀ W, Below W2.heap.size W2 W → W.heap[w.heap.size]? = some (.cells #[.int .u32 0, .int .u16 0] 28 (0, 0))) := Lib.hid (fun W hW => (hW.block _ g1).trans k1)
    have HB2 := Lib.hid hb2
    clear k1 k2 hb2 g1 g2
    go_upto_region 8 with (first
      | ((with_reducible refine wpList_loadV (op := ⟨some 28, _, _, _, _, _⟩) rfl 28 (.tmp 8) rfl _ ?_ _ HL2.out ?_); rfl)
      | (go_at_call 7; (with_reducible refine (HG.out _).mono ?_); rintro e w3 ⟨rfl, hb3⟩))
    have HL3 := Lib.hid (HL.out w3 hb3)
    have r3 := HR.out w3 hb3
    have fr0 := frozen_of_row w3 w.heap.size 0 _ 28 r3
    have fr1 := frozen_of_row w3 w.heap.size 1 _ 28 r3
    have z0 : w3.cell? ⟨w.heap.size, 0, none⟩ = some (.int .u32 0) := by rw [cell_of_row _ _ 0 _ 28 (0, 0) r3]; rfl
    have z1 : w3.cell? ⟨w.heap.size, 1, none⟩ = some (.int .u16 0) := by rw [cell_of_row _ _ 1 _ 28 (0, 0) r3]; rfl
    have s1 := heap_setCell_same w3 w.heap.size 0 _ 28 (.int .u32 (h : Int)) r3
    have s2 := heap_setCell_same _ w.heap.size 1 _ 28 (.int .u16 (p : Int)) s1
    have HQ := Lib.hid (row_range (cs := [.int .u32 (h : Int), .int .u16 (p : Int)]) s2)
    have HF := Lib.hid (((HB2.out.trans (hb3.mono HB2.out.size)).setCell (p := ⟨w.heap.size, 0, none⟩) (by simp) (.int .u32 (h : Int))).setCell (p := ⟨w.heap.size, 1, none⟩) (by simp) (.int .u16 (p : Int)))
    clear hb3 r3 s1 s2
    go_wp2_with (((with_reducible refine wpList_loadV (op := ⟨some 32, _, _, _, _, _⟩) rfl 28 (.tmp 8) rfl _ ?_ _ HL3.out ?_); rfl))
    refine bodyPost_ret (v := .tuple #[.agg #[.int .u32 (h : Int), .int .u16 (p : Int)], .int .i64 0]) ?_ rfl ?_
    · exact results_cell_tmpS (p := 2) (ty := 28) (q := 3) rfl _ _ w.heap.size 0 [.int .u32 (h : Int), .int .u16 (p : Int)] _ (.int .i64 0) rfl rfl HQ.out Tryd.underlying28 rfl size53
    · exact ⟨rfl, HF.out⟩
  · rw [if_neg hg]
    rw [hgd, decide_eq_false hg] at HG
    clear hgd hg
    unfold adr at *
    go_enter Tryd.func18, Tryd.ntmps18
    go_upto_region 6 with (first
      | (go_at_call 29; (with_reducible refine G1.out.mono ?_); rintro e w1 ⟨rfl, rfl⟩)
      | (go_at_call 29; (with_reducible refine G2.out.mono ?_); rintro e w2 ⟨rfl, rfl⟩))
    obtain ⟨k1, k2, hb2⟩ := heap2 w (.cells #[.int .u32 0, .int .u16 0] 28) (.cells #[.int .u32 (h : Int), .int .u16 (p : Int)] 28)
    generalize (w.alloc (.cells #[.int .u32 0, .int .u16 0] 28)).alloc (.cells #[.int .u32 (h : Int), .int .u16 (p : Int)] 28) = W2 at k1 k2 hb2 ⊢
    have g1 := (Array.getElem?_eq_some_iff.1 k1).1
    have g2 := (Array.getElem?_eq_some_iff.1 k2).1
    have HL : Hid (∀ W, Below W2.heap.size W2 W → (loadVar 28 ⟨w.heap.size + 1, 0, none⟩).run Tryd.prog W = .ok (.agg #[.int .u32 (h : Int), .int .u16 (p : Int)]) W) := Lib.hid (fun W hW => run_loadVar_mid W (w.heap.size + 1) 0 28 [.int .u32 (h : Int), .int .u16 (p : Int)] _ (row_range (cs := [.int .u32 (h : Int), .int .u16 (p : Int)]) ((hW.block _ g2).trans k2)) Tryd.underlying28 rfl size53)
    have HL2 := Lib.hid (HL.out W2 (Below.refl _ _))
    have HR : Hid (∀ W, Below W2.heap.size W2 W → W.heap[w.heap.size]? = some (.cells #[.int .u32 0, .int .u16 0] 28 (0, 0))) := Lib.hid (fun W hW => (hW.block _ g1).trans k1)
    have HB2 := Lib.hid hb2
    clear k1 k2 hb2 g1 g2
    go_upto_region 7 with (first
      | ((with_reducible refine wpList_loadV (op := ⟨some 28, _, _, _, _, _⟩) rfl 28 (.tmp 8) rfl _ ?_ _ HL2.out ?_); rfl)
      | (go_at_call 7; (with_reducible refine (HG.out _).mono ?_); rintro e w3 ⟨rfl, hb3⟩))
    have HL3 := Lib.hid (HL.out w3 hb3)
    have r3 := HR.out w3 hb3
    have fr0 := frozen_of_row w3 w.heap.size 0 _ 28 r3
    have fr1 := frozen_of_row w3 w.heap.size 1 _ 28 r3
    have z0 : w3.cell? ⟨w.heap.size, 0, none⟩ = some (.int .u32 0) := by rw [cell_of_row _ _ 0 _ 28 (0, 0) r3]; rfl
    have z1 : w3.cell? ⟨w.heap.size, 1, none⟩ = some (.int .u16 0) := by rw [cell_of_row _ _ 1 _ 28 (0, 0) r3]; rfl
    have s1 := heap_setCell_same w3 w.heap.size 0 _ 28 (.int .u32 0) r3
    have s2 := heap_setCell_same _ w.heap.size 1 _ 28 (.int .u16 0) s1
    have HQ := Lib.hid (row_range (cs := [.int .u32 0, .int .u16 0]) s2)
    have HF := Lib.hid (((HB2.out.trans (hb3.mono HB2.out.size)).setCell (p := ⟨w.heap.size, 0, none⟩) (by simp) (.int .u32 0)).setCell (p := ⟨w.heap.size, 1, none⟩) (by simp) (.int .u16 0))
    clear hb3 r3 s1 s2
    go_wp2_with fail
    refine bodyPost_ret (v := .tuple #[.agg #[.int .u32 0, .int .u16 0], .int .i64 10]) ?_ rfl ?_
    · exact results_cell_tmpS (p := 2) (ty := 28) (q := 3) rfl _ _ w.heap.size 0 [.int .u32 0, .int .u16 0] _ (.int .i64 10) rfl rfl HQ.out Tryd.underlying28 rfl size53
    · exact ⟨rfl, HF.out⟩
theorem rread_any (A : Option Addr) (c : Nat) (xs : List UInt8) (w : World) (hA : BAt w w.heap.size A xs) : Calls Tryd.prog 18 #[.slice A xs.length c] w fun e w' => e = .returned (readV xs) ∧ Below w.heap.size w w' := by
  by_cases hx : xs.length = 6
  · have := rread_six A c xs hx w hA
    rwa [← hx] at this
  · refine (rread_len A xs.length c hx w).mono ?_
    rintro e w' ⟨rfl, hb⟩
    refine ⟨?_, hb⟩
    unfold readV
    rw [if_neg (fun h => hx h.1)]
end Go.Proofs.YtieeffebecghiaaDoor
