/- Contracts of the reference's Low, High and Draw of layer span. Conditions: an id has 20 bytes. -/
import Derived.Test.YtieeffebecghiaaPSrb
namespace Go.Proofs.Ytieeffebecghiaa
set_option maxRecDepth 100000
set_option maxHeartbeats 1000000
open Go.RowKit Go.Lib Go.Great

/-- What laid tells, with the other bits of f. -/
def LdIs (o f : List UInt8) (i : Int) (e : Ending) : Prop := ∃ (x : List UInt8) (b : Bool), e = .returned (.tuple #[.agg (bcells x).toArray, .bool b]) ∧ x.length = 20 ∧ ((∃ k : Nat, i = (k : Int) ∧ k < 160 ∧ b = true ∧ Laid o k f x) ∨ (¬ (0 ≤ i ∧ i < 160) ∧ b = false ∧ x = List.replicate 20 0))
theorem laid_any (o f : List UInt8) (i : Int) (ho : o.length = 20) (hf : f.length = 20) (w : World) :
    Calls Try.prog 26 #[.agg (bcells o).toArray, .int .i64 i, .agg (bcells f).toArray] w fun e w' => LdIs o f i e ∧ Below w.heap.size w w' := by
  by_cases h : 0 ≤ i ∧ i < 160
  · obtain ⟨k, rfl⟩ : ∃ k : Nat, i = (k : Int) := ⟨i.toNat, by omega⟩
    refine (laid_yes o f ho hf k (by omega) w).mono ?_
    rintro e w' ⟨⟨x, rfl, hL⟩, hb⟩
    exact ⟨⟨x, true, rfl, hL.len, .inl ⟨k, rfl, by omega, rfl, hL⟩⟩, hb⟩
  · refine (laid_no _ _ i h w).mono ?_
    rintro e w' ⟨rfl, hb⟩
    exact ⟨⟨List.replicate 20 0, false, rfl, by simp, .inr ⟨h, rfl, rfl⟩⟩, hb⟩

theorem rlow_any (o : List UInt8) (i : Int) (ho : o.length = 20) (w : World) :
    Calls Try.prog 10 #[.agg (bcells o).toArray, .int .i64 i] w fun e w' => LdIs o (List.replicate 20 0) i e ∧ Below w.heap.size w w' := by
  have HLD := Lib.hid (fun W => laid_any o (List.replicate 20 0) i ho (by simp) W)
  have hz1 := fun W => zero42 W
  have HBU := Lib.hid built42s
  have HZS : Hid ((bcells (List.replicate 20 0)).toArray.size = 20) := Lib.hid (bc_size (by simp))
  obtain ⟨h1, h2, hb⟩ := heap2 w (.cells (bcells o).toArray 26) (.cells (bcells (List.replicate 20 0)).toArray 26)
  have HK := Lib.hid (load42 ho h1)
  have HH := Lib.hid h2
  have HB := Lib.hid hb
  generalize (bcells o).toArray = A at HLD HK HH HB ⊢
  generalize (bcells (List.replicate 20 0)).toArray = Z at HLD hz1 HBU HZS HK HH HB
  clear h1 h2 hb ho
  go_enter Try.func10, Try.ntmps10
  go_wp2_with (first
    | ((with_reducible refine wpList_loadV (op := ⟨some 6, _, _, _, _, _⟩) rfl 26 (.tmp 2) rfl _ ?_ _ HK.out ?_); rfl)
    | ((with_reducible refine wpList_buildV (o := ⟨some 8, _, _, _, _, _⟩) rfl 26 _ rfl _ ?_ _ (HBU.out _) ?_); (simp only [List.map_toArray, List.map_nil]))
    | (go_at_call 26; (with_reducible refine (HLD.out _).mono ?_); rintro e w1 ⟨⟨x, b, rfl, hx, hL⟩, hb1⟩; have H4 := Lib.hid ((hb1.block (w.heap.size + 1) (by simp)).trans HH.out); have HI := Lib.hid (bc_info hx); have HA := Lib.hid (bc_all x); have HS : Hid (Z.size = (bcells x).toArray.size) := Lib.hid (by rw [bc_size hx]; exact HZS.out); have HX := Lib.hid hx; have HL := Lib.hid hL; have HB1 := Lib.hid hb1; clear hx hL hb1)
    | ((with_reducible refine wpList_store_row rfl 26 (.tmp 4) (.tmp 10) rfl (w.heap.size + 1) (bcells x).toArray ?_ ?_ 26 Z H4.out HI.out HS.out HA.out ?_); rfl; rfl))
  have q1 := setRow_heap _ (w.heap.size + 1) _ (bcells x).toArray 26 (0, 0) H4.out
  have q2 := below_setRow (HB.out.trans (HB1.out.mono HB.out.size)) (g := w.heap.size + 1) (by omega) (bcells x).toArray
  have HJ : Hid ((Try.prog.info? 26).map (·.size) = some (bcells x).length) := Lib.hid (by rw [bcells_length, HX.out]; exact size42)
  generalize w1.setRow (w.heap.size + 1) (bcells x).toArray = W5 at q1 q2 ⊢
  refine bodyPost_ret (v := .tuple #[.agg (bcells x).toArray, .bool b]) ?_ rfl ?_
  · exact results_cell_tmpS (p := 4) (ty := 26) (q := 5) rfl _ _ (w.heap.size + 1) 0 (bcells x) _ (.bool b) rfl rfl (row_range q1) Try.underlying26 rfl HJ.out
  · exact ⟨⟨x, b, rfl, HX.out, HL.out⟩, q2⟩

def FuRel (w : World) (A : Array Value) (i : Value) (wr : World) : Prop := ∃ j : Nat, j ≤ 20 ∧ i = .int .i64 (j : Int) ∧ wr.heap[w.heap.size]? = some (.cells A 26 (0, 0)) ∧ wr.heap[w.heap.size + 1]? = some (.cells (bcells (List.replicate 20 0)).toArray 26 (0, 0)) ∧ wr.heap[w.heap.size + 1 + 1]? = some (.cells (bcells (List.replicate j 255 ++ List.replicate (20 - j) 0)).toArray 26 (0, 0)) ∧ Below w.heap.size w wr
theorem fu_succ (j : Nat) (hj : j < 20) : (bcells (List.replicate j 255 ++ List.replicate (20 - j) 0)).toArray.setIfInBounds j (.int .u8 255) = (bcells (List.replicate (j + 1) 255 ++ List.replicate (20 - (j + 1)) 0)).toArray := by
  rw [List.setIfInBounds_toArray]
  congr 1
  apply List.ext_getElem
  · simp [bcells]; omega
  · intro k h1 h2
    have h3 : k < 20 := by simp [bcells] at h2; omega
    rw [List.getElem_set]
    simp only [bcells, List.getElem_map, List.getElem_append, List.length_replicate, List.getElem_replicate]
    by_cases e : j = k
    · subst e
      simp
    · rw [if_neg e]
      by_cases h : k < j
      · rw [dif_pos h, dif_pos (by omega)]
      · rw [dif_neg h, dif_neg (by omega)]
theorem rhigh_any (o : List UInt8) (i : Int) (ho : o.length = 20) (w : World) :
    Calls Try.prog 12 #[.agg (bcells o).toArray, .int .i64 i] w fun e w' => LdIs o (List.replicate 20 255) i e ∧ Below w.heap.size w w' := by
  have HLD := Lib.hid (fun W => laid_any o (List.replicate 20 255) i ho (by simp) W)
  have HZS : Hid ((bcells (List.replicate 20 0)).toArray.size = 20) := Lib.hid (bc_size (by simp))
  have hz1 := fun W => zero42 W
  obtain ⟨h1, h2, h3, hb⟩ := heap3 w (.cells (bcells o).toArray 26) (.cells (bcells (List.replicate 20 0)).toArray 26) (.cells (bcells (List.replicate 20 0)).toArray 26)
  have R0 : Hid (FuRel w (bcells o).toArray (.int .i64 0) (((w.alloc (.cells (bcells o).toArray 26)).alloc (.cells (bcells (List.replicate 20 0)).toArray 26)).alloc (.cells (bcells (List.replicate 20 0)).toArray 26))) := Lib.hid ⟨0, by omega, rfl, h1, h2, h3, hb⟩
  have HK : Hid (∀ W, W.heap[w.heap.size]? = some (.cells (bcells o).toArray 26 (0, 0)) → (loadVar 26 ⟨w.heap.size, 0, none⟩).run Try.prog W = .ok (.agg (bcells o).toArray) W) := Lib.hid (fun W h => load42 ho h)
  generalize (bcells o).toArray = A at HLD R0 HK ⊢
  obtain ⟨Z, hZ⟩ : ∃ Z, Z = (bcells (List.replicate 20 0)).toArray := ⟨_, rfl⟩
  rw [← hZ] at hz1 R0 HZS
  have HZ := Lib.hid hZ
  clear h1 h2 h3 hb ho hZ
  go_enter Try.func12, Try.ntmps12
  go_upto_region 3 with fail
  go_loopw [7] (FuRel w A) (fun i _ => 20 - (RowKit.intOf i).toNat)
  case atStart => exact R0.out
  case round =>
    obtain ⟨j, hj, rfl, h1, h2, h3, hb⟩ := hrel
    clear R0
    by_cases hlt : j < 20
    · have fr := frozen_of_row wr (w.heap.size + 1 + 1) j _ 26 h3
      have hcs : (wr.cell? ⟨w.heap.size + 1 + 1, j, none⟩).isSome = true := by
        rw [cell_of_row wr _ j _ 26 (0, 0) h3, List.getElem?_toArray, List.getElem?_eq_getElem (by rw [bcells_length]; simp; omega)]
        rfl
      obtain ⟨cv, hcv⟩ := Option.isSome_iff_exists.1 hcs
      have HREL : Hid (FuRel w A (.int .i64 ((j : Int) + 1)) (wr.setCell ⟨w.heap.size + 1 + 1, j, none⟩ (.int .u8 255))) := Lib.hid (by
        have s1 := heap_setCell_same wr (w.heap.size + 1 + 1) j _ 26 (.int .u8 255) h3
        rw [fu_succ j hlt] at s1
        refine ⟨j + 1, by omega, by go_num, ?_, ?_, s1, hb.setCell (p := ⟨w.heap.size + 1 + 1, j, none⟩) (by simp; omega) _⟩
        · rw [Below.heap_setCell _ _ _ _ (by simp; omega)]; exact h1
        · rw [Below.heap_setCell _ _ _ _ (by simp)]; exact h2)
      clear h1 h2 h3 hb hcs
      go_wp2
      go_roundw
      case rel => exact HREL.out
      case measure => simp [RowKit.intOf]; omega
    · obtain rfl : j = 20 := by omega
      have hf : (List.replicate 20 255 ++ List.replicate (20 - 20) 0 : List UInt8) = List.replicate 20 255 := by simp
      rw [hf] at h3
      have HK0 := Lib.hid (HK.out wr h1)
      have HK6 := Lib.hid (load42 (by simp) h3)
      have HH : Hid (wr.heap[w.heap.size + 1]? = some (.cells Z 26 (0, 0))) := Lib.hid (by rw [HZ.out]; exact h2)
      have HLT : Hid (w.heap.size + 1 < wr.heap.size) := Lib.hid (Array.getElem?_eq_some_iff.1 h2).1
      have HB := Lib.hid hb
      generalize (bcells (List.replicate 20 255)).toArray = FF at HLD HK6
      clear h1 h2 h3 hb hf hlt hj
      go_wp2_with (first
        | ((with_reducible refine wpList_loadV (op := ⟨some 14, _, _, _, _, _⟩) rfl 26 (.tmp 2) rfl _ ?_ _ HK0.out ?_); rfl)
        | ((with_reducible refine wpList_loadV (op := ⟨some 16, _, _, _, _, _⟩) rfl 26 (.tmp 6) rfl _ ?_ _ HK6.out ?_); rfl)
        | (go_at_call 26; (with_reducible refine (HLD.out _).mono ?_); rintro e w1 ⟨⟨x, b, rfl, hx, hL⟩, hb1⟩; have H4 := Lib.hid ((hb1.block (w.heap.size + 1) HLT.out).trans HH.out); have HI := Lib.hid (bc_info hx); have HA := Lib.hid (bc_all x); have HS : Hid (Z.size = (bcells x).toArray.size) := Lib.hid (by rw [bc_size hx]; exact HZS.out); have HX := Lib.hid hx; have HL := Lib.hid hL; have HB1 := Lib.hid hb1; clear hx hL hb1)
        | ((with_reducible refine wpList_store_row rfl 26 (.tmp 4) (.tmp 18) rfl (w.heap.size + 1) (bcells x).toArray ?_ ?_ 26 Z H4.out HI.out HS.out HA.out ?_); rfl; rfl))
      have q1 := setRow_heap _ (w.heap.size + 1) _ (bcells x).toArray 26 (0, 0) H4.out
      have q2 := below_setRow (HB.out.trans (HB1.out.mono HB.out.size)) (g := w.heap.size + 1) (by omega) (bcells x).toArray
      have HJ : Hid ((Try.prog.info? 26).map (·.size) = some (bcells x).length) := Lib.hid (by rw [bcells_length, HX.out]; exact size42)
      generalize w1.setRow (w.heap.size + 1) (bcells x).toArray = W5 at q1 q2 ⊢
      refine bodyPost_ret (v := .tuple #[.agg (bcells x).toArray, .bool b]) ?_ rfl ?_
      · exact results_cell_tmpS (p := 4) (ty := 26) (q := 5) rfl _ _ (w.heap.size + 1) 0 (bcells x) _ (.bool b) rfl rfl (row_range q1) Try.underlying26 rfl HJ.out
      · exact ⟨⟨x, b, rfl, HX.out, HL.out⟩, q2⟩
end Go.Proofs.Ytieeffebecghiaa
