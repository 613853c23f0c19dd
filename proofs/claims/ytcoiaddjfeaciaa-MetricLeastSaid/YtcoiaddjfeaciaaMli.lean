/- Contract of lives of the statements on metric. No condition. -/
import Derived.Test.YtcoiaddjfeaciaaGq
import Derived.Test.YtcoiaddjfeaciaaGi
namespace Go.Proofs.Ytcoiaddjfeaciaa
set_option maxRecDepth 100000
set_option maxHeartbeats 1000000
open Go.RowKit Go.Lib Go.Great

/-- The id of a small number. -/
def smallI (k : UInt8) : IDv := ⟨[0, 0, 0, 0, 0, 0, 0, 0, 0, 0, 0, 0, 0, 0, 0, 0, 0, 0, 0, k], rfl⟩
theorem small0 (W : World) : (Instr.build 26 #[(19, .int .u8 0)]).run Try.prog W = .ok (.agg (encID (smallI 0)).toArray) W := run_build W 26 _ _ (by kernel_rfl)
theorem small1 (W : World) : (Instr.build 26 #[(19, .int .u8 1)]).run Try.prog W = .ok (.agg (encID (smallI 1)).toArray) W := run_build W 26 _ _ (by kernel_rfl)
theorem small2 (W : World) : (Instr.build 26 #[(19, .int .u8 2)]).run Try.prog W = .ok (.agg (encID (smallI 2)).toArray) W := run_build W 26 _ _ (by kernel_rfl)
theorem small3 (W : World) : (Instr.build 26 #[(19, .int .u8 3)]).run Try.prog W = .ok (.agg (encID (smallI 3)).toArray) W := run_build W 26 _ _ (by kernel_rfl)
theorem lid_any (z : Int) (x : IDv) (hB : ∀ W, (Instr.build 26 #[(19, .int .u8 z)]).run Try.prog W = .ok (.agg (encID x).toArray) W) (w : World) :
    Calls Try.prog 72 #[.int .u8 z] w fun e w' => e = .returned (.agg (encID x).toArray) ∧ Below w.heap.size w w' := by
  have hz1 := fun W => zero26 W
  obtain ⟨Z, hZ⟩ : ∃ Z, Z = (bcells (List.replicate 20 0)).toArray := ⟨_, rfl⟩
  have hZs : Z.size = 20 := by rw [hZ, List.size_toArray, bcells_length, List.length_replicate]
  rw [← hZ] at hz1
  obtain ⟨X, hX⟩ : ∃ X, X = encID x := ⟨_, rfl⟩
  have hl : X.length = 20 := by rw [hX, encID_length]
  have h1 : ∀ v ∈ X, v.oneCell' = true := by rw [hX]; exact bcells_one _
  rw [← hX] at hB ⊢
  have S1 : Hid ((Try.prog.info? 26).map (·.size) = some X.toArray.size) := Lib.hid (by rw [List.size_toArray, hl]; exact size26)
  have S1' : Hid ((Try.prog.info? 26).map (·.size) = some X.length) := Lib.hid (by rw [hl]; exact size26)
  have S2 : Hid (Z.size = X.toArray.size) := Lib.hid (by rw [hZs, List.size_toArray, hl])
  have S3 : Hid (X.toArray.all (·.oneCell') = true) := Lib.hid (all_oneCell_toArray h1)
  have S4 := Lib.hid (heap_alloc_new w (.cells Z 26))
  have HB := Lib.hid hB
  clear hZ hX hl h1 hB
  go_enter Try.func72, Try.ntmps72
  go_wp2_with (first
    | ((with_reducible refine wpList_buildV (o := ⟨some 4, _, _, _, _, _⟩) rfl 26 _ rfl _ ?_ _ (HB.out _) ?_); (simp only [List.map_toArray, List.map_cons, List.map_nil]; rfl))
    | ((with_reducible refine wpList_store_row rfl 26 (.tmp 2) (.tmp 4) rfl w.heap.size X.toArray ?_ ?_ 26 Z S4.out S1.out S2.out S3.out ?_); rfl; rfl))
  have K5 := alloc_setP w Z X.toArray 26 _ rfl
  generalize (w.alloc (.cells Z 26)).setRow w.heap.size X.toArray = W5 at K5 ⊢
  obtain ⟨q1, q2⟩ := K5
  refine bodyPost_ret (v := .agg X.toArray) ?_ rfl ?_
  · exact results_cell1 (p := 2) (ty := 26) rfl _ _ w.heap.size 0 X _ rfl (row_range q1) Try.underlying26 rfl S1'.out
  · exact ⟨rfl, q2⟩

theorem small_mem {y : IDv} {A B : List IDv} (h1 : ∀ x ∈ A, x ∈ B) (h2 : ∀ x ∈ B, x ∈ A) : y ∈ A ↔ y ∈ B := ⟨h1 y, h2 y⟩
theorem set_a : IsSet (kM (smallI 0)) [smallI 1, smallI 2, smallI 3] [smallI 3, smallI 1, smallI 2, smallI 1] := ⟨by decide +kernel, fun _ => small_mem (by decide +kernel) (by decide +kernel)⟩
theorem set_b : IsSet (kM (smallI 3)) [smallI 2, smallI 1, smallI 0] [smallI 0, smallI 1, smallI 2] := ⟨by decide +kernel, fun _ => small_mem (by decide +kernel) (by decide +kernel)⟩
theorem build4 (W : World) : (Instr.buildSlice 62 4 #[(0, .agg (encID (smallI 3)).toArray), (1, .agg (encID (smallI 1)).toArray), (2, .agg (encID (smallI 2)).toArray), (3, .agg (encID (smallI 1)).toArray)]).run Try.prog W = .ok (.slice (some ⟨W.heap.size, 0, none⟩) 4 4) (W.alloc (.cells (flatI [smallI 3, smallI 1, smallI 2, smallI 1]).toArray 26)) := by
  obtain ⟨i0, hi, hz0, hz1, hz2⟩ := IdT.api.info
  obtain ⟨Z, hZ⟩ : ∃ Z, Z = (bcells (List.replicate 20 0)).toArray := ⟨_, rfl⟩
  have hf : Instr.fill (fun i => some (i * 20, 20)) ((Array.range (4 * 20)).map (fun x => Z[x % Z.size]!)) [(0, .agg (encID (smallI 3)).toArray), (1, .agg (encID (smallI 1)).toArray), (2, .agg (encID (smallI 2)).toArray), (3, .agg (encID (smallI 1)).toArray)] = some (flatI [smallI 3, smallI 1, smallI 2, smallI 1]).toArray := by
    rw [hZ]
    kernel_rfl
  rw [← hZ] at hz0
  clear hZ hz2
  generalize (flatI [smallI 3, smallI 1, smallI 2, smallI 1]).toArray = F at hf ⊢
  generalize (encID (smallI 1)).toArray = P1 at hf ⊢
  generalize (encID (smallI 2)).toArray = P2 at hf ⊢
  generalize (encID (smallI 3)).toArray = P3 at hf ⊢
  simp only [Nat.reduceMul] at hf
  simp [Instr.buildSlice, run_underlying IdT.api.und, sizeOf, typeInfo, zeroValue, hi, hz0, hz1, Value.cells, hf, newRow]
theorem build3 (W : World) : (Instr.buildSlice 62 3 #[(0, .agg (encID (smallI 0)).toArray), (1, .agg (encID (smallI 1)).toArray), (2, .agg (encID (smallI 2)).toArray)]).run Try.prog W = .ok (.slice (some ⟨W.heap.size, 0, none⟩) 3 3) (W.alloc (.cells (flatI [smallI 0, smallI 1, smallI 2]).toArray 26)) := by
  obtain ⟨i0, hi, hz0, hz1, hz2⟩ := IdT.api.info
  obtain ⟨Z, hZ⟩ : ∃ Z, Z = (bcells (List.replicate 20 0)).toArray := ⟨_, rfl⟩
  have hf : Instr.fill (fun i => some (i * 20, 20)) ((Array.range (3 * 20)).map (fun x => Z[x % Z.size]!)) [(0, .agg (encID (smallI 0)).toArray), (1, .agg (encID (smallI 1)).toArray), (2, .agg (encID (smallI 2)).toArray)] = some (flatI [smallI 0, smallI 1, smallI 2]).toArray := by
    rw [hZ]
    kernel_rfl
  rw [← hZ] at hz0
  clear hZ hz2
  generalize (flatI [smallI 0, smallI 1, smallI 2]).toArray = F at hf ⊢
  generalize (encID (smallI 0)).toArray = P0 at hf ⊢
  generalize (encID (smallI 1)).toArray = P1 at hf ⊢
  generalize (encID (smallI 2)).toArray = P2 at hf ⊢
  simp only [Nat.reduceMul] at hf
  simp [Instr.buildSlice, run_underlying IdT.api.und, sizeOf, typeInfo, zeroValue, hi, hz0, hz1, Value.cells, hf, newRow]
end Go.Proofs.Ytcoiaddjfeaciaa
