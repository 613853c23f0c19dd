/- The chapter's examples of package sha hold. No condition. -/
import Derived.Test.YtcoiaddjfeaciaaShai
import Derived.Lib.SlBytesConst
namespace Go.Proofs.Ytcoiaddjfeaciaa
set_option maxRecDepth 100000
open Go.RowKit Go.Great
set_option linter.unusedVariables false
set_option linter.unusedSimpArgs false

theorem rows2 (w : World) (z : Array Value) (c d : List Value) :
    ∀ W, W = ((((w.alloc (.cells z 26)).alloc (.cells z 26)).setRow w.heap.size c.toArray).setRow (w.heap.size + 1) d.toArray) →
      (∀ i, W.cell? ⟨w.heap.size, i, none⟩ = c[i]?) ∧ (∀ i, W.cell? ⟨w.heap.size + 1, i, none⟩ = d[i]?) ∧ Below w.heap.size w W := by
  rintro W rfl
  have a1 : ((w.alloc (.cells z 26)).alloc (.cells z 26)).heap[w.heap.size]? = some (.cells z 26 (0, 0)) := by
    rw [Below.heap_alloc _ _ _ (by simp)]
    exact heap_alloc_new w _
  have a2 : ((w.alloc (.cells z 26)).alloc (.cells z 26)).heap[w.heap.size + 1]? = some (.cells z 26 (0, 0)) := by
    have := heap_alloc_new (w.alloc (.cells z 26)) (.cells z 26)
    simpa using this
  have b1 := setRow_heap _ w.heap.size _ c.toArray 26 (0, 0) a1
  have b2 := (setRow_other ((w.alloc (.cells z 26)).alloc (.cells z 26)) w.heap.size (w.heap.size + 1) c.toArray (by omega)).trans a2
  refine ⟨fun i => ?_, fun i => ?_, ?_⟩
  · rw [cell_of_row _ _ i _ 26 (0, 0) ((setRow_other _ (w.heap.size + 1) w.heap.size d.toArray (by omega)).trans b1)]
    simp
  · rw [cell_of_row _ _ i _ 26 (0, 0) (setRow_heap _ _ _ d.toArray 26 (0, 0) b2)]
    simp
  · exact below_setRow (below_setRow (((Below.refl _ w).alloc (Nat.le_refl _) _).alloc (by simp) _) (Nat.le_refl _) _) (by omega) _

theorem abc_form : ∃ X, bcells (shaI [97, 98, 99]) = .int .u8 169 :: .int .u8 153 :: .int .u8 62 :: .int .u8 54 :: X := by
  have h := List.take_append_drop 4 (shaI [97, 98, 99])
  rw [sha_abc] at h
  exact ⟨bcells ((shaI [97, 98, 99]).drop 4), by rw [← h]; simp [bcells]⟩
theorem nil_form : ∃ X, bcells (shaI []) = .int .u8 218 :: .int .u8 57 :: .int .u8 163 :: .int .u8 238 :: X := by
  have h := List.take_append_drop 4 (shaI [])
  rw [sha_nil] at h
  exact ⟨bcells ((shaI []).drop 4), by rw [← h]; simp [bcells]⟩

set_option maxRecDepth 100000 in
set_option maxHeartbeats 4000000 in
theorem slives_any (w : World) : Calls Try.prog 12 #[] w fun e w' => e = .returned (.bool true) ∧ Below w.heap.size w w' := by
  obtain ⟨Z, hZ⟩ : ∃ Z, Z = bcells (List.replicate 20 0) := ⟨_, rfl⟩
  have hz := fun W => zero61 W
  rw [← hZ] at hz
  have hZl : Z.length = 20 := by rw [hZ, bcells_length, List.length_replicate]
  obtain ⟨X, hX⟩ := abc_form
  obtain ⟨Y, hY⟩ := nil_form
  have hl1 : (bcells (shaI [97, 98, 99])).length = 20 := by rw [bcells_length]; exact idI_length _
  have hl2 : (bcells (shaI [])).length = 20 := by rw [bcells_length]; exact idI_length _
  obtain ⟨C, hC⟩ : ∃ C : List Value, C = .int .u8 169 :: .int .u8 153 :: .int .u8 62 :: .int .u8 54 :: X := ⟨_, rfl⟩
  obtain ⟨D, hD⟩ : ∃ D : List Value, D = .int .u8 218 :: .int .u8 57 :: .int .u8 163 :: .int .u8 238 :: Y := ⟨_, rfl⟩
  rw [hX, ← hC] at hl1
  rw [hY, ← hD] at hl2
  have s1 : Calls Try.prog 13 #[.slice (some ⟨w.heap.size, 0, none⟩) 3 3] (w.alloc (.cells #[.int .u8 97, .int .u8 98, .int .u8 99] 5 (3, 4))) fun e w' => e = .returned (.agg C.toArray) ∧ Below w.heap.size w w' := by
    have hx : BAt (w.alloc (.cells #[.int .u8 97, .int .u8 98, .int .u8 99] 5 (3, 4))) (w.alloc (.cells #[.int .u8 97, .int .u8 98, .int .u8 99] 5 (3, 4))).heap.size (some ⟨w.heap.size, 0, none⟩) [97, 98, 99] := by
      right
      refine ⟨w.heap.size, 0, rfl, by simp, fun j hj => ?_⟩
      rw [Nat.zero_add, cell_of_row _ w.heap.size j _ 5 (3, 4) (heap_alloc_new w _)]
      match j, hj with
      | 0, _ => rfl
      | 1, _ => rfl
      | 2, _ => rfl
    have hb : Below w.heap.size w (w.alloc (.cells #[.int .u8 97, .int .u8 98, .int .u8 99] 5 (3, 4))) := (Below.refl _ w).alloc (Nat.le_refl _) _
    refine (sum_any _ 3 [97, 98, 99] hx (by simp) (by simp)).mono ?_
    rintro e w' ⟨he, hb'⟩
    rw [hX, ← hC] at he
    exact ⟨he, hb.trans (hb'.mono hb.size)⟩
  have s2 : ∀ W : World, Calls Try.prog 13 #[.slice none 0 0] W fun e w' => e = .returned (.agg D.toArray) ∧ Below W.heap.size W w' := fun W => by
    refine (sum_any none 0 [] BAt.nil_ (by simp) (by simp)).mono ?_
    rintro e w' ⟨he, hb'⟩
    rw [hY, ← hD] at he
    exact ⟨he, hb'⟩
  have HS1 := Lib.hid s1
  have HS2 := Lib.hid s2
  have HC := Lib.hid hC
  have HD := Lib.hid hD
  have T1 : Hid ((Try.prog.info? 26).map (·.size) = some C.toArray.size) := Lib.hid (by rw [List.size_toArray, hl1]; exact size61)
  have T2 : Hid ((Try.prog.info? 26).map (·.size) = some D.toArray.size) := Lib.hid (by rw [List.size_toArray, hl2]; exact size61)
  have T3 : Hid (Z.toArray.size = C.toArray.size) := Lib.hid (by simp [hZl, hl1])
  have T4 : Hid (Z.toArray.size = D.toArray.size) := Lib.hid (by simp [hZl, hl2])
  have T5 : Hid (C.toArray.all (·.oneCell') = true) := Lib.hid (all_oneCell_toArray (by rw [hC, ← hX]; exact bcells_one _))
  have T6 : Hid (D.toArray.all (·.oneCell') = true) := Lib.hid (all_oneCell_toArray (by rw [hD, ← hY]; exact bcells_one _))
  have R1 : Hid (∀ w2 : World, ((w2.alloc (.cells Z.toArray 26)).alloc (.cells Z.toArray 26)).heap[w2.heap.size]? = some (.cells Z.toArray 26 (0, 0))) := Lib.hid (fun w2 => by
    rw [Below.heap_alloc _ _ _ (by simp)]
    exact heap_alloc_new w2 _)
  have R2 : Hid (∀ w2 : World, (((w2.alloc (.cells Z.toArray 26)).alloc (.cells Z.toArray 26)).setRow w2.heap.size C.toArray).heap[w2.heap.size + 1]? = some (.cells Z.toArray 26 (0, 0))) := Lib.hid (fun w2 => by
    rw [setRow_other _ _ _ _ (by omega)]
    have := heap_alloc_new (w2.alloc (.cells Z.toArray 26)) (.cells Z.toArray 26)
    simpa using this)
  have hcv : (convert 22 22 (.slice (some ⟨w.heap.size, 0, none⟩) 3 3)).run Try.prog (w.alloc (.cells #[.int .u8 97, .int .u8 98, .int .u8 99] 5)) = .ok (.slice (some ⟨w.heap.size, 0, none⟩) 3 3) (w.alloc (.cells #[.int .u8 97, .int .u8 98, .int .u8 99] 5 (3, 4))) := Lib.run_convert_bytes_const w 22 5 #[.int .u8 97, .int .u8 98, .int .u8 99] 3 3 Try.underlying22 Try.underlying5
  clear hZ hZl hX hY hl1 hl2 hC hD s1 s2
  go_enter Try.func12, Try.ntmps12
  go_wp2_with (first
    | (go_at_call 13; refine (HS1.out).mono ?_; rintro e w1 ⟨rfl, hb1⟩)
    | (go_at_call 13; refine (HS2.out _).mono ?_; rintro e w2 ⟨rfl, hb2⟩)
    | ((with_reducible refine wpList_store_row rfl 26 (.tmp 1) (.tmp 5) rfl w2.heap.size C.toArray ?_ ?_ 26 Z.toArray (R1.out w2) T1.out T3.out T5.out ?_); rfl; rfl)
    | ((with_reducible refine wpList_store_row rfl 26 (.tmp 2) (.tmp 6) rfl (w2.heap.size + 1) D.toArray ?_ ?_ 26 Z.toArray (R2.out w2) T2.out T4.out T6.out ?_); rfl; rfl; have K1 := rows2 w2 Z.toArray C D _ rfl; rw [HC.out, HD.out] at K1; rw [HC.out, HD.out]; generalize World.setRow _ (w2.heap.size + 1) _ = W5 at K1 ⊢; obtain ⟨p1, p2, p3⟩ := K1; have c0 := p1 0; have c1 := p1 1; have c2 := p1 2; have c3 := p1 3; have d0 := p2 0; have d1 := p2 1; have d2 := p2 2; have d3 := p2 3; simp at c0 c1 c2 c3 d0 d1 d2 d3; clear p1 p2))
  go_ret
  exact ⟨rfl, hb1.trans ((hb2.mono hb1.size).trans (p3.mono (Nat.le_trans hb1.size hb2.size)))⟩
end Go.Proofs.Ytcoiaddjfeaciaa
