/- Contracts of Of of package ident and of the chapter's examples. Conditions: a text has at most 900,000 bytes. -/
import Derived.Test.YtcoiaddjfeaciaaTexa
import Derived.Lib.ConvBytes
namespace Go.Proofs.Ytcoiaddjfeaciaa
set_option maxRecDepth 100000
set_option maxHeartbeats 200000
open Go.RowKit Go.Great

/-- A text's bytes, as a new slice. -/
theorem str_bytes (xs : List UInt8) (w : World) : ∃ c W', (convert 9 22 (.string (bstr xs))).run Try.prog w = .ok (.slice (some ⟨w.heap.size, 0, none⟩) xs.length c) W' ∧ BAt W' W'.heap.size (some ⟨w.heap.size, 0, none⟩) xs ∧ Below w.heap.size w W' ∧ xs.length ≤ c := by
  have hr := Lib.run_convert_string_bytes (P := Try.prog) w 9 22 5 (bstr xs) Try.underlying9 Try.underlying22 Try.underlying5
  refine ⟨_, _, hr, ?_, ?_, ?_⟩
  · right
    refine ⟨w.heap.size, 0, rfl, by rw [Lib.bytesWorld_size]; omega, fun j hj => ?_⟩
    rw [Nat.zero_add, Lib.bytesWorld_cell w 5 (bstr xs) j hj]
    simp [bstr, List.getElem?_eq_getElem hj]
  · refine ⟨rfl, rfl, rfl, by rw [Lib.bytesWorld_size]; omega, fun k hk => Lib.bytesWorld_at_old w 5 (bstr xs) k hk⟩
  · exact grownCap_ge w xs.length 0 5

theorem of_any (xs : List UInt8) (hl : xs.length ≤ 900000) (w : World) :
    Calls Try.prog 39 #[.string (bstr xs)] w fun e w' => e = .returned (.agg (bcells (shaI xs)).toArray) ∧ Below w.heap.size w w' := by
  obtain ⟨Z, hZ⟩ : ∃ Z, Z = bcells (List.replicate 20 0) := ⟨_, rfl⟩
  have hz := fun W => zero61 W
  rw [← hZ] at hz
  have hZl : Z.length = 20 := by rw [hZ, bcells_length, List.length_replicate]
  obtain ⟨c, W1, hcv, hx, hb1, hc⟩ := str_bytes xs (w.alloc (.cells Z.toArray 26))
  have HS := Lib.hid (sum_any _ c xs hx hc hl)
  obtain ⟨S, hS⟩ : ∃ S, S = bcells (shaI xs) := ⟨_, rfl⟩
  have hSl : S.length = 20 := by rw [hS, bcells_length]; exact idI_length _
  have hone : ∀ u ∈ S, u.oneCell' = true := by rw [hS]; exact bcells_one _
  rw [← hS] at HS
  have h0 : (w.alloc (.cells Z.toArray 26)).heap[w.heap.size]? = some (.cells Z.toArray 26 (0, 0)) := heap_alloc_new w _
  have hs1 := hb1.size
  have hrow : ∀ W2, Below W1.heap.size W1 W2 → W2.heap[w.heap.size]? = some (.cells Z.toArray 26 (0, 0)) := fun W2 hb => by
    have l0 : w.heap.size < (w.alloc (.cells Z.toArray 26)).heap.size := by simp
    rw [hb.block _ (by omega), hb1.block _ l0]
    exact h0
  have hB : ∀ W2, Below W1.heap.size W1 W2 → Below w.heap.size w W2 := fun W2 hb => by
    have l0 : w.heap.size ≤ (w.alloc (.cells Z.toArray 26)).heap.size := by simp
    exact ((Below.refl _ w).alloc (Nat.le_refl _) _).trans ((hb1.mono l0).trans (hb.mono (by omega)))
  have hsz : S.toArray.size = 20 := (List.size_toArray).trans hSl
  have T1 : Hid ((Try.prog.info? 26).map (·.size) = some S.toArray.size) := Lib.hid (by rw [hsz]; exact size61)
  have R2 := Lib.hid hrow
  have T6 : Hid (Z.toArray.size = S.toArray.size) := Lib.hid (by rw [hsz, List.size_toArray, hZl])
  have T3 : Hid (S.toArray.all (·.oneCell') = true) := Lib.hid (all_oneCell_toArray hone)
  have T4 : Hid ((Try.prog.info? 26).map (·.size) = some S.length) := Lib.hid (by rw [hSl]; exact size61)
  have HBB := Lib.hid hB
  have HSS := Lib.hid hS
  have e1 : (w.alloc (.cells Z.toArray 26)).heap.size = w.heap.size + 1 := by simp
  rw [e1] at hcv HS
  clear e1
  obtain ⟨s, hs⟩ : ∃ s, s = bstr xs := ⟨_, rfl⟩
  rw [← hs] at hcv ⊢
  generalize xs.length = n at hcv HS
  clear hs
  clear hZ hZl hx hb1 hc hSl hone h0 hs1 hrow hB hl hsz hS
  go_enter Try.func39, Try.ntmps39
  go_wp2_with (first
    | (go_at_call 13; refine (HS.out).mono ?_; rintro e w2 ⟨rfl, hb2⟩)
    | ((with_reducible refine wpList_store_row rfl 26 (.tmp 2) (.tmp 5) rfl w.heap.size S.toArray ?_ ?_ 26 Z.toArray (R2.out _ hb2) T1.out T6.out T3.out ?_); rfl; rfl))
  refine bodyPost_ret (v := .agg S.toArray) ?_ rfl ?_
  · exact results_cell1 (p := 2) (ty := 26) rfl _ _ w.heap.size 0 S _ rfl (row_range (setRow_heap _ _ _ S.toArray 26 (0, 0) (R2.out _ hb2))) Try.underlying26 rfl T4.out
  · exact ⟨by rw [← HSS.out], below_setRow (HBB.out _ hb2) (Nat.le_refl _) _⟩
end Go.Proofs.Ytcoiaddjfeaciaa
