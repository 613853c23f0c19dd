/- Contracts of Write, Len and Clone of a hash that New made. Conditions: at most 900,000 bytes. -/
import Derived.Test.YtcoiaddjfeaciaaShap
namespace Go.Proofs.Ytcoiaddjfeaciaa
set_option maxRecDepth 100000
open Go.RowKit Go.Great
set_option linter.unusedVariables false
set_option linter.unusedSimpArgs false

theorem HashOf.made {w : World} {g : Nat} {m : List UInt8} (h : HashOf w g m) : w.cell? ⟨g, 0, none⟩ = some (.bool true) := by
  obtain ⟨tail, hh, _⟩ := h
  rw [hh.cell]
  rfl

theorem len_of {w : World} {g : Nat} {m : List UInt8} (h : HashOf w g m) : Calls Try.prog 21 #[.pointer (some ⟨g, 0, none⟩)] w fun e w' => e = .returned (.int .u64 (m.length : Int)) ∧ w = w' := by
  have hM := isMade_yes w g h.made
  obtain ⟨tail, hh, _⟩ := h
  have cl := hh.len_
  have HM := Lib.hid hM
  clear hM hh
  go_enter Try.func21, Try.ntmps21
  go_wp2_with (go_at_call 60; refine (HM.out).mono ?_; rintro e w1 ⟨rfl, rfl⟩)
  go_ret
  exact ⟨rfl, rfl⟩

theorem write_of {w : World} {g : Nat} {m : List UInt8} (h : HashOf w g m) (A : Option Addr) (c : Nat) (b : List UInt8) (hb : BAt w w.heap.size A b) (hc : b.length ≤ c) (hl : b.length ≤ 900000) (hm : m.length ≤ 900000) (hne : ∀ g' off, A = some ⟨g', off, none⟩ → b ≠ [] → g' ≠ g) :
    Calls Try.prog 19 #[.pointer (some ⟨g, 0, none⟩), .slice A b.length c] w fun e w' => e = .returned (.int .i64 0) ∧ HashOf w' g (m ++ b) ∧ w.grownBy w' (some g) := by
  have HM := Lib.hid (isMade_yes w g h.made)
  have HA := Lib.hid (absorb_of h A c b hb hc hl hm hne)
  clear hb hne h
  go_enter Try.func19, Try.ntmps19
  go_wp2_with (first
    | (go_at_call 60; refine (HM.out).mono ?_; rintro e w1 ⟨rfl, rfl⟩)
    | (go_at_call 55; refine (HA.out).mono ?_; rintro e w2 ⟨rfl, h2, g2⟩))
  go_ret
  exact ⟨rfl, h2, g2⟩

set_option maxRecDepth 100000 in
theorem clone_of {w : World} {g : Nat} {m : List UInt8} (h : HashOf w g m) : Calls Try.prog 18 #[.pointer (some ⟨g, 0, none⟩)] w fun e w' => ∃ g2, e = .returned (.pointer (some ⟨g2, 0, none⟩)) ∧ w.heap.size ≤ g2 ∧ HashOf w' g2 m ∧ Below w.heap.size w w' := by
  have HM := Lib.hid (isMade_yes w g h.made)
  obtain ⟨tail, hh, hT⟩ := h
  obtain ⟨H, hH⟩ : ∃ H, H = hcells (wordsOf m) tail m.length := ⟨_, rfl⟩
  obtain ⟨Y, hY⟩ : ∃ Y : List Value, Y = (.bool false :: .int .u32 0 :: .int .u32 0 :: .int .u32 0 :: .int .u32 0 :: .int .u32 0 :: (bcells (List.replicate 64 0) ++ [.int .u64 0])) := ⟨_, rfl⟩
  have hy := fun W => zero80 W
  rw [← hY] at hy
  have hHl : H.length = 71 := by rw [hH]; exact hcells_len _ _ _ hh.2.1
  have hYl : Y.length = 71 := by rw [hY]; simp [bcells]
  have HRA : Hid (w.rangeAt g 0 H) := Lib.hid (fun i u hu => by
    rw [Nat.zero_add, hh.cell, ← hH]
    exact hu)
  have HS : Hid ((Try.prog.info? 94).map (·.size) = some H.length) := Lib.hid (by rw [hHl]; exact size80)
  have HAL : Hid ((w.alloc (.cells Y.toArray 94)).heap[w.heap.size]? = some (.cells Y.toArray 94 (0, 0))) := Lib.hid (heap_alloc_new w _)
  have HSZ : Hid (Y.toArray.size = H.toArray.size) := Lib.hid (by simp [hYl, hHl])
  have HS' : Hid ((Try.prog.info? 94).map (·.size) = some H.toArray.size) := Lib.hid (by rw [List.size_toArray, hHl]; exact size80)
  have H1 : Hid (H.toArray.all (·.oneCell') = true) := Lib.hid (all_oneCell_toArray (by rw [hH]; exact hcells_one _ _ _))
  have HF : Hid (HashOf ((w.alloc (.cells Y.toArray 94)).setRow w.heap.size H.toArray) w.heap.size m ∧ Below w.heap.size w ((w.alloc (.cells Y.toArray 94)).setRow w.heap.size H.toArray)) :=
    Lib.hid ⟨⟨tail, ⟨by rw [← hH]; exact setRow_heap _ _ _ _ 94 _ HAL.out, hh.2⟩, hT⟩, below_setRow ((Below.refl _ w).alloc (Nat.le_refl _) _) (Nat.le_refl _) _⟩
  clear hH hY hh hT hHl hYl
  go_enter Try.func18, Try.ntmps18
  go_wp2_with (first
    | (go_at_call 60; refine (HM.out).mono ?_; rintro e w1 ⟨rfl, rfl⟩)
    | ((with_reducible refine wpList_load_mid (op := ⟨some 9, _, _, _, _, _⟩) rfl 94 (.tmp 8) rfl g 0 ?_ H _ HRA.out Try.underlying94 rfl HS.out ?_); rfl)
    | ((with_reducible refine wpList_store_row rfl 94 (.tmp 3) (.tmp 9) rfl w.heap.size H.toArray ?_ ?_ 94 Y.toArray HAL.out HS'.out HSZ.out H1.out ?_); rfl; rfl))
  go_ret
  exact ⟨_, rfl, Nat.le_refl _, HF.out.1, HF.out.2⟩
end Go.Proofs.Ytcoiaddjfeaciaa
