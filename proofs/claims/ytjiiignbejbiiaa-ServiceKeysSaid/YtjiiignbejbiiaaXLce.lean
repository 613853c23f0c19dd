/- Contract of Part. Conditions: at most 100,000 bytes. -/
import Derived.Test.YtjiiignbejbiiaaXLcd
namespace Go.Proofs.Ytjiiignbejbiiaa
open Go.Shelf Go.RowKit Go.Lib Go.Great
set_option maxRecDepth 100000
set_option maxHeartbeats 1000000
theorem fitsB_iff (c : UInt8) (b : Bool) : fitsB c b = true ↔ nameB c = true ∧ (c = 45 → b = false) := by
  have hc : (c = 45) ↔ c.toNat = 45 := ⟨fun h => by rw [h]; rfl, fun h => UInt8.toNat_inj.1 (by rw [h]; rfl)⟩
  rw [hc]
  unfold fitsB nameB letB capB digitB
  by_cases h : c.toNat = 45
  · rw [if_pos h]
    simp [h]
  · rw [if_neg h]
    simp only [Bool.or_eq_true, Bool.and_eq_true, decide_eq_true_iff, beq_iff_eq]
    omega
theorem fits_part (s : List UInt8) (h1 : 1 ≤ s.length) (h2 : s.length ≤ 63) : fitsTo s s.length ↔ partL s = true := by
  rw [partL_iff]
  constructor
  · intro h
    refine ⟨⟨h1, h2⟩, fun c hc => ?_, ?_, ?_⟩
    · obtain ⟨i, hi, rfl⟩ := List.mem_iff_getElem.1 hc
      have := ((fitsB_iff _ _).1 (h i hi)).1
      rwa [getElem!_pos s i hi] at this
    · intro e
      have := ((fitsB_iff _ _).1 (h 0 (by omega))).2 e
      simp at this
    · intro e
      have := ((fitsB_iff _ _).1 (h (s.length - 1) (by omega))).2 e
      simp at this
  · rintro ⟨_, h3, h4, h5⟩ j hj
    refine (fitsB_iff _ _).2 ⟨by rw [getElem!_pos s j hj]; exact h3 _ (List.getElem_mem hj), fun e => ?_⟩
    rw [Bool.or_eq_false_iff, decide_eq_false_iff_not, decide_eq_false_iff_not]
    exact ⟨fun e0 => h4 (e0 ▸ e), fun e0 => h5 (e0 ▸ e)⟩
theorem part_any (s : List UInt8) (w : World) : Calls Try.prog 11 #[.string (bstr s)] w fun e w' => e = .returned (.bool (partL s)) ∧ Below w.heap.size w w' := by
  by_cases h : s.length = 0 ∨ 63 < s.length
  · have : partL s = false := by
      rw [← Bool.not_eq_true, partL_iff]
      omega
    rw [this]
    exact part_long s h w
  · refine (part_short s (by omega) (by omega) w).mono ?_
    rintro e w' ⟨⟨b, rfl, hb⟩, hw⟩
    refine ⟨?_, hw⟩
    rw [Bool.eq_iff_iff.2 (hb.trans (fits_part s (by omega) (by omega)))]
end Go.Proofs.Ytjiiignbejbiiaa
