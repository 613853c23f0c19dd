/- The walk of the statement ShaNobody of this seat: it answers true for every slice. No condition. -/
import Derived.Test.YteglihgoccemmaaShak
namespace Go.Proofs.Yteglihgoccemmaa
open Go.RowKit Go.Great
set_option linter.unusedVariables false
set_option linter.unusedSimpArgs false

def SNRel (w0 : World) (i : Value) (wr : World) : Prop := ∃ j : Nat, j ≤ 2 ∧ i = .int .i64 (j : Int) ∧ Below w0.heap.size w0 wr

set_option maxRecDepth 100000 in
theorem snobody_walk (A : Option Addr) (n c : Nat) (w : World) : Calls Try.prog 10 #[.slice A n c] w fun e w' => e = .returned (.bool true) ∧ Below w.heap.size w w' := by
  obtain ⟨Y, hY⟩ : ∃ Y : List Value, Y = (.int .u32 0 :: .int .u32 0 :: .int .u32 0 :: .int .u32 0 :: .int .u32 0 :: (bcells (List.replicate 64 0) ++ [.int .u64 0])) := ⟨_, rfl⟩
  have hy := fun W => zero80 W
  rw [← hY] at hy
  obtain ⟨Z, hZ⟩ : ∃ Z, Z = bcells (List.replicate 20 0) := ⟨_, rfl⟩
  have hz := fun W => zero61 W
  rw [← hZ] at hz
  have heq : ∀ W, (Op.equalIn 10000 61 (.agg Z.toArray) (.agg Z.toArray)).run Try.prog W = .ok true W := fun W => by
    rw [hZ, eq61 _ _ (by simp) (by simp)]
    simp
  have HZ := Lib.hid hZ
  clear hY hZ
  by_cases h5 : 500 < n
  · have h5' : (500 : Int) < (n : Int) := by omega
    go_enter Try.func10, Try.ntmps10
    go_wp2_with (go_at_call 31; refine (slives_any _).mono ?_; rintro e w1 ⟨rfl, hb1⟩)
    go_ret
    exact ⟨rfl, hb1⟩
  · have h5' : ¬ (500 : Int) < (n : Int) := by omega
    obtain ⟨w0, hw0⟩ : ∃ w0, w0 = (w.alloc (.cells (Value.bool false :: Y).toArray 80)).alloc (.cells #[.pointer none, .pointer (some ⟨w.heap.size, 0, none⟩)] 68) := ⟨_, rfl⟩
    have hb0 : Below w.heap.size w w0 := by rw [hw0]; exact ((Below.refl _ w).alloc (Nat.le_refl _) _).alloc (by simp) _
    have hs0 : w0.heap.size = w.heap.size + 2 := by rw [hw0]; simp
    have hc0 : w0.cell? ⟨w.heap.size + 1, 0, none⟩ = some (.pointer none) ∧ w0.cell? ⟨w.heap.size + 1, 1, none⟩ = some (.pointer (some ⟨w.heap.size, 0, none⟩)) ∧ w0.cell? ⟨w.heap.size, 0, none⟩ = some (.bool false) := by
      rw [hw0]
      refine ⟨?_, ?_, ?_⟩ <;> go_simp
    have hC : ∀ W, Below w0.heap.size w0 W → W.cell? ⟨w.heap.size + 1, 0, none⟩ = some (.pointer none) ∧ W.cell? ⟨w.heap.size + 1, 1, none⟩ = some (.pointer (some ⟨w.heap.size, 0, none⟩)) ∧ NotMade W (some ⟨w.heap.size, 0, none⟩) := fun W hb =>
      ⟨(hb.cell (p := ⟨w.heap.size + 1, 0, none⟩) (by show w.heap.size + 1 < _; omega)).trans hc0.1, (hb.cell (p := ⟨w.heap.size + 1, 1, none⟩) (by show w.heap.size + 1 < _; omega)).trans hc0.2.1, .inr ⟨_, rfl, (hb.cell (p := ⟨w.heap.size, 0, none⟩) (by show w.heap.size < _; omega)).trans hc0.2.2⟩⟩
    have HC := Lib.hid hC
    have HW0 := Lib.hid hw0
    have HB0 := Lib.hid hb0
    have HS0 := Lib.hid hs0
    have HSUM : Hid (∀ p W, NotMade W p → Calls Try.prog 39 #[.pointer p] W fun e w' => e = .returned (.agg Z.toArray) ∧ Below W.heap.size W w') := Lib.hid (fun p W h => by rw [HZ.out]; exact sum_no p W h)
    clear hC hw0 hb0 hs0 hc0
    go_enter Try.func10, Try.ntmps10
    go_wp2_with (go_at_call 37; refine (clone_no none _ (.inl rfl)).mono ?_; rintro e w1 ⟨rfl, rfl⟩)
    rw [← HW0.out]
    go_loopw [18] (SNRel w0) (fun i _ => 2 - (intOf i).toNat)
    case atStart => exact ⟨0, by omega, rfl, Below.refl _ _⟩
    case round =>
      obtain ⟨j, hj, rfl, hbl⟩ := hrel
      obtain ⟨c0, c1, hnm⟩ := HC.out wr hbl
      have HBL := Lib.hid hbl
      have HNM := Lib.hid hnm
      clear hbl hnm
      match j, hj with
      | 0, _ =>
        go_wp2_with (first
          | (go_at_call 38; refine (write_no none _ (.inl rfl) A n c).mono ?_; rintro e w1 ⟨rfl, rfl⟩)
          | (go_at_call 39; refine (HSUM.out none _ (.inl rfl)).mono ?_; rintro e w2 ⟨rfl, hb2⟩)
          | (go_at_call 40; refine (len_no none _ (.inl rfl)).mono ?_; rintro e w1 ⟨rfl, rfl⟩))
        go_roundw
        case rel => exact ⟨1, by omega, rfl, HBL.out.trans (hb2.mono HBL.out.size)⟩
        case measure => simp [intOf]
      | 1, _ =>
        go_wp2_with (first
          | (go_at_call 38; refine (write_no (some ⟨w.heap.size, 0, none⟩) _ HNM.out A n c).mono ?_; rintro e w1 ⟨rfl, rfl⟩)
          | (go_at_call 39; refine (HSUM.out (some ⟨w.heap.size, 0, none⟩) _ HNM.out).mono ?_; rintro e w2 ⟨rfl, hb2⟩)
          | (go_at_call 40; refine (len_no (some ⟨w.heap.size, 0, none⟩) _ (HNM.out.below hb2)).mono ?_; rintro e w1 ⟨rfl, rfl⟩))
        go_roundw
        case rel => exact ⟨2, by omega, rfl, HBL.out.trans (hb2.mono HBL.out.size)⟩
        case measure => simp [intOf]
      | 2, _ =>
        go_wp2_with (go_at_call 31; refine (slives_any _).mono ?_; rintro e w1 ⟨rfl, hb1⟩)
        go_ret
        have l0 := HBL.out.size
        have l1 := HB0.out.size
        exact ⟨rfl, HB0.out.trans ((HBL.out.mono l1).trans (hb1.mono (Nat.le_trans l1 l0)))⟩
end Go.Proofs.Yteglihgoccemmaa
