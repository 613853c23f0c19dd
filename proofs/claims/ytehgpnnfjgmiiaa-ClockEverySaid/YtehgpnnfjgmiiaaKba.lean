/- The walk of ClockEvery. No condition. -/
import Derived.Test.YtehgpnnfjgmiiaaKad
namespace Go.Proofs.Ytehgpnnfjgmiiaa
open Go.RowKit Go.Lib Go.Great
set_option maxRecDepth 100000
set_option maxHeartbeats 1000000
theorem addK_of {a b : Nat} (h : addK a b ≠ 18446744073709551615) : addK a b = a + b := by
  unfold addK at *
  by_cases hc : 18446744073709551615 < a + b
  · rw [if_pos hc] at h
    exact absurd rfl h
  · rw [if_neg hc]
theorem every_facts (f s n : Nat) (hf : f < 18446744073709551616) (hs : s < 18446744073709551616) (hn : n < 18446744073709551616) (h0 : s ≠ 0) (hz : everyK f s n ≠ 18446744073709551615) : n < everyK f s n ∧ f + s ≤ everyK f s n ∧ (everyK f s n - f) % s = 0 ∧ (everyK f s n - s = f ∨ everyK f s n - s ≤ n) := by
  unfold everyK at *
  rw [if_neg h0] at *
  split at hz
  · rename_i h
    rw [if_pos h]
    have h1 : addK f s = f + s := addK_of hz
    rw [h1] at h hz ⊢
    refine ⟨by omega, by omega, ?_, .inl (by omega)⟩
    rw [Nat.add_sub_cancel_left, Nat.mod_self]
  · rename_i h
    rw [if_neg h]
    have h1 : addK f s = f + s := addK_of (fun e => h (.inr e))
    rw [h1] at h hz ⊢
    have hm := Nat.div_add_mod (n - (f + s)) s
    rw [Nat.mul_comm] at hm
    have hlt := Nat.mod_lt (n - (f + s)) (by omega : s > 0)
    have h2 : addK (f + s + (n - (f + s)) / s * s) s = f + s + (n - (f + s)) / s * s + s := addK_of hz
    rw [h2] at hz ⊢
    refine ⟨by omega, by omega, ?_, .inr (by omega)⟩
    have : f + s + (n - (f + s)) / s * s + s - f = ((n - (f + s)) / s + 2) * s := by rw [Nat.add_mul]; omega
    rw [this, Nat.mul_mod_left]
theorem cevery_top (f s n : Nat) (hf : f < 18446744073709551616) (hs : s < 18446744073709551616) (hn : n < 18446744073709551616) (hz : everyK f s n = 18446744073709551615) (w : World) : Calls Try.prog 5 #[.int .u64 (f : Int), .int .u64 (s : Int), .int .u64 (n : Int)] w fun e w' => e = .returned (.bool true) ∧ Below w.heap.size w w' := by
  have HE : Hid (∀ W, Calls Try.prog 15 #[.int .u64 (f : Int), .int .u64 (s : Int), .int .u64 (n : Int)] W fun e w' => e = .returned (.int .u64 18446744073709551615) ∧ Below W.heap.size W w') := Lib.hid (fun W => by
    have := every_any f s n hf hs hn W
    rw [hz] at this
    exact this)
  have HL : Hid (∀ W, Below w.heap.size w W → Calls Try.prog 6 #[] W fun e w' => e = .returned (.bool true) ∧ Below w.heap.size w w') := Lib.hid (fun W hW => (lives_any W).mono (by
    rintro e w' ⟨rfl, hb⟩
    exact ⟨rfl, hW.trans (hb.mono hW.size)⟩))
  clear hz
  by_cases h0 : s = 0
  · subst h0
    simp only [show ((0 : Nat) : Int) = 0 from rfl] at *
    go_enter Try.func5, Try.ntmps5
    go_wp2_with (first
      | (go_at_call 15; (with_reducible refine (HE.out _).mono ?_); rintro e w1 ⟨rfl, hb1⟩)
      | (go_at_call 6; (with_reducible refine (HL.out _ hb1).mono ?_); rintro e w2 ⟨rfl, hb2⟩))
    go_ret
    exact ⟨rfl, hb2⟩
  · have h2 : ((s : Int) == 0) = false := by simp; omega
    go_enter Try.func5, Try.ntmps5
    go_wp2_with (first
      | (go_at_call 15; (with_reducible refine (HE.out _).mono ?_); rintro e w1 ⟨rfl, hb1⟩)
      | (go_at_call 6; (with_reducible refine (HL.out _ hb1).mono ?_); rintro e w2 ⟨rfl, hb2⟩))
    go_ret
    exact ⟨rfl, hb2⟩
theorem cevery_some (f s n : Nat) (hf : f < 18446744073709551616) (hs : s < 18446744073709551616) (hn : n < 18446744073709551616) (h0 : s ≠ 0) (hz : everyK f s n ≠ 18446744073709551615) (w : World) : Calls Try.prog 5 #[.int .u64 (f : Int), .int .u64 (s : Int), .int .u64 (n : Int)] w fun e w' => e = .returned (.bool true) ∧ Below w.heap.size w w' := by
  obtain ⟨p1, p2, p3, p4⟩ := every_facts f s n hf hs hn h0 hz
  have hzl := everyK_lt f s n
  have HE : Hid (∀ W, Calls Try.prog 15 #[.int .u64 (f : Int), .int .u64 (s : Int), .int .u64 (n : Int)] W fun e w' => e = .returned (.int .u64 (everyK f s n : Int)) ∧ Below W.heap.size W w') := Lib.hid (fun W => every_any f s n hf hs hn W)
  have HL : Hid (∀ W, Below w.heap.size w W → Calls Try.prog 6 #[] W fun e w' => e = .returned (.bool true) ∧ Below w.heap.size w w') := Lib.hid (fun W hW => (lives_any W).mono (by
    rintro e w' ⟨rfl, hb⟩
    exact ⟨rfl, hW.trans (hb.mono hW.size)⟩))
  generalize everyK f s n = z at *
  have h2 : ((s : Int) == 0) = false := by simp; omega
  have h3 : ¬ (s : Int) = 0 := by omega
  have h4 : ((z : Int) == 18446744073709551615) = false := by simp; omega
  have h5 : (n : Int) < (z : Int) := by omega
  have h6 : (f : Int) < (z : Int) := by omega
  have h7 : ((z : Int) - (f : Int)) % (s : Int) = 0 := by
    have e : (z : Int) - (f : Int) = ((z - f : Nat) : Int) := by omega
    rw [e, ← Int.natCast_emod, p3]; rfl
  have h8 : ((z : Int) - (s : Int) == (f : Int)) = decide (z - s = f) := by
    by_cases h : z - s = f
    · rw [decide_eq_true h]; simp; omega
    · rw [decide_eq_false h]; simp; omega
  have h9 : z - s ≠ f → (z : Int) - (s : Int) ≤ (n : Int) := by omega
  clear p1 p3
  by_cases hc : z - s = f
  · rw [decide_eq_true hc] at h8
    clear h9 p4 hc
    go_enter Try.func5, Try.ntmps5
    go_wp2_with (first
      | (go_at_call 15; (with_reducible refine (HE.out _).mono ?_); rintro e w1 ⟨rfl, hb1⟩)
      | (go_at_call 6; (with_reducible refine (HL.out _ hb1).mono ?_); rintro e w2 ⟨rfl, hb2⟩))
    go_ret
    exact ⟨rfl, hb2⟩
  · rw [decide_eq_false hc] at h8
    have h9 := h9 hc
    clear p4 hc
    go_enter Try.func5, Try.ntmps5
    go_wp2_with (first
      | (go_at_call 15; (with_reducible refine (HE.out _).mono ?_); rintro e w1 ⟨rfl, hb1⟩)
      | (go_at_call 6; (with_reducible refine (HL.out _ hb1).mono ?_); rintro e w2 ⟨rfl, hb2⟩))
    go_ret
    exact ⟨rfl, hb2⟩
theorem cevery_walk (f s n : Nat) (hf : f < 18446744073709551616) (hs : s < 18446744073709551616) (hn : n < 18446744073709551616) (w : World) : Calls Try.prog 5 #[.int .u64 (f : Int), .int .u64 (s : Int), .int .u64 (n : Int)] w fun e w' => e = .returned (.bool true) ∧ Below w.heap.size w w' := by
  by_cases hz : everyK f s n = 18446744073709551615
  · exact cevery_top f s n hf hs hn hz w
  · by_cases h0 : s = 0
    · subst h0
      exact absurd (by unfold everyK; rw [if_pos rfl]) hz
    · exact cevery_some f s n hf hs hn h0 hz w
end Go.Proofs.Ytehgpnnfjgmiiaa
