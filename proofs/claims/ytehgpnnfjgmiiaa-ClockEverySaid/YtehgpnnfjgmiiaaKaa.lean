/- Ticks, plain; Add, Sub, Due of the program and of the reference. No condition. -/
import Derived.Test.YtehgpnnfjgmiiaaProg
import Derived.Test.YtehgpnnfjgmiiaaRows
import Derived.WalkKit
import Derived.LoopTactic
import Derived.ProofKit
import Derived.OpenShut
import Derived.ChangeOld
import Derived.Below
import Derived.BigQuiet
import Derived.RegionTactic
import Derived.RegionCalls
import Derived.Deep.RegionHeld3
import Derived.Deep.QuietTactic
import Derived.Great.BuildSlice
import Derived.Lib.Hide
import Derived.Shelf.Abstract
import Derived.Deep.Slices
import Derived.Laws.Rows
namespace Go.Proofs.Ytehgpnnfjgmiiaa
open Go.RowKit Go.Lib Go.Great
set_option maxRecDepth 100000
set_option maxHeartbeats 1000000
def topK : Nat := 18446744073709551615
def addK (a b : Nat) : Nat := if 18446744073709551615 < a + b then 18446744073709551615 else a + b
def subK (a b : Nat) : Nat := a - b
def dueK (a n : Nat) : Bool := decide (a ≤ n) && !decide (a = 18446744073709551615)
def everyK (f s n : Nat) : Nat := if s = 0 then 18446744073709551615 else if addK f s > n ∨ addK f s = 18446744073709551615 then addK f s else addK (addK f s + (n - addK f s) / s * s) s
theorem addK_lt (a b : Nat) : addK a b < 18446744073709551616 := by unfold addK; split <;> omega
theorem addK_le (a b : Nat) (ha : a < 18446744073709551616) : a ≤ addK a b := by unfold addK; split <;> omega
theorem everyK_lt (f s n : Nat) : everyK f s n < 18446744073709551616 := by
  unfold everyK
  split
  · omega
  · split
    · exact addK_lt _ _
    · exact addK_lt _ _
theorem add_any (a b : Nat) (ha : a < 18446744073709551616) (hb : b < 18446744073709551616) (w : World) : Calls Try.prog 7 #[.int .u64 (a : Int), .int .u64 (b : Int)] w fun e w' => e = .returned (.int .u64 (addK a b : Int)) ∧ w' = w := by
  by_cases h : 18446744073709551615 < a + b
  · have h1 : addK a b = 18446744073709551615 := by unfold addK; rw [if_pos h]
    have h2 : (18446744073709551615 : Int) - (a : Int) < (b : Int) := by omega
    have h3 : ((18446744073709551615 : Int) - (a : Int)) % 18446744073709551616 = 18446744073709551615 - a := by omega
    rw [h1]
    go_enter Try.func7, Try.ntmps7
    go_wp2
    go_ret
    exact ⟨rfl, rfl⟩
  · have h1 : addK a b = a + b := by unfold addK; rw [if_neg h]
    have h2 : ¬ (18446744073709551615 : Int) - (a : Int) < (b : Int) := by omega
    have h3 : ((18446744073709551615 : Int) - (a : Int)) % 18446744073709551616 = 18446744073709551615 - a := by omega
    have h4 : ((a : Int) + (b : Int)) % 18446744073709551616 = a + b := by omega
    rw [h1]
    go_enter Try.func7, Try.ntmps7
    go_wp2
    go_ret
    exact ⟨by simp, rfl⟩
theorem radd_any (a b : Nat) (ha : a < 18446744073709551616) (hb : b < 18446744073709551616) (w : World) : Calls Try.prog 8 #[.int .u64 (a : Int), .int .u64 (b : Int)] w fun e w' => e = .returned (.int .u64 (addK a b : Int)) ∧ w' = w := by
  by_cases h : 18446744073709551615 < a + b
  · have h1 : addK a b = 18446744073709551615 := by unfold addK; rw [if_pos h]
    have h2 : (18446744073709551615 : Int) - (b : Int) < (a : Int) := by omega
    have h3 : ((18446744073709551615 : Int) - (b : Int)) % 18446744073709551616 = 18446744073709551615 - b := by omega
    rw [h1]
    go_enter Try.func8, Try.ntmps8
    go_wp2
    go_ret
    exact ⟨rfl, rfl⟩
  · have h1 : addK a b = a + b := by unfold addK; rw [if_neg h]
    have h2 : ¬ (18446744073709551615 : Int) - (b : Int) < (a : Int) := by omega
    have h3 : ((18446744073709551615 : Int) - (b : Int)) % 18446744073709551616 = 18446744073709551615 - b := by omega
    have h4 : ((a : Int) + (b : Int)) % 18446744073709551616 = a + b := by omega
    rw [h1]
    go_enter Try.func8, Try.ntmps8
    go_wp2
    go_ret
    exact ⟨by simp, rfl⟩
theorem sub_any (a b : Nat) (ha : a < 18446744073709551616) (hb : b < 18446744073709551616) (w : World) : Calls Try.prog 9 #[.int .u64 (a : Int), .int .u64 (b : Int)] w fun e w' => e = .returned (.int .u64 (subK a b : Int)) ∧ w' = w := by
  by_cases h : a < b
  · have h1 : subK a b = 0 := by unfold subK; omega
    have h2 : (a : Int) < (b : Int) := by omega
    rw [h1]
    go_enter Try.func9, Try.ntmps9
    go_wp2
    go_ret
    exact ⟨rfl, rfl⟩
  · have h2 : ¬ (a : Int) < (b : Int) := by omega
    have h3 : ((subK a b : Nat) : Int) = (a : Int) - b := by unfold subK; omega
    have h4 : ((a : Int) - (b : Int)) % 18446744073709551616 = (a : Int) - b := by omega
    rw [h3]
    go_enter Try.func9, Try.ntmps9
    go_wp2
    go_ret
    exact ⟨rfl, rfl⟩
theorem rsub_any (a b : Nat) (ha : a < 18446744073709551616) (hb : b < 18446744073709551616) (w : World) : Calls Try.prog 10 #[.int .u64 (a : Int), .int .u64 (b : Int)] w fun e w' => e = .returned (.int .u64 (subK a b : Int)) ∧ w' = w := by
  by_cases h : a < b
  · have h1 : subK a b = 0 := by unfold subK; omega
    have h2 : (a : Int) < (b : Int) := by omega
    rw [h1]
    go_enter Try.func10, Try.ntmps10
    go_wp2
    go_ret
    exact ⟨rfl, rfl⟩
  · have h2 : ¬ (a : Int) < (b : Int) := by omega
    have h3 : ((subK a b : Nat) : Int) = (a : Int) - b := by unfold subK; omega
    have h4 : ((a : Int) - (b : Int)) % 18446744073709551616 = (a : Int) - b := by omega
    rw [h3]
    go_enter Try.func10, Try.ntmps10
    go_wp2
    go_ret
    exact ⟨rfl, rfl⟩
theorem due_any (a n : Nat) (w : World) : Calls Try.prog 11 #[.int .u64 (a : Int), .int .u64 (n : Int)] w fun e w' => e = .returned (.bool (dueK a n)) ∧ w' = w := by
  by_cases h : a ≤ n
  · have h2 : (a : Int) ≤ (n : Int) := by omega
    by_cases h3 : a = 18446744073709551615
    · have h1 : dueK a n = false := by unfold dueK; rw [decide_eq_true h3]; simp
      have h4 : ((a : Int) != 18446744073709551615) = false := by simp; omega
      rw [h1]
      go_enter Try.func11, Try.ntmps11
      go_wp2
      go_ret
      exact ⟨rfl, rfl⟩
    · have h1 : dueK a n = true := by unfold dueK; rw [decide_eq_true h, decide_eq_false h3]; rfl
      have h4 : ((a : Int) != 18446744073709551615) = true := by simp; omega
      rw [h1]
      go_enter Try.func11, Try.ntmps11
      go_wp2
      go_ret
      exact ⟨rfl, rfl⟩
  · have h2 : ¬ (a : Int) ≤ (n : Int) := by omega
    have h1 : dueK a n = false := by unfold dueK; rw [decide_eq_false h, Bool.false_and]
    rw [h1]
    go_enter Try.func11, Try.ntmps11
    go_wp2
    go_ret
    exact ⟨rfl, rfl⟩
theorem rdue_any (a n : Nat) (w : World) : Calls Try.prog 12 #[.int .u64 (a : Int), .int .u64 (n : Int)] w fun e w' => e = .returned (.bool (dueK a n)) ∧ w' = w := by
  by_cases h3 : a = 18446744073709551615
  · have h1 : dueK a n = false := by unfold dueK; rw [decide_eq_true h3]; simp
    have h4 : ((a : Int) != 18446744073709551615) = false := by simp; omega
    rw [h1]
    go_enter Try.func12, Try.ntmps12
    go_wp2
    go_ret
    exact ⟨rfl, rfl⟩
  · have h4 : ((a : Int) != 18446744073709551615) = true := by simp; omega
    by_cases h : a ≤ n
    · have h2 : (a : Int) ≤ (n : Int) := by omega
      have h1 : dueK a n = true := by unfold dueK; rw [decide_eq_true h, decide_eq_false h3]; rfl
      rw [h1]
      go_enter Try.func12, Try.ntmps12
      go_wp2
      go_ret
      exact ⟨rfl, rfl⟩
    · have h2 : ¬ (a : Int) ≤ (n : Int) := by omega
      have h1 : dueK a n = false := by unfold dueK; rw [decide_eq_false h, Bool.false_and]
      rw [h1]
      go_enter Try.func12, Try.ntmps12
      go_wp2
      go_ret
      exact ⟨rfl, rfl⟩
end Go.Proofs.Ytehgpnnfjgmiiaa
