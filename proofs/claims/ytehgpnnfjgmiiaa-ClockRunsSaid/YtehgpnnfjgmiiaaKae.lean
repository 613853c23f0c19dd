/- New, Clone, Tick, Now and isMade of the program. No condition. -/
import Derived.Test.YtehgpnnfjgmiiaaKad
namespace Go.Proofs.Ytehgpnnfjgmiiaa
open Go.RowKit Go.Lib Go.Great
set_option maxRecDepth 100000
set_option maxHeartbeats 1000000
/-- A clock in block g that shows n. -/
def ClkAt (w : World) (g n : Nat) : Prop := w.heap[g]? = some (.cells #[.bool true, .int .u64 (n : Int)] 37 (0, 0))
theorem ClkAt.made {w : World} {g n : Nat} (h : ClkAt w g n) : w.cell? ⟨g, 0, none⟩ = some (.bool true) := by unfold World.cell?; rw [h]; rfl
theorem ClkAt.at_ {w : World} {g n : Nat} (h : ClkAt w g n) : w.cell? ⟨g, 1, none⟩ = some (.int .u64 (n : Int)) := by unfold World.cell?; rw [h]; rfl
theorem ClkAt.lt {w : World} {g n : Nat} (h : ClkAt w g n) : g < w.heap.size := (Array.getElem?_eq_some_iff.1 h).1
theorem made_yes (g n : Nat) (w : World) (h : ClkAt w g n) : Calls Try.prog 22 #[.pointer (some ⟨g, 0, none⟩)] w fun e w' => e = .returned (.bool true) ∧ w' = w := by
  have q := h.made
  clear h
  go_enter Try.func22, Try.ntmps22
  go_wp2
  go_ret
  exact ⟨rfl, rfl⟩
theorem made_nil (w : World) : Calls Try.prog 22 #[.pointer none] w fun e w' => e = .returned (.bool false) ∧ w' = w := by
  go_enter Try.func22, Try.ntmps22
  go_wp2
  go_ret
  exact ⟨rfl, rfl⟩
theorem made_no (g : Nat) (w : World) (q : w.cell? ⟨g, 0, none⟩ = some (.bool false)) : Calls Try.prog 22 #[.pointer (some ⟨g, 0, none⟩)] w fun e w' => e = .returned (.bool false) ∧ w' = w := by
  go_enter Try.func22, Try.ntmps22
  go_wp2
  go_ret
  exact ⟨rfl, rfl⟩
theorem new_any (n : Nat) (w : World) : Calls Try.prog 17 #[.int .u64 (n : Int)] w fun e w' => e = .returned (.pointer (some ⟨w.heap.size, 0, none⟩)) ∧ w' = w.alloc (.cells #[.bool true, .int .u64 (n : Int)] 37) := by
  go_enter Try.func17, Try.ntmps17
  go_wp2
  go_ret
  exact ⟨rfl, rfl⟩
theorem now_yes (g n : Nat) (w : World) (h : ClkAt w g n) : Calls Try.prog 20 #[.pointer (some ⟨g, 0, none⟩)] w fun e w' => e = .returned (.int .u64 (n : Int)) ∧ w' = w := by
  have q := h.at_
  have HM := Lib.hid (made_yes g n w h)
  clear h
  go_enter Try.func20, Try.ntmps20
  go_wp2_with (go_at_call 22; (with_reducible refine HM.out.mono ?_); rintro e w1 ⟨rfl, rfl⟩)
  go_ret
  exact ⟨rfl, rfl⟩
theorem now_nil (w : World) : Calls Try.prog 20 #[.pointer none] w fun e w' => e = .returned (.int .u64 0) ∧ w' = w := by
  have HM := Lib.hid (made_nil w)
  go_enter Try.func20, Try.ntmps20
  go_wp2_with (go_at_call 22; (with_reducible refine HM.out.mono ?_); rintro e w1 ⟨rfl, rfl⟩)
  go_ret
  exact ⟨rfl, rfl⟩
theorem now_no (g : Nat) (w : World) (q : w.cell? ⟨g, 0, none⟩ = some (.bool false)) : Calls Try.prog 20 #[.pointer (some ⟨g, 0, none⟩)] w fun e w' => e = .returned (.int .u64 0) ∧ w' = w := by
  have HM := Lib.hid (made_no g w q)
  go_enter Try.func20, Try.ntmps20
  go_wp2_with (go_at_call 22; (with_reducible refine HM.out.mono ?_); rintro e w1 ⟨rfl, rfl⟩)
  go_ret
  exact ⟨rfl, rfl⟩
theorem clone_yes (g n : Nat) (w : World) (h : ClkAt w g n) : Calls Try.prog 18 #[.pointer (some ⟨g, 0, none⟩)] w fun e w' => e = .returned (.pointer (some ⟨w.heap.size, 0, none⟩)) ∧ w' = w.alloc (.cells #[.bool true, .int .u64 (n : Int)] 37) := by
  have q := h.at_
  have HM := Lib.hid (made_yes g n w h)
  have HN := Lib.hid (new_any n w)
  clear h
  go_enter Try.func18, Try.ntmps18
  go_wp2_with (first
    | (go_at_call 22; (with_reducible refine HM.out.mono ?_); rintro e w1 ⟨rfl, rfl⟩)
    | (go_at_call 17; (with_reducible refine HN.out.mono ?_); rintro e w2 ⟨rfl, rfl⟩))
  go_ret
  exact ⟨rfl, rfl⟩
theorem clone_nil (w : World) : Calls Try.prog 18 #[.pointer none] w fun e w' => e = .returned (.pointer none) ∧ w' = w := by
  have HM := Lib.hid (made_nil w)
  go_enter Try.func18, Try.ntmps18
  go_wp2_with (go_at_call 22; (with_reducible refine HM.out.mono ?_); rintro e w1 ⟨rfl, rfl⟩)
  go_ret
  exact ⟨rfl, rfl⟩
theorem tick_nil (n : Nat) (w : World) : Calls Try.prog 19 #[.pointer none, .int .u64 (n : Int)] w fun e w' => e = .returned (.int .u64 0) ∧ w' = w := by
  have HM := Lib.hid (made_nil w)
  go_enter Try.func19, Try.ntmps19
  go_wp2_with (go_at_call 22; (with_reducible refine HM.out.mono ?_); rintro e w1 ⟨rfl, rfl⟩)
  go_ret
  exact ⟨rfl, rfl⟩
theorem tick_no (g n : Nat) (w : World) (q : w.cell? ⟨g, 0, none⟩ = some (.bool false)) : Calls Try.prog 19 #[.pointer (some ⟨g, 0, none⟩), .int .u64 (n : Int)] w fun e w' => e = .returned (.int .u64 0) ∧ w' = w := by
  have HM := Lib.hid (made_no g w q)
  go_enter Try.func19, Try.ntmps19
  go_wp2_with (go_at_call 22; (with_reducible refine HM.out.mono ?_); rintro e w1 ⟨rfl, rfl⟩)
  go_ret
  exact ⟨rfl, rfl⟩
theorem ClkAt.frozen {w : World} {g n : Nat} (h : ClkAt w g n) (i : Nat) : w.frozen? ⟨g, i, none⟩ = false := by unfold World.frozen?; rw [h]; simp
theorem ClkAt.below {w w' : World} {g n B : Nat} (h : ClkAt w g n) (hb : Below B w w') (hg : g < B) : ClkAt w' g n := (hb.block g hg).trans h
theorem tick_yes (g a n : Nat) (ha : a < 18446744073709551616) (hn : n < 18446744073709551616) (w : World) (h : ClkAt w g a) : Calls Try.prog 19 #[.pointer (some ⟨g, 0, none⟩), .int .u64 (n : Int)] w fun e w' => e = .returned (.int .u64 (addK a n : Int)) ∧ ClkAt w' g (addK a n) ∧ w'.heap.size = w.heap.size ∧ ∀ B, B ≤ g → Below B w w' := by
  have q := h.at_
  have f := h.frozen 1
  have HM := Lib.hid (made_yes g a w h)
  have HA := Lib.hid (add_any a n ha hn)
  generalize addK a n = z at *
  have HH : Hid (ClkAt (w.setCell ⟨g, 1, none⟩ (.int .u64 (z : Int))) g z ∧ (w.setCell ⟨g, 1, none⟩ (.int .u64 (z : Int))).heap.size = w.heap.size ∧ ∀ B, B ≤ g → Below B w (w.setCell ⟨g, 1, none⟩ (.int .u64 (z : Int)))) := Lib.hid ⟨heap_setCell_same w g 1 _ 37 (.int .u64 (z : Int)) h, by simp [World.setCell], fun B hB => (Below.refl B w).setCell hB _⟩
  clear h
  go_enter Try.func19, Try.ntmps19
  go_wp2_with (first
    | (go_at_call 22; (with_reducible refine HM.out.mono ?_); rintro e w1 ⟨rfl, rfl⟩)
    | (go_at_call 7; (with_reducible refine (HA.out _).mono ?_); rintro e w2 ⟨rfl, rfl⟩))
  go_ret
  exact ⟨rfl, HH.out⟩
end Go.Proofs.Ytehgpnnfjgmiiaa
