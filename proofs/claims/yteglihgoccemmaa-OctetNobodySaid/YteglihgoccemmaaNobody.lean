/- A reader that no call made tells nothing: for every number. Every call of a nil reader, and of one that was not opened, answers its zero value. No condition. -/
import Derived.Test.YteglihgoccemmaaOcta
import Derived.LoopTactic
namespace Go.Proofs.Yteglihgoccemmaa
open Go.RowKit

/-- A pointer to no reader, or to one that was not opened. -/
def NotOpen (w : World) (p : Option Addr) : Prop := p = none ∨ ∃ g, p = some ⟨g, 0, none⟩ ∧ w.cell? ⟨g, 1, none⟩ = some (.bool false)

theorem isOpen_no (p : Option Addr) (w : World) (h : NotOpen w p) : Calls Try.prog 49 #[.pointer p] w fun e w' => e = .returned (.bool false) ∧ w = w' := by
  rcases h with rfl | ⟨g, rfl, hc⟩
  · go_enter Try.func49, Try.ntmps49
    go_wp2
    go_ret
    exact ⟨rfl, rfl⟩
  · go_enter Try.func49, Try.ntmps49
    go_wp2
    go_ret
    exact ⟨rfl, rfl⟩

theorem bad_no (p : Option Addr) (w : World) (h : NotOpen w p) : Calls Try.prog 27 #[.pointer p] w fun e w' => e = .returned (.bool true) ∧ w = w' := by
  go_enter Try.func27, Try.ntmps27
  go_wp2_with (go_at_call 49; refine (isOpen_no p w h).mono ?_; rintro e w1 ⟨rfl, rfl⟩)
  go_ret
  exact ⟨rfl, rfl⟩

theorem left_no (p : Option Addr) (w : World) (h : NotOpen w p) : Calls Try.prog 25 #[.pointer p] w fun e w' => e = .returned (.int .i64 0) ∧ w = w' := by
  go_enter Try.func25, Try.ntmps25
  go_wp2_with (go_at_call 49; refine (isOpen_no p w h).mono ?_; rintro e w1 ⟨rfl, rfl⟩)
  go_ret
  exact ⟨rfl, rfl⟩

theorem done_no (p : Option Addr) (w : World) (h : NotOpen w p) : Calls Try.prog 28 #[.pointer p] w fun e w' => e = .returned (.int .i64 1) ∧ w = w' := by
  go_enter Try.func28, Try.ntmps28
  go_wp2_with (go_at_call 49; refine (isOpen_no p w h).mono ?_; rintro e w1 ⟨rfl, rfl⟩)
  go_ret
  exact ⟨rfl, rfl⟩

theorem num_no (p : Option Addr) (n : Int) (w : World) (h : NotOpen w p) : Calls Try.prog 19 #[.pointer p, .int .i64 n] w fun e w' => e = .returned (.int .u64 0) ∧ w = w' := by
  go_enter Try.func19, Try.ntmps19
  go_wp2_with (go_at_call 27; refine (bad_no p w h).mono ?_; rintro e w1 ⟨rfl, rfl⟩)
  go_ret
  exact ⟨rfl, rfl⟩

theorem take_no (p : Option Addr) (n : Int) (w : World) (h : NotOpen w p) : Calls Try.prog 21 #[.pointer p, .int .i64 n] w fun e w' => e = .returned (.slice none 0 0) ∧ w = w' := by
  go_enter Try.func21, Try.ntmps21
  go_wp2_with (go_at_call 27; refine (bad_no p w h).mono ?_; rintro e w1 ⟨rfl, rfl⟩)
  go_ret
  exact ⟨rfl, rfl⟩

theorem rtext_no (p : Option Addr) (n : Int) (w : World) (h : NotOpen w p) : Calls Try.prog 23 #[.pointer p, .int .i64 n] w fun e w' => e = .returned (.string ⟨#[]⟩) ∧ w = w' := by
  go_enter Try.func23, Try.ntmps23
  go_wp2_with (go_at_call 27; refine (bad_no p w h).mono ?_; rintro e w1 ⟨rfl, rfl⟩)
  go_ret
  exact ⟨rfl, rfl⟩

set_option maxRecDepth 100000 in
theorem nobody_walk (n : Int) (w : World) : Calls Try.prog 6 #[.int .i64 n] w fun e w' => e = .returned (.bool true) ∧ Below w.heap.size w w' := by
  have hno : NotOpen ((w.alloc (.cells #[.slice none 0 0, .bool false, .bool false] 57)).alloc (.cells #[.pointer none, .pointer (some ⟨w.heap.size, 0, none⟩)] 35)) (some ⟨w.heap.size, 0, none⟩) := .inr ⟨_, rfl, by go_simp⟩
  have hni : ∀ W, NotOpen W none := fun _ => .inl rfl
  go_enter Try.func6, Try.ntmps6
  go_wp2
  go_loop [11] (fun i => ∃ j : Nat, j ≤ 2 ∧ i = .int .i64 j) (fun i => 2 - (intOf i).toNat)
  case atStart => exact ⟨0, by omega, rfl⟩
  case round =>
    obtain ⟨j, hj, rfl⟩ := hrel
    match j, hj with
    | 0, _ =>
      go_wp2_with (first
        | (go_at_call 19; refine (num_no none n _ (hni _)).mono ?_; rintro e w1 ⟨rfl, rfl⟩)
        | (go_at_call 21; refine (take_no none n _ (hni _)).mono ?_; rintro e w1 ⟨rfl, rfl⟩)
        | (go_at_call 23; refine (rtext_no none n _ (hni _)).mono ?_; rintro e w1 ⟨rfl, rfl⟩)
        | (go_at_call 25; refine (left_no none _ (hni _)).mono ?_; rintro e w1 ⟨rfl, rfl⟩)
        | (go_at_call 27; refine (bad_no none _ (hni _)).mono ?_; rintro e w1 ⟨rfl, rfl⟩)
        | (go_at_call 28; refine (done_no none _ (hni _)).mono ?_; rintro e w1 ⟨rfl, rfl⟩))
      go_round
      case rel => exact ⟨1, by omega, rfl⟩
      case measure => simp [intOf]
    | 1, _ =>
      go_wp2_with (first
        | (go_at_call 19; refine (num_no _ n _ hno).mono ?_; rintro e w1 ⟨rfl, rfl⟩)
        | (go_at_call 21; refine (take_no _ n _ hno).mono ?_; rintro e w1 ⟨rfl, rfl⟩)
        | (go_at_call 23; refine (rtext_no _ n _ hno).mono ?_; rintro e w1 ⟨rfl, rfl⟩)
        | (go_at_call 25; refine (left_no _ _ hno).mono ?_; rintro e w1 ⟨rfl, rfl⟩)
        | (go_at_call 27; refine (bad_no _ _ hno).mono ?_; rintro e w1 ⟨rfl, rfl⟩)
        | (go_at_call 28; refine (done_no _ _ hno).mono ?_; rintro e w1 ⟨rfl, rfl⟩))
      go_round
      case rel => exact ⟨2, by omega, rfl⟩
      case measure => simp [intOf]
    | 2, _ =>
      go_wp2_with (go_at_call 11; refine (lives_any _).mono ?_; rintro e w1 ⟨rfl, hb1⟩)
      go_ret
      exact ⟨rfl, (((Below.refl _ w).alloc (Nat.le_refl _) _).alloc (by simp) _).trans (hb1.mono (by simp; omega))⟩
end Go.Proofs.Yteglihgoccemmaa
