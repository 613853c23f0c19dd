/- Contracts of the calls of a reader of package octet that was opened. Conditions: the bytes that are left are fewer than 900,000; a number that comes in is an int. -/
import Derived.Test.YteglihgoccemmaaRdra
import Derived.Test.YteglihgoccemmaaRdrs
namespace Go.Proofs.Yteglihgoccemmaa
open Go.RowKit
set_option linter.unusedVariables false

/-- A reader in block g that is as s says. -/
def RdrS (w : World) (g : Nat) (s : St) : Prop := Rdr w g s.ys s.bad ∧ (s.bad = true → s.ys = []) ∧ s.ys.length ≤ 900000

theorem isOpen_yes (g : Nat) (w : World) (h1 : w.cell? ⟨g, 1, none⟩ = some (.bool true)) : Calls Try.prog 49 #[.pointer (some ⟨g, 0, none⟩)] w fun e w' => e = .returned (.bool true) ∧ w = w' := by
  go_enter Try.func49, Try.ntmps49
  go_wp2
  go_ret
  exact ⟨rfl, rfl⟩

section
variable {w : World} {g : Nat} {s : St}
theorem RdrS.cells (h : RdrS w g s) : ∃ A c, w.heap[g]? = some (.cells #[.slice A s.ys.length c, .bool true, .bool s.bad] 57 (0, 0)) ∧ BAt w w.heap.size A s.ys ∧ s.ys.length ≤ c ∧
    w.cell? ⟨g, 0, none⟩ = some (.slice A s.ys.length c) ∧ w.cell? ⟨g, 1, none⟩ = some (.bool true) ∧ w.cell? ⟨g, 2, none⟩ = some (.bool s.bad) ∧ (∀ i, w.frozen? ⟨g, i, none⟩ = false) := by
  obtain ⟨⟨A, c, h, hx, hc⟩, _⟩ := h
  have c0 := cell_of_row w g 0 _ 57 (0, 0) h
  have c1 := cell_of_row w g 1 _ 57 (0, 0) h
  have c2 := cell_of_row w g 2 _ 57 (0, 0) h
  simp at c0 c1 c2
  exact ⟨A, c, h, hx, hc, c0, c1, c2, fun i => frozen_of_row w g i _ 57 h⟩

theorem bad_any (h : RdrS w g s) : Calls Try.prog 27 #[.pointer (some ⟨g, 0, none⟩)] w fun e w' => e = .returned (.bool s.bad) ∧ w = w' := by
  obtain ⟨A, c, hh, hx, hc, c0, c1, c2, hf⟩ := h.cells
  have HI := Lib.hid (isOpen_yes g w c1)
  clear hh hx h
  go_enter Try.func27, Try.ntmps27
  go_wp2_with (go_at_call 49; refine (HI.out).mono ?_; rintro e w1 ⟨rfl, rfl⟩)
  go_ret
  exact ⟨rfl, rfl⟩

theorem left_any (h : RdrS w g s) : Calls Try.prog 25 #[.pointer (some ⟨g, 0, none⟩)] w fun e w' => e = .returned (.int .i64 (s.ys.length : Int)) ∧ w = w' := by
  obtain ⟨A, c, hh, hx, hc, c0, c1, c2, hf⟩ := h.cells
  have HI := Lib.hid (isOpen_yes g w c1)
  have HL := Lib.hid (rest_left g s.ys.length c A w c0)
  clear hh hx h
  go_enter Try.func25, Try.ntmps25
  go_wp2_with (first
    | (go_at_call 49; refine (HI.out).mono ?_; rintro e w1 ⟨rfl, rfl⟩)
    | (go_at_call 50; refine (HL.out).mono ?_; rintro e w1 ⟨rfl, rfl⟩))
  go_ret
  exact ⟨rfl, rfl⟩

theorem done_any (h : RdrS w g s) : Calls Try.prog 28 #[.pointer (some ⟨g, 0, none⟩)] w fun e w' => e = .returned (.int .i64 (doneE s)) ∧ w = w' := by
  obtain ⟨A, c, hh, hx, hc, c0, c1, c2, hf⟩ := h.cells
  have HI := Lib.hid (isOpen_yes g w c1)
  have HL := Lib.hid (rest_left g s.ys.length c A w c0)
  unfold doneE
  clear hh hx h
  by_cases hb : s.bad = true
  · rw [if_pos (.inl hb)]
    rw [hb] at c2
    go_enter Try.func28, Try.ntmps28
    go_wp2_with (first
      | (go_at_call 49; refine (HI.out).mono ?_; rintro e w1 ⟨rfl, rfl⟩)
      | (go_at_call 50; refine (HL.out).mono ?_; rintro e w1 ⟨rfl, rfl⟩))
    go_ret
    exact ⟨rfl, rfl⟩
  · have hb' : s.bad = false := by simpa using hb
    rw [hb'] at c2
    by_cases hl : 0 < s.ys.length
    · rw [if_pos (.inr hl)]
      clear hb hb'
      have d : decide ((0 : Int) < (s.ys.length : Int)) = true := by simpa using hl
      go_enter Try.func28, Try.ntmps28
      go_wp2_with (first
        | (go_at_call 49; refine (HI.out).mono ?_; rintro e w1 ⟨rfl, rfl⟩)
        | (go_at_call 50; refine (HL.out).mono ?_; rintro e w1 ⟨rfl, rfl⟩))
      go_ret
      exact ⟨rfl, rfl⟩
    · rw [if_neg (fun h => h.elim hb hl)]
      clear hb hb'
      have d : decide ((0 : Int) < (s.ys.length : Int)) = false := by simpa using hl
      go_enter Try.func28, Try.ntmps28
      go_wp2_with (first
        | (go_at_call 49; refine (HI.out).mono ?_; rintro e w1 ⟨rfl, rfl⟩)
        | (go_at_call 50; refine (HL.out).mono ?_; rintro e w1 ⟨rfl, rfl⟩))
      go_ret
      exact ⟨rfl, rfl⟩

theorem RdrS.failed (h : Rdr w g [] true) : RdrS w g ⟨[], true⟩ := ⟨h, fun _ => rfl, by simp⟩
theorem RdrS.eta (h : RdrS w g s) (hb : s.bad = true) : RdrS w g ⟨[], true⟩ := by
  obtain ⟨h1, h2, h3⟩ := h
  have := h2 hb
  rw [this, hb] at h1
  exact RdrS.failed h1

/-- What a call of a reader leaves. -/
def NumP (w : World) (g : Nat) (s : St) (wd : Int) (e : Ending) (w' : World) : Prop := e = .returned (.int .u64 (numV s wd : Int)) ∧ RdrS w' g (numS s wd) ∧ w.grownBy w' (some g)

theorem num_any (h : RdrS w g s) (wd : Int) (hw : wd ≤ 9223372036854775807) : Calls Try.prog 19 #[.pointer (some ⟨g, 0, none⟩), .int .i64 wd] w (NumP w g s wd) := by
  obtain ⟨A, c, hh, hx, hc, c0, c1, c2, hf⟩ := h.cells
  have hlen := h.2.2
  have HB := Lib.hid (bad_any h)
  by_cases hb : s.bad = true
  · have hno : ¬ numOk s wd := fun hk => hb.symm.trans hk.1 |> fun h => by cases h
    have R : NumP w g s wd (.returned (.int .u64 0)) w := ⟨by simp [numV, hno], by simp only [numS, if_neg hno]; exact h.eta hb, World.grownBy.refl w _⟩
    have HR := Lib.hid R
    rw [hb] at HB
    clear hh hx h R hb hno
    go_enter Try.func19, Try.ntmps19
    go_wp2_with (go_at_call 27; refine (HB.out).mono ?_; rintro e w1 ⟨rfl, rfl⟩)
    go_ret
    exact HR.out
  · have hb' : s.bad = false := by simpa using hb
    rw [hb'] at HB
    by_cases hk : 1 ≤ wd ∧ wd ≤ 8 ∧ wd ≤ s.ys.length
    · obtain ⟨k, rfl⟩ : ∃ k : Nat, wd = k := ⟨wd.toNat, by omega⟩
      have hok : numOk s (k : Int) := ⟨hb', hk⟩
      have HN := Lib.hid (number_yes g c k A s.ys w c0 (hf 0) hx hlen (by omega) (by omega) (by omega))
      have R : NumP w g s k (.returned (.int .u64 (getN (s.ys.take k) : Int))) (w.setCell ⟨g, 0, none⟩ (.slice (cutA A c k) (s.ys.length - k) (c - k))) := by
        refine ⟨by simp [numV, hok], ?_, grownBy_setCell (World.grownBy.refl w _) _ _⟩
        simp only [numS, if_pos hok, Int.toNat_natCast]
        rw [hb'] at hh
        exact ⟨rdr_cut hh hx hc (by omega), by simp, by simp only [List.length_drop]; omega⟩
      have HR := Lib.hid R
      clear hh hx h R hb hb' hok
      go_enter Try.func19, Try.ntmps19
      go_wp2_with (first
        | (go_at_call 27; refine (HB.out).mono ?_; rintro e w1 ⟨rfl, rfl⟩)
        | (go_at_call 44; refine (HN.out).mono ?_; rintro e w1 ⟨rfl, rfl⟩))
      go_ret
      exact HR.out
    · have hno : ¬ numOk s wd := fun h' => hk h'.2
      have HN := Lib.hid (number_no g c A s.ys wd w c0 hlen hw hk)
      have HF := Lib.hid (fail_any g _ _ _ w hh)
      have R : ∀ w', Rdr w' g [] true ∧ w.grownBy w' (some g) → NumP w g s wd (.returned (.int .u64 0)) w' := fun w' hw' => ⟨by simp [numV, hno], by simp only [numS, if_neg hno]; exact RdrS.failed hw'.1, hw'.2⟩
      have HR := Lib.hid R
      clear hh hx h R hb hb' hno hk
      go_enter Try.func19, Try.ntmps19
      go_wp2_with (first
        | (go_at_call 27; refine (HB.out).mono ?_; rintro e w1 ⟨rfl, rfl⟩)
        | (go_at_call 44; refine (HN.out).mono ?_; rintro e w1 ⟨rfl, rfl⟩)
        | (go_at_call 45; refine (HF.out).mono ?_; rintro e w1 ⟨rfl, hr1⟩))
      go_ret
      exact HR.out _ hr1
end
end Go.Proofs.Yteglihgoccemmaa
