/- Walk of LabelTells. No condition. -/
import Derived.Test.YtjiiignbejbiiaaLla
namespace Go.Proofs.Ytjiiignbejbiiaa
open Go.Shelf Go.RowKit Go.Lib Go.Great
set_option maxRecDepth 100000
set_option maxHeartbeats 2000000
theorem parts_at (s : List UInt8) (hs : s.length ≤ 100000) (w : World) : Calls Try.prog 16 #[.string (bstr s)] w fun e w' => ∃ A c, e = .returned (.slice A (splitD s).length c) ∧ (splitD s).length ≤ c ∧ SAt w' w'.heap.size A (splitD s) ∧ Below w.heap.size w w' := by
  refine (parts_any s hs w).mono ?_
  rintro e w' ⟨v, rfl, h1, h2⟩
  obtain ⟨A, c, rfl, h3, h4⟩ := h1.at_
  exact ⟨A, c, rfl, h3, h4, h2⟩
theorem ltells_walk (s z : List UInt8) (w : World) :
    Calls Try.prog 3 #[.string (bstr s), .string (bstr z)] w fun e w' => e = .returned (.bool true) ∧ Below w.heap.size w w' := by
  have hss := bstr_size s
  have hsz := bstr_size z
  have HB := Lib.hid (Below.refl w.heap.size w)
  have HB0 := HB.out
  have HLI : Hid (∀ W, Below w.heap.size w W → Calls Try.prog 10 #[] W fun e w' => e = .returned (.bool true) ∧ Below w.heap.size w w') := Lib.hid (fun W hW => (lives_any W).mono (by rintro e w' ⟨rfl, h⟩; exact ⟨rfl, hW.trans (h.mono hW.size)⟩))
  by_cases hbig : s.length ≤ 600 ∧ z.length ≤ 600
  · obtain ⟨h1, h2⟩ := hbig
    have h1' : ¬ (600 : Int) < (s.length : Int) := by omega
    have h2' : ¬ (600 : Int) < (z.length : Int) := by omega
    have HPA : Hid (∀ W, Below w.heap.size w W → Calls Try.prog 11 #[.string (bstr s)] W fun e w' => e = .returned (.bool (partL s)) ∧ Below w.heap.size w w') := Lib.hid (fun W hW => (part_any s W).mono (by rintro e w' ⟨rfl, h⟩; exact ⟨rfl, hW.trans (h.mono hW.size)⟩))
    have HRP : Hid (∀ W, Below w.heap.size w W → Calls Try.prog 12 #[.string (bstr s)] W fun e w' => e = .returned (.bool (partL s)) ∧ Below w.heap.size w w') := Lib.hid (fun W hW => (rpart_any s (by omega) W).mono (by rintro e w' ⟨rfl, h⟩; exact ⟨rfl, hW.trans (h.mono hW.size)⟩))
    have HGA : Hid (∀ W, Below w.heap.size w W → Calls Try.prog 13 #[.string (bstr s)] W fun e w' => e = .returned (.bool (goodL s)) ∧ Below w.heap.size w w') := Lib.hid (fun W hW => (goodp_any s W).mono (by rintro e w' ⟨rfl, h⟩; exact ⟨rfl, hW.trans (h.mono hW.size)⟩))
    have HRG : Hid (∀ W, Below w.heap.size w W → Calls Try.prog 14 #[.string (bstr s)] W fun e w' => e = .returned (.bool (goodL s)) ∧ Below w.heap.size w w') := Lib.hid (fun W hW => (rgood_any s (by omega) W).mono (by rintro e w' ⟨rfl, h⟩; exact ⟨rfl, hW.trans (h.mono hW.size)⟩))
    have HFS : Hid (∀ W, Below w.heap.size w W → Calls Try.prog 18 #[.string (bstr s)] W fun e w' => e = .returned (.string (bstr (foldL s))) ∧ Below w.heap.size w w') := Lib.hid (fun W hW => (fold_any s (by omega) W).mono (by rintro e w' ⟨rfl, h⟩; exact ⟨rfl, hW.trans (h.mono hW.size)⟩))
    have HRS : Hid (∀ W, Below w.heap.size w W → Calls Try.prog 19 #[.string (bstr s)] W fun e w' => e = .returned (.string (bstr (foldL s))) ∧ Below w.heap.size w w') := Lib.hid (fun W hW => (rfold_any s (by omega) W).mono (by rintro e w' ⟨rfl, h⟩; exact ⟨rfl, hW.trans (h.mono hW.size)⟩))
    have HRZ : Hid (∀ W, Below w.heap.size w W → Calls Try.prog 19 #[.string (bstr z)] W fun e w' => e = .returned (.string (bstr (foldL z))) ∧ Below w.heap.size w w') := Lib.hid (fun W hW => (rfold_any z (by omega) W).mono (by rintro e w' ⟨rfl, h⟩; exact ⟨rfl, hW.trans (h.mono hW.size)⟩))
    have HSM : Hid (∀ W, Below w.heap.size w W → Calls Try.prog 20 #[.string (bstr s), .string (bstr z)] W fun e w' => e = .returned (.bool (foldL s == foldL z)) ∧ Below w.heap.size w w') := Lib.hid (fun W hW => (same_any s z (by omega) (by omega) W).mono (by rintro e w' ⟨rfl, h⟩; exact ⟨rfl, hW.trans (h.mono hW.size)⟩))
    have HU : Hid (∀ W, Below w.heap.size w W → Calls Try.prog 21 #[.string (bstr s), .string (bstr z)] W fun e w' => e = .returned (.bool (underL s z)) ∧ Below w.heap.size w w') := Lib.hid (fun W hW => (under_any s z W).mono (by rintro e w' ⟨rfl, h⟩; exact ⟨rfl, hW.trans (h.mono hW.size)⟩))
    have HRU : Hid (∀ W, Below w.heap.size w W → Calls Try.prog 22 #[.string (bstr s), .string (bstr z)] W fun e w' => e = .returned (.bool (underL s z)) ∧ Below w.heap.size w w') := Lib.hid (fun W hW => (runder_any s z (by omega) (by omega) W).mono (by rintro e w' ⟨rfl, h⟩; exact ⟨rfl, hW.trans (h.mono hW.size)⟩))
    have HPS : Hid (∀ W, Below w.heap.size w W → Calls Try.prog 16 #[.string (bstr s)] W fun e w' => ∃ A c, e = .returned (.slice A (splitD s).length c) ∧ SAt w' w'.heap.size A (splitD s) ∧ Below w.heap.size w w') := Lib.hid (fun W hW => (parts_at s (by omega) W).mono (by
      rintro e w' ⟨A, c, rfl, _, h2, h3⟩
      exact ⟨A, c, rfl, h2, hW.trans (h3.mono hW.size)⟩))
    have HRPS : Hid (∀ W A, SAt W W.heap.size A (splitD s) → Below w.heap.size w W → Calls Try.prog 17 #[.string (bstr s)] W fun e w' => ∃ A2 c2, e = .returned (.slice A2 (splitD s).length c2) ∧ SAt w' w'.heap.size A2 (splitD s) ∧ SAt w' w'.heap.size A (splitD s) ∧ Below w.heap.size w w') := Lib.hid (fun W A hA hW => (rparts_at s (by omega) W).mono (by
      rintro e w' ⟨A2, c2, rfl, _, h2, h3⟩
      exact ⟨A2, c2, rfl, h2, (hA.below h3).more h3.size, hW.trans (h3.mono hW.size)⟩))
    have hpl := splitD_length_le s
    have HTX : Hid (∀ W A c A2 c2, SAt W W.heap.size A (splitD s) → SAt W W.heap.size A2 (splitD s) → Below w.heap.size w W → Calls Try.prog 15 #[.slice A (splitD s).length c, .slice A2 (splitD s).length c2] W fun e w' => e = .returned (.bool true) ∧ Below w.heap.size w w') := Lib.hid (fun W A c A2 c2 hA hA2 hW => (texts_any A A2 c c2 (splitD s) (splitD s) (by omega) (by omega) W hA hA2).mono (by
      rintro e w' ⟨rfl, h3⟩
      exact ⟨by simp, hW.trans (h3.mono hW.size)⟩))
    have hbl := bstr_list
    clear HB hpl
    generalize partL s = pt at *
    generalize goodL s = gd at *
    generalize splitD s = L at *
    generalize underL s z = u at *
    generalize foldL s = fs at *
    generalize foldL z = fz at *
    generalize bstr s = A at *
    generalize bstr z = Z at *
    generalize s.length = ls at *
    generalize z.length = lz at *
    generalize L.length = n at *
    go_enter Try.func3, Try.ntmps3
    go_wp2_with (first | (go_at_call 10; (with_reducible refine (HLI.out _ (by assumption)).mono ?_); rintro e w1 ⟨rfl, hb1⟩) | (go_at_call 11; (with_reducible refine (HPA.out _ (by assumption)).mono ?_); rintro e w1 ⟨rfl, hb1⟩) | (go_at_call 12; (with_reducible refine (HRP.out _ (by assumption)).mono ?_); rintro e w1 ⟨rfl, hb1⟩) | (go_at_call 13; (with_reducible refine (HGA.out _ (by assumption)).mono ?_); rintro e w1 ⟨rfl, hb1⟩) | (go_at_call 14; (with_reducible refine (HRG.out _ (by assumption)).mono ?_); rintro e w1 ⟨rfl, hb1⟩) | (go_at_call 18; (with_reducible refine (HFS.out _ (by assumption)).mono ?_); rintro e w1 ⟨rfl, hb1⟩) | (go_at_call 19; (with_reducible refine (HRS.out _ (by assumption)).mono ?_); rintro e w1 ⟨rfl, hb1⟩) | (go_at_call 19; (with_reducible refine (HRZ.out _ (by assumption)).mono ?_); rintro e w1 ⟨rfl, hb1⟩) | (go_at_call 20; (with_reducible refine (HSM.out _ (by assumption)).mono ?_); rintro e w1 ⟨rfl, hb1⟩) | (go_at_call 21; (with_reducible refine (HU.out _ (by assumption)).mono ?_); rintro e w1 ⟨rfl, hb1⟩) | (go_at_call 22; (with_reducible refine (HRU.out _ (by assumption)).mono ?_); rintro e w1 ⟨rfl, hb1⟩) | (go_at_call 16; (with_reducible refine (HPS.out _ (by assumption)).mono ?_); rintro e w2 ⟨A2, c2, rfl, hA2, hb2⟩) | (go_at_call 17; (with_reducible refine (HRPS.out _ A2 hA2 hb2).mono ?_); rintro e w3 ⟨A3, c3, rfl, hA3, hA23, hb3⟩) | (go_at_call 15; (with_reducible refine (HTX.out _ A2 c2 A3 c3 hA23 hA3 hb3).mono ?_); rintro e w4 ⟨rfl, hb4⟩))
    go_ret
    exact ⟨rfl, by assumption⟩
  · have hn : (600 : Int) < (s.length : Int) ∨ ¬ (600 : Int) < (s.length : Int) ∧ (600 : Int) < (z.length : Int) := by omega
    clear HB hbig
    generalize bstr s = A at *
    generalize bstr z = Z at *
    generalize s.length = ls at *
    generalize z.length = lz at *
    rcases hn with hn | ⟨hn, hn2⟩
    · go_enter Try.func3, Try.ntmps3
      go_wp2_with (go_at_call 10; (with_reducible refine (HLI.out _ (by assumption)).mono ?_); rintro e w1 ⟨rfl, hb1⟩)
      go_ret
      exact ⟨rfl, by assumption⟩
    · go_enter Try.func3, Try.ntmps3
      go_wp2_with (go_at_call 10; (with_reducible refine (HLI.out _ (by assumption)).mono ?_); rintro e w1 ⟨rfl, hb1⟩)
      go_ret
      exact ⟨rfl, by assumption⟩
end Go.Proofs.Ytjiiignbejbiiaa
