/- Contract of the chapter's example of service. No condition. -/
import Derived.Test.YtjiiignbejbiiaaXVcc
namespace Go.Proofs.Ytjiiignbejbiiaa
open Go.Shelf Go.RowKit Go.Lib Go.Great
set_option maxRecDepth 100000
set_option maxHeartbeats 1000000
theorem slives_any (w : World) : Calls Try.prog 27 #[] w fun e w' => e = .returned (.bool true) ∧ Below w.heap.size w w' := by
  have HS : Hid (Calls Try.prog 28 #[.string ⟨#[95, 104, 116, 116, 112, 46, 95, 116, 99, 112, 46, 97, 46, 98]⟩] w fun e w' => e = .returned (.tuple #[.string ⟨#[104, 116, 116, 112]⟩, .string ⟨#[116, 99, 112]⟩, .string ⟨#[97, 46, 98]⟩, .int .i64 0]) ∧ Below w.heap.size w w') := Lib.hid (by
    have h := ssplit_any [95, 104, 116, 116, 112, 46, 95, 116, 99, 112, 46, 97, 46, 98] w
    have e1 : splitS [95, 104, 116, 116, 112, 46, 95, 116, 99, 112, 46, 97, 46, 98] = ([104, 116, 116, 112], [116, 99, 112], [97, 46, 98], 0) := by decide
    rw [e1] at h
    exact h)
  have U1 : Hid (∀ W, Below w.heap.size w W → Calls Try.prog 34 #[.string ⟨#[95, 104, 116, 116, 112, 46, 95, 105, 112, 46, 97]⟩] W fun e w' => e = .returned (.bool false) ∧ Below w.heap.size w w') := Lib.hid (fun W hW => by
    have h := sgood_any [95, 104, 116, 116, 112, 46, 95, 105, 112, 46, 97] W
    have e1 : svcL [95, 104, 116, 116, 112, 46, 95, 105, 112, 46, 97] = false := by decide
    rw [e1] at h
    exact h.mono (by rintro e w' ⟨rfl, hb⟩; exact ⟨rfl, hW.trans (hb.mono hW.size)⟩))
  have U2 : Hid (∀ W, Below w.heap.size w W → Calls Try.prog 34 #[.string ⟨#[95, 46, 95, 116, 99, 112, 46, 97]⟩] W fun e w' => e = .returned (.bool false) ∧ Below w.heap.size w w') := Lib.hid (fun W hW => by
    have h := sgood_any [95, 46, 95, 116, 99, 112, 46, 97] W
    have e1 : svcL [95, 46, 95, 116, 99, 112, 46, 97] = false := by decide
    rw [e1] at h
    exact h.mono (by rintro e w' ⟨rfl, hb⟩; exact ⟨rfl, hW.trans (hb.mono hW.size)⟩))
  go_enter Try.func27, Try.ntmps27
  go_wp2_with (first
    | (go_at_call 28; (with_reducible refine HS.out.mono ?_); rintro e w1 ⟨rfl, hb1⟩)
    | (go_at_call 34; (with_reducible refine (U1.out _ hb1).mono ?_); rintro e w2 ⟨rfl, hb2⟩)
    | (go_at_call 34; (with_reducible refine (U2.out _ hb2).mono ?_); rintro e w3 ⟨rfl, hb3⟩))
  go_ret
  exact ⟨rfl, hb3⟩
end Go.Proofs.Ytjiiignbejbiiaa
