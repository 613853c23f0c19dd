/- The chapter's example, of the package ring. No condition. -/
import Derived.Test.YtkebgcalphajhaaRae
namespace Go.Proofs.Ytkebgcalphajhaa
open Go.RowKit Go.Lib
set_option maxRecDepth 100000
set_option maxHeartbeats 400000
theorem run_three39 (W : World) : (Instr.buildSlice 39 3 #[(0, .int .i64 1), (1, .int .i64 2), (2, .int .i64 3)]).run Try.prog W = .ok (.slice (some ⟨W.heap.size, 0, none⟩) 3 3) (W.alloc (.cells #[.int .i64 1, .int .i64 2, .int .i64 3] 3)) := by kernel_rfl
theorem wpList_three39 {ops : Array Oper} {rest : List Oper} {o : Oper} {act : Act} {w : World} {Q : Exit → Act → World → Prop} (hgd : o.guard = none) (d : Nat) (hd : o.dst = some d) (ho : o.op = .buildSlice 39 3 #[(0, .const (.int .i64 1)), (1, .const (.int .i64 2)), (2, .const (.int .i64 3))])
    (h : wpList Try.prog ops Q rest (act.put (some d) (.slice (some ⟨w.heap.size, 0, none⟩) 3 3)) (w.alloc (.cells #[.int .i64 1, .int .i64 2, .int .i64 3] 3))) : wpList Try.prog ops Q (o :: rest) act w :=
  wpList_plain hgd fun _ hK => by
    have hrun := run_three39 w
    unfold Oper.wp execOp
    simp only [ho, List.map_toArray, List.map_cons, List.map_nil, Act.eval, Sem.run_bind, hrun, Result.andThen_ok, Sem.run_pure]
    rw [← hd] at h
    exact hK _ _ h
theorem ring_lives (w : World) : Calls Try.prog 21 #[] w fun e w' => e = .returned (.bool true) ∧ Below w.heap.size w w' := by
  have HN := Lib.hid (rnew_yes 2 (by omega) (by omega) w)
  obtain ⟨w1, hw1⟩ : ∃ w1, w1 = w.alloc (.cells #[.int .i64 ((2 : Nat) : Int), .slice none 0 0] 93) := ⟨_, rfl⟩
  have hb1 : Below w.heap.size w w1 := by rw [hw1]; exact (Below.refl _ w).alloc (Nat.le_refl _) _
  have hr1 : Ring w1 w.heap.size 2 (.slice none 0 0) [] := by rw [hw1]; exact ring_new 2 w
  obtain ⟨w2, hw2⟩ : ∃ w2, w2 = w1.alloc (.cells #[.int .i64 1, .int .i64 2, .int .i64 3] 3) := ⟨_, rfl⟩
  have hb2 : Below w1.heap.size w1 w2 := by rw [hw2]; exact (Below.refl _ w1).alloc (Nat.le_refl _) _
  have hr2 : Ring w2 w.heap.size 2 (.slice none 0 0) [] := Obj.bel hr1 hb2
  have hlt : w.heap.size < w1.heap.size := Obj.lt hr1
  have hK : IntsAt w2 (fun b => b ≠ w.heap.size ∧ (Value.slice none 0 0).ownBlock ≠ some b) (some ⟨w1.heap.size, 0, none⟩) [1, 2, 3] := by
    have hh : w2.heap[w1.heap.size]? = some (.cells #[.int .i64 1, .int .i64 2, .int .i64 3] 3) := by rw [hw2]; exact heap_alloc_new w1 _
    refine .inr ⟨w1.heap.size, 0, rfl, ⟨by omega, fun h => by cases h⟩, (Array.getElem?_eq_some_iff.1 hh).1, fun j hj => ?_⟩
    rw [Nat.zero_add, cell_of_row w2 w1.heap.size j _ 3 (0, 0) hh]
    match j, hj with
    | 0, _ => rfl
    | 1, _ => rfl
    | 2, _ => rfl
    | k + 3, hj => exact absurd hj (by simp)
  have HF := Lib.hid (fill_any w.heap.size 2 (by omega) (by omega) (.slice none 0 0) [] [1, 2, 3] (some ⟨w1.heap.size, 0, none⟩) 3 w2 (by simp) hr2 hK (by simp))
  have eF : fillL 2 [] [1, 2, 3] = [1, 2] := by decide
  have eN : fillN 2 [] [1, 2, 3] = 2 := by decide
  rw [eF, eN] at HF
  have HP : Hid (∀ W v, Ring W w.heap.size 2 v [1, 2] → Calls Try.prog 24 #[.pointer (some ⟨w.heap.size, 0, none⟩)] W (Cutted W w.heap.size 2 v [2] (.tuple #[.int .i64 1, .bool true]))) := Lib.hid (fun W v h => by
    have := pop_any w.heap.size 2 (by omega) v [1, 2] W h (by simp)
    rw [show cutL [1, 2] 0 = [2] by decide, show cutV [1, 2] 0 = 1 by decide, show cutB [1, 2] 0 = true by decide] at this
    exact this)
  have HU : Hid (∀ W v, Ring W w.heap.size 2 v [2] → Calls Try.prog 25 #[.pointer (some ⟨w.heap.size, 0, none⟩), .int .i64 4] W (Pushed W w.heap.size 2 v [2, 4] 0)) := Lib.hid (fun W v h => push_more w.heap.size 2 (by omega) (by omega) v [2] 4 W (by simp) h)
  have HC : Hid (∀ W v, Ring W w.heap.size 2 v [2, 4] → Calls Try.prog 27 #[.pointer (some ⟨w.heap.size, 0, none⟩), .int .i64 0] W (Cutted W w.heap.size 2 v [4] (.tuple #[.int .i64 2, .bool true]))) := Lib.hid (fun W v h => by
    have := cut_any w.heap.size 2 (by omega) v [2, 4] W h (by simp) 0
    rw [show cutL [2, 4] 0 = [4] by decide, show cutV [2, 4] 0 = 2 by decide, show cutB [2, 4] 0 = true by decide] at this
    exact this)
  have HL : Hid (∀ W v, Ring W w.heap.size 2 v [4] → Calls Try.prog 30 #[.pointer (some ⟨w.heap.size, 0, none⟩)] W fun e w' => e = .returned (.int .i64 1) ∧ w' = W) := Lib.hid (fun W v h => rlen_any w.heap.size 2 (by omega) v [4] W h)
  have HB : Hid (∀ W v, Mov w2 W w.heap.size (.slice none 0 0) v → Below w.heap.size w W) := Lib.hid (fun W v h => (hb1.trans (hb2.mono hb1.size)).trans (h.below (by have := hb2.size; omega) (Nat.le_refl _) (fun b h => by cases h)))
  have HW1 := Lib.hid hw1
  have HW2 := Lib.hid hw2
  clear hb1 hr1 hb2 hr2 hK eF eN hw1 hw2 hlt
  simp only [show ((2 : Nat) : Int) = 2 from rfl, show ([1, 2, 3] : List Int).length = 3 from rfl] at *
  generalize hg : w.heap.size = g at *
  go_enter Try.func21, Try.ntmps21
  go_wp2_with (first
    | (go_at_call 22; (with_reducible refine HN.out.mono ?_); rintro e w1 ⟨rfl, rfl⟩; rw [← HW1.out])
    | ((with_reducible refine wpList_three39 (o := ⟨some 9, _, _, _, _, _⟩) rfl 9 rfl rfl ?_); rw [← HW2.out])
    | (go_at_call 28; (with_reducible refine HF.out.mono ?_); rintro e w3 ⟨v3, rfl, hr3, hm3⟩)
    | (go_at_call 24; (with_reducible refine (HP.out _ _ hr3).mono ?_); rintro e w4 ⟨v4, rfl, hr4, hm4⟩)
    | (go_at_call 25; (with_reducible refine (HU.out _ _ hr4).mono ?_); rintro e w5 ⟨v5, rfl, hr5, hm5⟩)
    | (go_at_call 27; (with_reducible refine (HC.out _ _ hr5).mono ?_); rintro e w6 ⟨v6, rfl, hr6, hm6⟩)
    | (go_at_call 30; (with_reducible refine (HL.out _ _ hr6).mono ?_); rintro e w7 ⟨rfl, rfl⟩))
  go_ret
  exact ⟨rfl, HB.out _ _ (hm3.trans (hm4.trans (hm5.trans hm6)))⟩
end Go.Proofs.Ytkebgcalphajhaa
