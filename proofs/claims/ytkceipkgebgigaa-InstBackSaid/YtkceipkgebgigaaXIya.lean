/- lives of the statements of layer inst. No condition. -/
import Derived.Test.YtkceipkgebgigaaXIpm
import Derived.Test.YtkceipkgebgigaaXIix
namespace Go.Proofs.Ytkceipkgebgigaa
open Go.Shelf Go.RowKit Go.Lib Go.Great
set_option maxRecDepth 100000
set_option maxHeartbeats 2000000
def livI : Ins := ⟨List.replicate 20 0, 0, 5, 3, false, 0, 0, 80, [97], by simp, by omega, by omega, by omega, by omega, by omega, by omega⟩
theorem build_liv (W : World) : (Instr.build 28 #[(2, .int .u64 5), (3, .int .u32 3), (7, .int .u16 80), (8, .string ⟨#[97]⟩)]).run Try.prog W = .ok (.agg (encI livI).toArray) W := by kernel_rfl
theorem liv_good : goodI livI = true := by decide +kernel
theorem lives_any (w : World) : Calls Try.prog 11 #[] w fun e w' => e = .returned (.bool true) ∧ Below w.heap.size w w' := by
  have hn := heap_alloc_new w (.cells (encI livI).toArray 28)
  have hb : Below w.heap.size w (w.alloc (.cells (encI livI).toArray 28)) := (Below.refl _ w).alloc (Nat.le_refl _) _
  have HK : Hid (∀ W, Below (w.heap.size + 1) (w.alloc (.cells (encI livI).toArray 28)) W → (loadVar 28 ⟨w.heap.size, 0, none⟩).run Try.prog W = .ok (.agg (encI livI).toArray) W) := Lib.hid (fun W hW => (fld_below hn hW (by omega)).all)
  have up : ∀ {f : FuncId} {args : Array Value} {v : Value}, (∀ W, Calls Try.prog f args W fun e w' => e = .returned v ∧ Below W.heap.size W w') → Hid (∀ W, Below (w.heap.size + 1) (w.alloc (.cells (encI livI).toArray 28)) W → Calls Try.prog f args W fun e w' => e = .returned v ∧ Below (w.heap.size + 1) (w.alloc (.cells (encI livI).toArray 28)) w') := fun h => Lib.hid (fun W hW => (h W).mono (by
    rintro e w' ⟨rfl, hb⟩
    exact ⟨rfl, hW.trans (hb.mono (by have := hW.size; simpa using this))⟩))
  have C14 := up (igood_any livI (by decide))
  rw [liv_good] at C14
  have C4 := up (alive_any livI 4)
  rw [show aliveI livI 4 = false by decide +kernel] at C4
  have C5 := up (alive_any livI 5)
  rw [show aliveI livI 5 = true by decide +kernel] at C5
  have C8 := up (alive_any livI 8)
  rw [show aliveI livI 8 = false by decide +kernel] at C8
  have C6 := up (left_anyI livI 6 (by omega))
  rw [show leftI livI 6 = 2 by decide +kernel] at C6
  simp only [show ((4 : Nat) : Int) = 4 from rfl, show ((5 : Nat) : Int) = 5 from rfl, show ((8 : Nat) : Int) = 8 from rfl, show ((6 : Nat) : Int) = 6 from rfl, show ((2 : Nat) : Int) = 2 from rfl] at C4 C5 C8 C6
  have C12 : Hid (Calls Try.prog 12 #[.agg (encI livI).toArray] (w.alloc (.cells (encI livI).toArray 28)) fun e w' => ∃ A c, e = .returned (.tuple #[.slice A 50 c, .int .i64 0]) ∧ Below (w.heap.size + 1) (w.alloc (.cells (encI livI).toArray 28)) w') := Lib.hid ((ibytes_any livI (by decide) _).mono (by
    rintro e w' ⟨v, rfl, ⟨A, c, rfl, _, _⟩, hb⟩
    have h1 : (byI livI).length = 50 := by decide +kernel
    have h2 : errI livI = 0 := by unfold errI; rw [if_pos liv_good]
    rw [h1, h2]
    exact ⟨A, c, rfl, hb.mono (by simp)⟩))
  have HBU := Lib.hid build_liv
  have HE : Hid (∀ W, Below (w.heap.size + 1) (w.alloc (.cells (encI livI).toArray 28)) W → Below w.heap.size w W) := Lib.hid (fun W hW => hb.trans (hW.mono (by omega)))
  obtain ⟨X, hX⟩ : ∃ X, X = (encI livI).toArray := ⟨_, rfl⟩
  have HX := Lib.hid hX
  rw [← hX] at HK C14 C4 C5 C8 C6 C12 HBU HE
  clear hn hb up hX
  go_enter Try.func11, Try.ntmps11
  go_wp2_with (first
    | ((with_reducible refine wpList_buildV (o := ⟨some 4, _, _, _, _, _⟩) rfl 28 _ rfl _ ?_ _ (HBU.out _) ?_); (simp only [List.map_toArray, List.map_cons, List.map_nil]; rfl))
    | (with_reducible refine wpList_alloc28 (o := ⟨some 1, _, _, _, _, _⟩) w.heap.size rfl rfl 1 rfl rfl ?_)
    | ((with_reducible refine wpList_store28n (o := ⟨none, _, _, _, _, _⟩) rfl (.tmp 1) (.tmp 4) rfl w.heap.size rfl zeroI livI ?_ ?_ ?_); rfl; (rw [← HX.out]; rfl); rw [← HX.out])
    | ((with_reducible refine wpList_loadV (op := ⟨some 6, _, _, _, _, _⟩) rfl 28 (.tmp 1) rfl _ ?_ _ (HK.out _ (Below.refl _ _)) ?_); rfl)
    | (go_at_call 12; (with_reducible refine C12.out.mono ?_); rintro e w1 ⟨A1, c1, rfl, hb1⟩)
    | ((with_reducible refine wpList_loadV (op := ⟨some 10, _, _, _, _, _⟩) rfl 28 (.tmp 1) rfl _ ?_ _ (HK.out _ hb1) ?_); rfl)
    | (go_at_call 14; (with_reducible refine (C14.out _ hb1).mono ?_); rintro e w2 ⟨rfl, hb2⟩)
    | ((with_reducible refine wpList_loadG (o := ⟨some 13, _, _, _, _, _⟩) rfl 28 (.tmp 1) rfl _ ?_ _ (HK.out _ hb2) ?_); rfl)
    | (go_at_call 18; (with_reducible refine (C4.out _ hb2).mono ?_); rintro e w3 ⟨rfl, hb3⟩)
    | ((with_reducible refine wpList_loadG (o := ⟨some 18, _, _, _, _, _⟩) rfl 28 (.tmp 1) rfl _ ?_ _ (HK.out _ hb3) ?_); rfl)
    | (go_at_call 18; (with_reducible refine (C5.out _ hb3).mono ?_); rintro e w4 ⟨rfl, hb4⟩)
    | ((with_reducible refine wpList_loadG (o := ⟨some 22, _, _, _, _, _⟩) rfl 28 (.tmp 1) rfl _ ?_ _ (HK.out _ hb4) ?_); rfl)
    | (go_at_call 18; (with_reducible refine (C8.out _ hb4).mono ?_); rintro e w5 ⟨rfl, hb5⟩)
    | ((with_reducible refine wpList_loadG (o := ⟨some 27, _, _, _, _, _⟩) rfl 28 (.tmp 1) rfl _ ?_ _ (HK.out _ hb5) ?_); rfl)
    | (go_at_call 20; (with_reducible refine (C6.out _ hb5).mono ?_); rintro e w6 ⟨rfl, hb6⟩))
  go_ret
  exact ⟨rfl, HE.out _ hb6⟩
end Go.Proofs.Ytkceipkgebgigaa
