/- Contracts of the small functions of package ident: places, masks, leading zeros. Conditions: numbers are ints. -/
import Derived.Test.YtieeffebecghiaaPOcta
import Derived.Laws.BitsAllLaws
import Derived.Laws.BitsLemmas
import Derived.Laws.Bits64
import Derived.LoopTactic
import Derived.Deep.MidRow
namespace Go.Proofs.Ytieeffebecghiaa
set_option maxRecDepth 100000
open Go.RowKit

theorem isPlace_yes (i : Int) (w : World) (h1 : 0 ≤ i) (h2 : i < 160) : Calls Try.prog 37 #[.int .i64 i] w fun e w' => e = .returned (.bool true) ∧ w = w' := by
  go_enter Try.func37, Try.ntmps37
  go_wp2
  go_ret
  exact ⟨rfl, rfl⟩
theorem isPlace_no (i : Int) (w : World) (h : ¬ (0 ≤ i ∧ i < 160)) : Calls Try.prog 37 #[.int .i64 i] w fun e w' => e = .returned (.bool false) ∧ w = w' := by
  by_cases h1 : 0 ≤ i
  · have h2 : ¬ i < 160 := by omega
    clear h
    go_enter Try.func37, Try.ntmps37
    go_wp2
    go_ret
    exact ⟨rfl, rfl⟩
  · clear h
    go_enter Try.func37, Try.ntmps37
    go_wp2
    go_ret
    exact ⟨rfl, rfl⟩
theorem pow_mask (j : Nat) : ((2 : Int) ^ (7 - j % 8) % 256) = ((2 ^ (7 - j % 8) : Nat) : Int) := by
  have h : j % 8 = 0 ∨ j % 8 = 1 ∨ j % 8 = 2 ∨ j % 8 = 3 ∨ j % 8 = 4 ∨ j % 8 = 5 ∨ j % 8 = 6 ∨ j % 8 = 7 := by omega
  rcases h with h | h | h | h | h | h | h | h <;> rw [h] <;> rfl
theorem mask_any (j : Nat) (w : World) (h : j < 160) : Calls Try.prog 38 #[.int .i64 (j : Int)] w fun e w' => e = .returned (.int .u8 ((2 ^ (7 - j % 8) : Nat) : Int)) ∧ w = w' := by
  go_enter Try.func38, Try.ntmps38
  go_wp2
  go_ret
  exact ⟨congrArg (fun x => Ending.returned (.int .u8 x)) (pow_mask j), rfl⟩
theorem ba_get (t : ByteArray) (n : Nat) (h : n < t.size) : t[n] = t.data.toList.getD n 0 := by
  have h' : n < t.data.toList.length := h
  rw [List.getD_eq_getElem?_getD, List.getElem?_eq_getElem h']
  rfl
theorem len8_any (z : UInt8) (w : World) : Calls Try.prog 39 #[.int .u8 (z.toNat : Int)] w fun e w' => e = .returned (.int .i64 ((8 - lz8 z : Nat) : Int)) ∧ w = w' := by
  have hz : (z.toNat : Int) < 256 := by have := z.toNat_lt; omega
  go_enter Try.func39, Try.ntmps39
  go_wp2
  go_ret
  refine ⟨congrArg (fun x => Ending.returned (.int .i64 x)) ?_, rfl⟩
  rw [ba_get]
  clear hz
  obtain ⟨⟨⟨n, hn⟩⟩⟩ := z
  revert n
  decide +kernel
theorem lz_any (z : UInt8) (w : World) : Calls Try.prog 32 #[.int .u8 (z.toNat : Int)] w fun e w' => e = .returned (.int .i64 (lz8 z : Int)) ∧ w = w' := by
  have h8 : lz8 z ≤ 8 := by unfold lz8; repeat (first | omega | split)
  have HL := Lib.hid (len8_any z)
  have e1 : ((8 - lz8 z : Nat) : Int) = 8 - (lz8 z : Int) := by omega
  rw [e1] at HL
  generalize hn : (lz8 z : Int) = n at HL ⊢
  have h0 : 0 ≤ n ∧ n ≤ 8 := by omega
  clear hn e1 h8
  go_enter Try.func32, Try.ntmps32
  go_wp2_with (go_at_call 39; refine (HL.out _).mono ?_; rintro e w1 ⟨rfl, rfl⟩)
  go_ret
  refine ⟨congrArg (fun x => Ending.returned (.int .i64 x)) ?_, rfl⟩
  omega
end Go.Proofs.Ytieeffebecghiaa
