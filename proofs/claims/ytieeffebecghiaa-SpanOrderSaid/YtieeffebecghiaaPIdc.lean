/- Contract of Bit of package ident. Conditions: an id has 20 bytes. -/
import Derived.Test.YtieeffebecghiaaPIdb
import Derived.BigQuiet
namespace Go.Proofs.Ytieeffebecghiaa
set_option maxRecDepth 100000
set_option maxHeartbeats 1000000
open Go.RowKit

theorem and_mask : ∀ (z : Fin 256) (k : Fin 8), bits .and .u8 (z.val : Int) ((2 ^ k.val : Nat) : Int) = if z.val.testBit k.val then ((2 ^ k.val : Nat) : Int) else 0 := by decide +kernel
theorem and_mask' (z : UInt8) (k : Nat) (h : k < 8) : bits .and .u8 (z.toNat : Int) ((2 ^ k : Nat) : Int) = if z.toNat.testBit k then ((2 ^ k : Nat) : Int) else 0 := and_mask ⟨z.toNat, z.toNat_lt⟩ ⟨k, h⟩

theorem quiet_l {P : Program} {f : FuncId} {args : Array Value} {w : World} {n : Nat} {v : Value} (h : ∀ W, Calls P f args W fun e w' => e = .returned v ∧ W = w') : Calls P f args (w.drewN n) fun e w' => e = .returned v ∧ ∃ m, w' = w.drewN m :=
  (h _).mono (by rintro e w' ⟨rfl, rfl⟩; exact ⟨rfl, n, rfl⟩)
theorem below_drewN {B : Nat} {a w : World} (h : Below B a w) (n : Nat) : Below B a (w.drewN n) := ⟨h.os, h.tape, h.output, h.size, h.block⟩
theorem bit_yes (xs : List UInt8) (hx : xs.length = 20) (j : Nat) (hj : j < 160) (w : World) :
    Calls Try.prog 29 #[.agg (bcells xs).toArray, .int .i64 (j : Int)] w fun e w' => e = .returned (.int .i64 (if bitL xs j then 1 else 0)) ∧ Below w.heap.size w w' := by
  obtain ⟨X, hX⟩ : ∃ X, X = (bcells xs).toArray := ⟨_, rfl⟩
  have hm := and_mask' (xs.getD (j / 8) 0) (7 - j % 8) (by omega)
  rw [show (xs.getD (j / 8) 0).toNat.testBit (7 - j % 8) = bitL xs j from rfl] at hm
  have HMK := Lib.hid (fun W => mask_any j W hj)
  obtain ⟨q, hq⟩ : ∃ q, j / 8 = q := ⟨_, rfl⟩
  rw [hq] at hm
  have hq2 : q < 20 := by omega
  have hc : ∀ W : World, (W.alloc (.cells X 23)).cell? ⟨W.heap.size, q, none⟩ = some (.int .u8 ((xs.getD q 0).toNat : Int)) := fun W => by
    rw [cell_of_row _ _ q _ 23 (0, 0) (heap_alloc_new W _), hX, List.getElem?_toArray, bcells_get xs _ (by omega), List.getD_eq_getElem?_getD, List.getElem?_eq_getElem (by omega)]
    rfl
  generalize (xs.getD q 0).toNat = b at hc hm
  generalize hM : ((2 ^ (7 - j % 8) : Nat) : Int) = M at hm
  have hMp : M ≠ 0 := by rw [← hM]; have := Nat.two_pow_pos (7 - j % 8); omega
  rw [hM] at HMK
  have HP := Lib.hid (fun W => isPlace_yes (j : Int) W (by omega) (by omega))
  have hd : (j : Int) / 8 = (q : Int) := by omega
  rw [← hX]
  clear hX hx hM hq hj
  cases hbit : bitL xs j
  · rw [hbit] at hm
    go_enter Try.func29, Try.ntmps29
    go_wp2
    go_quiet (first | (go_at_call 37; exact quiet_l HP.out) | (go_at_call 38; exact quiet_l HMK.out))
    go_wp2
    go_ret
    exact ⟨rfl, below_drewN ((Below.refl _ w).alloc (Nat.le_refl _) _) _⟩
  · rw [hbit] at hm
    go_enter Try.func29, Try.ntmps29
    go_wp2
    go_quiet (first | (go_at_call 37; exact quiet_l HP.out) | (go_at_call 38; exact quiet_l HMK.out))
    go_wp2
    go_ret
    exact ⟨rfl, below_drewN ((Below.refl _ w).alloc (Nat.le_refl _) _) _⟩
theorem bit_no (X : Array Value) (i : Int) (h : ¬ (0 ≤ i ∧ i < 160)) (w : World) :
    Calls Try.prog 29 #[.agg X, .int .i64 i] w fun e w' => e = .returned (.int .i64 0) ∧ Below w.heap.size w w' := by
  have HP := Lib.hid (fun W => isPlace_no i W h)
  clear h
  go_enter Try.func29, Try.ntmps29
  go_wp2
  go_quiet ((go_at_call 37; exact quiet_l HP.out))
  go_wp2
  go_ret
  exact ⟨rfl, below_drewN ((Below.refl _ w).alloc (Nat.le_refl _) _) _⟩
end Go.Proofs.Ytieeffebecghiaa
