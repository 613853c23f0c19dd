/- Contracts of Get of package octet and of its reference. Conditions: the bytes that come in are fewer than a million; a place is one that an int can be. -/
import Derived.Test.YtjiiignbejbiiaaPMathb
import Derived.LoopTactic
namespace Go.Proofs.Ytjiiignbejbiiaa
set_option maxRecDepth 100000
open Go.RowKit
set_option linter.unusedVariables false

set_option maxRecDepth 100000 in
theorem get_yes (A : Option Addr) (c : Nat) (xs : List UInt8) (a k : Nat) (w : World) (hx : BAt w w.heap.size A xs) (hl : xs.length ≤ 1000000) (hk1 : 1 ≤ k) (hk : k ≤ 8) (h : a + k ≤ xs.length) :
    Calls Try.prog 93 #[.slice A xs.length c, .int .i64 a, .int .i64 k] w fun e w' => e = .returned (.tuple #[.int .u64 (getN ((xs.drop a).take k)), .bool true]) ∧ w = w' := by
  obtain ⟨g, off, rfl, hg, hc⟩ := hx.some_ (by omega)
  go_enter Try.func93, Try.ntmps93
  go_wp2_with (go_at_call 94; refine (isWidth_yes _ _ (by omega) (by omega)).mono ?_; rintro e w1 ⟨rfl, rfl⟩)
  go_loop [8, 26] (fun n i => ∃ j : Nat, j ≤ k ∧ i = .int .i64 j ∧ n = .int .u64 (getN ((xs.drop a).take j))) (fun _ i => k - (intOf i).toNat)
  case atStart => exact ⟨0, by omega, rfl, by simp [getN]⟩
  case round =>
    obtain ⟨j, hj, rfl, rfl⟩ := hrel
    by_cases hlt : j < k
    · have hcj := hc (a + j) (by omega)
      have R : bits BinOp.or IntKind.u64 (IntKind.u64.wrap ((getN (List.take j (List.drop a xs)) : Int) * 256)) (IntKind.u64.wrap (xs[a + j].toNat : Int)) = (getN (List.take (j + 1) (List.drop a xs)) : Int) := by
        rw [or_byte _ _ (getN_take_lt' _ _ (by omega)) (xs[a + j]).toNat_lt, getN_take_succ _ _ (by rw [List.length_drop]; omega)]
        simp
      have HR := Lib.hid R
      clear hc hg R
      go_wp2
      go_round
      case rel => exact ⟨j + 1, by omega, by go_num, by rw [HR.out]⟩
      case measure => simp [intOf]; omega
    · obtain rfl : j = k := by omega
      go_wp2
      go_ret2
      exact ⟨rfl, rfl⟩

set_option maxRecDepth 100000 in
theorem rget_yes (A : Option Addr) (c : Nat) (xs : List UInt8) (a k : Nat) (w : World) (hx : BAt w w.heap.size A xs) (hl : xs.length ≤ 1000000) (hk1 : 1 ≤ k) (hk : k ≤ 8) (h : a + k ≤ xs.length) :
    Calls Try.prog 82 #[.slice A xs.length c, .int .i64 a, .int .i64 k] w fun e w' => e = .returned (.tuple #[.int .u64 (getN ((xs.drop a).take k)), .bool true]) ∧ w = w' := by
  obtain ⟨g, off, rfl, hg, hc⟩ := hx.some_ (by omega)
  go_enter Try.func82, Try.ntmps82
  go_wp2
  go_loop [8, 9] (fun n i => ∃ j : Nat, j ≤ k ∧ i = .int .i64 j ∧ n = .int .u64 (getN ((xs.drop a).take j))) (fun _ i => k - (intOf i).toNat)
  case atStart => exact ⟨0, by omega, rfl, by simp [getN]⟩
  case round =>
    obtain ⟨j, hj, rfl, rfl⟩ := hrel
    by_cases hlt : j < k
    · have hcj := hc (a + j) (by omega)
      have R : IntKind.u64.wrap (IntKind.u64.wrap ((getN (List.take j (List.drop a xs)) : Int) * 256) + IntKind.u64.wrap (xs[a + j].toNat : Int)) = (getN (List.take (j + 1) (List.drop a xs)) : Int) := by
        rw [add_byte _ _ (getN_take_lt' _ _ (by omega)) (xs[a + j]).toNat_lt, getN_take_succ _ _ (by rw [List.length_drop]; omega)]
        simp
      have HR := Lib.hid R
      clear hc hg R
      go_wp2
      go_round
      case rel => exact ⟨j + 1, by omega, by go_num, by rw [HR.out]⟩
      case measure => simp [intOf]; omega
    · obtain rfl : j = k := by omega
      go_wp2
      go_ret2
      exact ⟨rfl, rfl⟩

end Go.Proofs.Ytjiiignbejbiiaa
