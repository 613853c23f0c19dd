/- The walk of ClockTells. No condition. -/
import Derived.Test.YtehgpnnfjgmiiaaKad
namespace Go.Proofs.Ytehgpnnfjgmiiaa
open Go.RowKit Go.Lib Go.Great
set_option maxRecDepth 100000
set_option maxHeartbeats 1000000
theorem ctells_long (a b n : Nat) (A : Option Addr) (c : Nat) (L : List Nat) (w : World) (hL : 200 < L.length) : Calls Try.prog 3 #[.int .u64 (a : Int), .int .u64 (b : Int), .int .u64 (n : Int), .slice A L.length c] w fun e w' => e = .returned (.bool true) ∧ Below w.heap.size w w' := by
  have HL := Lib.hid (fun W => lives_any W)
  have h1 : (200 : Int) < (L.length : Int) := by omega
  go_enter Try.func3, Try.ntmps3
  go_wp2_with (go_at_call 6; (with_reducible refine (HL.out _).mono ?_); rintro e w2 ⟨rfl, hb2⟩)
  go_ret
  exact ⟨rfl, hb2⟩
theorem ctells_short (a b n : Nat) (ha : a < 18446744073709551616) (hb : b < 18446744073709551616) (hn : n < 18446744073709551616) (A : Option Addr) (c : Nat) (L : List Nat) (w : World) (hL : L.length ≤ 200) (hA : UAt w w.heap.size A L) : Calls Try.prog 3 #[.int .u64 (a : Int), .int .u64 (b : Int), .int .u64 (n : Int), .slice A L.length c] w fun e w' => e = .returned (.bool true) ∧ Below w.heap.size w w' := by
  have up : ∀ {f : FuncId} {args : Array Value} {v : Value}, (∀ W, Below w.heap.size w W → Calls Try.prog f args W fun e w' => e = .returned v ∧ Below W.heap.size W w') → Hid (∀ W, Below w.heap.size w W → Calls Try.prog f args W fun e w' => e = .returned v ∧ Below w.heap.size w w') := fun h => Lib.hid (fun W hW => (h W hW).mono (by
    rintro e w' ⟨rfl, hb⟩
    exact ⟨rfl, hW.trans (hb.mono hW.size)⟩))
  have C7 := Lib.hid (add_any a b ha hb)
  have C8 := Lib.hid (radd_any a b ha hb)
  have C9 := Lib.hid (sub_any a b ha hb)
  have C10 := Lib.hid (rsub_any a b ha hb)
  have C11 := Lib.hid (due_any a n)
  have C12 := Lib.hid (rdue_any a n)
  have C13 := up (fun W hW => first_any A c L W (by omega) (((hA.below hW)).more hW.size))
  have C14 := up (fun W hW => rfirst_any A c L W (by omega) (((hA.below hW)).more hW.size))
  have C15 := up (fun W _ => every_any a b n ha hb hn W)
  have C16 := Lib.hid (revery_any a b n ha hb hn)
  have HL := up (fun W _ => lives_any W)
  have HB0 := Lib.hid (Below.refl w.heap.size w)
  have h1 : ¬ (200 : Int) < (L.length : Int) := by omega
  clear up hA
  generalize addK a b = z1 at *
  generalize subK a b = z2 at *
  generalize dueK a n = z3 at *
  generalize firstK L = z4 at *
  generalize everyK a b n = z5 at *
  generalize L.length = m at *
  go_enter Try.func3, Try.ntmps3
  go_wp2_with (first
    | (go_at_call 7; (with_reducible refine (C7.out _).mono ?_); rintro e w1 ⟨rfl, rfl⟩)
    | (go_at_call 8; (with_reducible refine (C8.out _).mono ?_); rintro e w2 ⟨rfl, rfl⟩)
    | (go_at_call 9; (with_reducible refine (C9.out _).mono ?_); rintro e w3 ⟨rfl, rfl⟩)
    | (go_at_call 10; (with_reducible refine (C10.out _).mono ?_); rintro e w4 ⟨rfl, rfl⟩)
    | (go_at_call 11; (with_reducible refine (C11.out _).mono ?_); rintro e w5 ⟨rfl, rfl⟩)
    | (go_at_call 12; (with_reducible refine (C12.out _).mono ?_); rintro e w6 ⟨rfl, rfl⟩)
    | (go_at_call 13; (with_reducible refine (C13.out _ HB0.out).mono ?_); rintro e w7 ⟨rfl, hb7⟩)
    | (go_at_call 14; (with_reducible refine (C14.out _ hb7).mono ?_); rintro e w8 ⟨rfl, hb8⟩)
    | (go_at_call 15; (with_reducible refine (C15.out _ hb8).mono ?_); rintro e w9 ⟨rfl, hb9⟩)
    | (go_at_call 16; (with_reducible refine (C16.out _).mono ?_); rintro e w10 ⟨rfl, rfl⟩)
    | (go_at_call 6; (with_reducible refine (HL.out _ hb9).mono ?_); rintro e w11 ⟨rfl, hb11⟩))
  go_ret
  exact ⟨rfl, hb11⟩
theorem ctells_walk (a b n : Nat) (ha : a < 18446744073709551616) (hb : b < 18446744073709551616) (hn : n < 18446744073709551616) (A : Option Addr) (c : Nat) (L : List Nat) (w : World) (hA : UAt w w.heap.size A L) : Calls Try.prog 3 #[.int .u64 (a : Int), .int .u64 (b : Int), .int .u64 (n : Int), .slice A L.length c] w fun e w' => e = .returned (.bool true) ∧ Below w.heap.size w w' := by
  by_cases h : L.length ≤ 200
  · exact ctells_short a b n ha hb hn A c L w h hA
  · exact ctells_long a b n A c L w (by omega)
end Go.Proofs.Ytehgpnnfjgmiiaa
