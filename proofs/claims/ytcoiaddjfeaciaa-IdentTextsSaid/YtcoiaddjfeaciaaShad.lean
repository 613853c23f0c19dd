/- Contracts of Pad of package sha and of its reference. No condition but that a length is a number of 64 bits. -/
import Derived.Test.YtcoiaddjfeaciaaShac
namespace Go.Proofs.Ytcoiaddjfeaciaa
set_option maxRecDepth 100000
open Go.RowKit
set_option linter.unusedVariables false

/-- What a text of n bytes is padded by. -/
def zerosN (n : Nat) : Nat := (119 - n % 64) % 64
def padB (n : Nat) : List UInt8 := (128 :: List.replicate (zerosN n) 0) ++ putB (n * 8 % 18446744073709551616) 8

set_option maxRecDepth 100000 in
theorem pad_any (n : Nat) (hn : n < 18446744073709551616) (w : World) : Calls Try.prog 15 #[.int .u64 (n : Int)] w (OwnB w (padB n)) := by
  have hz : zerosN n ≤ 63 := by unfold zerosN; omega
  have ez : (119 - (n : Int)) % 64 = (zerosN n : Int) := by unfold zerosN; omega
  have hmk : ∀ W, (Instr.makeSlice 22 (.int .u64 (1 + (119 - (n : Int)) % 64)) (.int .u64 (1 + (119 - (n : Int)) % 64))).run Try.prog W = .ok (.slice (some ⟨W.heap.size, 0, none⟩) (1 + zerosN n) (1 + zerosN n)) (W.alloc (.cells (List.replicate (1 + zerosN n) (Value.int .u8 0)).toArray 5)) := fun W => by
    obtain ⟨i0, hi, hz0, hz1, hz2⟩ := info_parts info5
    have hr := run_make (P := Try.prog) W 22 5 i0 _ Try.underlying22 hi hz0 .u64 .u64 (1 + (119 - (n : Int)) % 64) (1 + (119 - (n : Int)) % 64) (by omega) (by omega) (by rw [hz2]; omega) (by omega)
    rw [hr]
    have e1 : (1 + (119 - (n : Int)) % 64).toNat = 1 + zerosN n := by rw [ez]; omega
    rw [e1, hz1]
    congr 3
    apply Array.ext
    · simp [madeCells]
    · intro j h1 h2
      simp [madeCells, Value.cells, Nat.mod_one]
  have HZ := Lib.hid ez
  clear ez
  generalize hzz : zerosN n = z at hz hmk
  have hP : Calls Try.prog 58 #[.slice (some ⟨w.heap.size, 0, none⟩) (1 + z) (1 + z), .int .u64 (IntKind.u64.wrap ((n : Int) * 8)), .int .i64 8] (w.alloc (.cells ((Array.replicate (1 + z) (Value.int .u8 0)).setIfInBounds 0 (Value.int .u8 128)) 5)) (OwnB (w.alloc (.cells ((Array.replicate (1 + z) (Value.int .u8 0)).setIfInBounds 0 (Value.int .u8 128)) 5)) (padB n)) := by
    have e2 : IntKind.u64.wrap ((n : Int) * 8) = ((n * 8 % 18446744073709551616 : Nat) : Int) := by rw [IntKind.wrap_u64]; omega
    have e3 : (128 :: List.replicate z (0 : UInt8)).length = 1 + z := by simp; omega
    have hb : BAt (w.alloc (.cells ((Array.replicate (1 + z) (Value.int .u8 0)).setIfInBounds 0 (Value.int .u8 128)) 5)) (w.alloc (.cells ((Array.replicate (1 + z) (Value.int .u8 0)).setIfInBounds 0 (Value.int .u8 128)) 5)).heap.size (some ⟨w.heap.size, 0, none⟩) (128 :: List.replicate z 0) := by
      right
      refine ⟨w.heap.size, 0, rfl, by simp, fun j hj => ?_⟩
      rw [Nat.zero_add, cell_of_row _ w.heap.size j _ 5 (0, 0) (heap_alloc_new w _)]
      rw [e3] at hj
      match j, hj with
      | 0, _ => simp [Array.getElem?_setIfInBounds]
      | j + 1, hj =>
        have hjz : j < z := by omega
        simp [Array.getElem?_replicate]
        omega
    have := put_yes (some ⟨w.heap.size, 0, none⟩) (1 + z) (n * 8 % 18446744073709551616) 8 (128 :: List.replicate z 0) _ hb (by rw [e3]; omega) (by omega) (by omega) (by omega)
    rw [e3] at this
    rw [e2]
    unfold padB
    rw [hzz]
    exact this
  have HP := Lib.hid hP
  clear hzz hP
  have p0 : 0 < 1 + z := by omega
  have p1 : (0 : Int) < 1 + (z : Int) := by omega
  have p2 : (Array.replicate (1 + z) (Value.int .u8 0))[0]? = some (Value.int .u8 0) := by rw [Array.getElem?_replicate, if_pos (by omega)]
  go_enter Try.func15, Try.ntmps15
  go_wp2_with (go_at_call 58; refine (HP.out).mono ?_; rintro e w1 ⟨v1, rfl, ho1, hb1⟩)
  go_ret
  have hbw : Below w.heap.size w (w.alloc (.cells ((Array.replicate (1 + z) (Value.int .u8 0)).setIfInBounds 0 (Value.int .u8 128)) 5)) := (Below.refl _ w).alloc (Nat.le_refl _) _
  exact ⟨v1, rfl, own_base ho1 hbw.size, hbw.trans (hb1.mono hbw.size)⟩
end Go.Proofs.Ytcoiaddjfeaciaa
