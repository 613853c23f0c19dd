/- Ints of the statements: two lists of the same keys are the same. Condition: both have the keys. -/
import Derived.Test.YtkebgcalphajhaaTdd
namespace Go.Proofs.Ytkebgcalphajhaa
open Go.RowKit Go.Lib
set_option maxRecDepth 100000
set_option maxHeartbeats 1000000
def IntR (w : World) (n : Nat) (s : Value) (wr : World) : Prop := ∃ i : Nat, s = .int .i64 (i : Int) ∧ i ≤ n ∧ Below w.heap.size w wr
theorem ints_same (va vb : Value) (K : List (Int × Nat)) (w : World) (ha : RowAt w 3 1 va K.length (keysV K)) (hb : RowAt w 3 1 vb K.length (keysV K)) : Calls Try.prog 15 #[va, vb] w fun e w' => e = .returned (.bool true) ∧ Below w.heap.size w w' := by
  have hmax : K.length ≤ 9223372036854775807 := Nat.le_trans (row_max ha) (by decide)
  have R0 : Hid (IntR w K.length (.int .i64 0) w) := Lib.hid ⟨0, rfl, Nat.zero_le _, Below.refl _ _⟩
  obtain ⟨A, c, rfl, hn⟩ := RowAt.form ha
  obtain ⟨B, d, rfl, hm⟩ := RowAt.form hb
  have HA := Lib.hid ha
  have HB := Lib.hid hb
  have HC : Hid (∀ i, i < K.length → ∃ b off b2 off2 z, A = some ⟨b, off, none⟩ ∧ B = some ⟨b2, off2, none⟩ ∧ ∀ W, Below w.heap.size w W → W.cell? ⟨b, off + i, none⟩ = some (.int .i64 z) ∧ W.cell? ⟨b2, off2 + i, none⟩ = some (.int .i64 z)) := Lib.hid (fun i hi => by
    obtain ⟨b, off, _, e3, _⟩ := RowAt.filled ha (by omega)
    injection e3 with e4 _ e5
    obtain ⟨b2, off2, _, e6, _⟩ := RowAt.filled hb (by omega)
    injection e6 with e7 _ e8
    subst e4 e5 e7 e8
    have hk : (keysV K)[i]? = some (.int .i64 K[i].1) := by
      unfold keysV
      rw [List.getElem?_map, List.getElem?_eq_getElem hi]
      rfl
    exact ⟨b, off, b2, off2, K[i].1, rfl, rfl, fun W hW => ⟨RowAt.cell (ha.bel hW) _ _ hk, RowAt.cell (hb.bel hW) _ _ hk⟩⟩)
  clear ha hb HA HB
  generalize K.length = n at *
  go_enter Try.func15, Try.ntmps15
  go_wp2_with (first | fail)
  go_loopw [13] (IntR w n) (fun i _ => n - (RowKit.intOf i).toNat)
  case atStart => exact R0.out
  case round =>
    obtain ⟨i, rfl, hi, hbw⟩ := hrel
    clear R0
    have HBW := Lib.hid hbw
    by_cases hlt : i < n
    · have hlt' : (i : Int) < (n : Int) := by omega
      have hlt0 : 0 ≤ (i : Int) := by omega
      have hwr : IntKind.i64.wrap ((i : Int) + 1) = (i : Int) + 1 := by rw [IntKind.wrap_i64]; omega
      obtain ⟨b, off, b2, off2, z, rfl, rfl, hq⟩ := HC.out i hlt
      obtain ⟨q1, q2⟩ := hq _ hbw
      have HREL : Hid (∀ w5, Below wr.heap.size wr w5 → IntR w n (.int .i64 ((i : Int) + 1)) w5) := Lib.hid (fun w5 h5 => ⟨i + 1, by go_num, by omega, HBW.out.trans (h5.mono HBW.out.size)⟩)
      clear hq hbw HC
      go_upto_region 6 with (fail)
      go_quiet (fail)
      go_wp2_with (first | fail)
      go_roundw
      case rel => exact HREL.out _ ⟨rfl, rfl, rfl, Nat.le_refl _, fun _ _ => rfl⟩
      case measure => simp [RowKit.intOf]; omega
    · obtain rfl : i = n := by omega
      have hlt' : ¬ (i : Int) < (i : Int) := by omega
      clear HC hbw
      go_wp2_with (first | fail)
      go_ret
      exact ⟨rfl, HBW.out⟩
end Go.Proofs.Ytkebgcalphajhaa
