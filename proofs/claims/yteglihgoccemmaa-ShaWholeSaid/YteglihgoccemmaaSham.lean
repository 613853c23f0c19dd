/- The walk of the statement ShaWhole of this seat: it answers true for every length. No condition but that a length is a number of 64 bits. -/
import Derived.Test.YteglihgoccemmaaShaj
import Derived.LoopTactic
namespace Go.Proofs.Yteglihgoccemmaa
open Go.RowKit Go.Great
set_option linter.unusedVariables false
set_option linter.unusedSimpArgs false

theorem padB_len (n : Nat) : (padB n).length = 9 + zerosN n := by
  unfold padB
  rw [List.length_append, List.length_cons, List.length_replicate, putB_length]
  omega
theorem padB_get0 (n : Nat) (h : 0 < (padB n).length) : (padB n)[0] = 128 := by simp [padB]
theorem padB_getz (n j : Nat) (hj : j < zerosN n) (h : 1 + j < (padB n).length) : (padB n)[1 + j] = 0 := by
  simp only [padB]
  rw [List.getElem_append_left (by simp; omega)]
  simp [Nat.add_comm 1 j]
theorem padB_drop (n : Nat) : (padB n).drop (1 + zerosN n) = putB (n * 8 % 18446744073709551616) 8 := by
  unfold padB
  rw [List.drop_append_of_le_length (by simp; omega), List.drop_eq_nil_of_le (by simp; omega), List.nil_append]

theorem run_cut8 (g off L c : Nat) (h9 : 9 ≤ L) (hc : L ≤ c) (W : World) : (Instr.slice 22 (.slice (some ⟨g, off, none⟩) L c) (some (.int .i64 ((L : Int) - 8))) none none).run Try.prog W = .ok (.slice (some ⟨g, off + (L - 8), none⟩) 8 (c - (L - 8))) W := by
  have := run_cut (some ⟨g, off, none⟩) L c (L - 8) (by omega) W
  rw [show (((L - 8 : Nat) : Int)) = (L : Int) - 8 from by omega, show L - (L - 8) = 8 from by omega] at this
  rw [this]
  unfold cutA
  rw [if_neg (by omega), Option.map_some, addr_add]
theorem run_cut1 (g off L c : Nat) (h9 : 9 ≤ L) (hc : L ≤ c) (W : World) : (Instr.slice 22 (.slice (some ⟨g, off, none⟩) L c) (some (.int .i64 1)) (some (.int .i64 ((L : Int) - 8))) none).run Try.prog W = .ok (.slice (some ⟨g, off + 1, none⟩) (L - 9) (c - 1)) W := by
  rw [run_slice_lh W 22 (some ⟨g, off, none⟩) L c under22 .i64 .i64 1 ((L : Int) - 8) (by omega) (by omega) (by omega), size5]
  have e : (⟨g, off, none⟩ : Addr).add 1 = ⟨g, off + 1, none⟩ := addr_add g off 1
  have e2 : ((L : Int) - 8).toNat - 1 = L - 9 := by omega
  simp [Result.andThen, sliced, e, e2, show ¬ (c = 1) from by omega]

set_option maxRecDepth 100000 in
set_option maxHeartbeats 4000000 in
theorem swhole_walk (n : Nat) (hn : n < 18446744073709551616) (w : World) : Calls Try.prog 9 #[.int .u64 (n : Int)] w fun e w' => e = .returned (.bool true) ∧ Below w.heap.size w w' := by
  have hz : zerosN n = (119 - n % 64) % 64 := rfl
  obtain ⟨L, hL⟩ : ∃ L, L = (padB n).length := ⟨_, rfl⟩
  obtain ⟨B8, hB8⟩ : ∃ B8, B8 = putB (n * 8 % 18446744073709551616) 8 := ⟨_, rfl⟩
  have hLz : L = 9 + zerosN n := by rw [hL, padB_len]
  have hl8 : B8.length = 8 := by rw [hB8, putB_length]
  have hP : Calls Try.prog 34 #[.int .u64 (n : Int)] w fun e w' => ∃ g off c, e = .returned (.slice (some ⟨g, off, none⟩) L c) ∧ L ≤ c ∧ w'.cell? ⟨g, off, none⟩ = some (.int .u8 128) ∧ (∀ j, j < L - 9 → w'.cell? ⟨g, off + 1 + j, none⟩ = some (.int .u8 0)) ∧ (∀ j (h : j < B8.length), w'.cell? ⟨g, off + (L - 8) + j, none⟩ = some (.int .u8 (B8[j].toNat : Int))) ∧ Below w.heap.size w w' := by
    refine (pad_any n hn w).mono ?_
    rintro e w' ⟨v, rfl, ho, hb⟩
    obtain ⟨A, c, rfl⟩ := slice_of_own ho
    have hx := BAt.of_own ho (Nat.le_refl _)
    obtain ⟨g, off, rfl, _, hc⟩ := hx.some_ (by omega)
    refine ⟨g, off, c, by rw [hL], by rw [hL]; exact own_cap ho, ?_, fun j hj => ?_, fun j hj => ?_, hb⟩
    · have := hc 0 (by omega)
      rw [padB_get0] at this
      exact this
    · have := hc (1 + j) (by omega)
      rw [padB_getz n j (by omega)] at this
      rw [Nat.add_assoc]
      exact this
    · have := hc (L - 8 + j) (by omega)
      rw [Nat.add_assoc, this]
      have e : (padB n)[L - 8 + j]'(by omega) = B8[j] := by
        have hd := padB_drop n
        rw [← hB8] at hd
        subst hd
        rw [List.getElem_drop]
        congr 1
        omega
      rw [e]
  have h9 : (9 : Int) ≤ (L : Int) := by omega
  have h72 : (L : Int) ≤ 72 := by omega
  have hmod : ((n : Int) % 64 + (L : Int)) % 64 = 0 := by omega
  have HP := Lib.hid hP
  have HLZ := Lib.hid hLz
  have HN := Lib.hid hn
  have HB8 := Lib.hid hB8
  have HL8 := Lib.hid hl8
  clear hP hL hLz hz hB8 hl8
  go_enter Try.func9, Try.ntmps9
  go_wp2_with (go_at_call 34; refine (HP.out).mono ?_; rintro e w1 ⟨g, off, c, rfl, hLc, c0, hz0, hc8, hb1⟩; have HZ0 := Lib.hid hz0; have HC8 := Lib.hid hc8; have HB1 := Lib.hid hb1; have hcut8 := fun W => run_cut8 g off L c (by omega) hLc W; have hcut1 := fun W => run_cut1 g off L c (by omega) hLc W; clear hz0 hc8 hb1)
  go_loop [4, 41] (fun b i => ∃ j : Nat, j ≤ 8 ∧ i = .int .i64 j ∧ b = .int .u64 (getN (B8.take j))) (fun _ i => 8 - (intOf i).toNat)
  case atStart => exact ⟨0, by omega, rfl, by simp [getN]⟩
  case round =>
    obtain ⟨j, hj, rfl, rfl⟩ := hrel
    by_cases hlt : j < 8
    · have hl8 := HL8.out
      have hcj := HC8.out j (by omega)
      have R : bits BinOp.or IntKind.u64 (IntKind.u64.wrap ((getN (B8.take j) : Int) * 256)) (IntKind.u64.wrap (B8[j].toNat : Int)) = (getN (B8.take (j + 1)) : Int) := by
        rw [or_byte _ _ (getN_take_lt' _ _ hlt) (B8[j]).toNat_lt, getN_take_succ _ _ (by omega)]
      have HR := Lib.hid R
      clear R
      go_wp2
      go_round
      case rel => exact ⟨j + 1, by omega, by go_num, by rw [HR.out]⟩
      case measure => simp [intOf]; omega
    · obtain rfl : j = 8 := by omega
      have hN8 : (getN (B8.take 8) : Int) = (n : Int) * 8 % 18446744073709551616 := by
        rw [List.take_of_length_le (by rw [HL8.out]; omega), HB8.out, getN_putB]
        omega
      rw [hN8]
      clear hN8 hlt hj
      go_wp2
      go_loop [57] (fun i => ∃ j : Nat, j ≤ L - 9 ∧ i = .int .i64 j) (fun i => (L - 9) - (intOf i).toNat)
      case atStart => exact ⟨0, by omega, rfl⟩
      case round =>
        obtain ⟨j, hj, rfl⟩ := hrel
        by_cases hlt : j < L - 9
        · have hcj := HZ0.out j hlt
          have hlt' : (j : Int) < ((L - 9 : Nat) : Int) := by omega
          go_wp2
          go_round
          case rel => exact ⟨j + 1, by omega, by go_num⟩
          case measure => simp [intOf]; omega
        · obtain rfl : j = L - 9 := by omega
          go_wp2_with (go_at_call 31; refine (slives_any _).mono ?_; rintro e w2 ⟨rfl, hb2⟩)
          go_ret
          exact ⟨rfl, HB1.out.trans (hb2.mono HB1.out.size)⟩
end Go.Proofs.Yteglihgoccemmaa
