/- Contract of the reference of Pad of package sha. No condition but that a length is a number of 64 bits. -/
import Derived.Test.YtcoiaddjfeaciaaShak
import Derived.LoopTactic
namespace Go.Proofs.Ytcoiaddjfeaciaa
set_option maxRecDepth 100000
open Go.RowKit Go.Great
set_option linter.unusedVariables false
set_option linter.unusedSimpArgs false

def RPadRel (w : World) (n : Nat) (v : Value) (wr : World) : Prop :=
  ∃ (j : Nat) (A : Option Addr) (c : Nat), j ≤ zerosN n ∧ v = .slice A (1 + j) c ∧ wr.ownsRow w.heap.size 5 1 (.slice A (1 + j) c) (1 + j) (bcells (128 :: List.replicate j 0)) ∧ Below w.heap.size w wr

theorem pad_mod (n j : Nat) : (IntKind.u64.wrap ((n : Int) + (1 + (j : Int)))).tmod 64 = ((n : Int) + (1 + (j : Int))) % 64 := by
  rw [IntKind.wrap_u64, Int.tmod_eq_emod_of_nonneg (by omega)]
  omega

set_option maxRecDepth 100000 in
theorem rpad_any (n : Nat) (hn : n < 18446744073709551616) (w : World) : Calls Try.prog 16 #[.int .u64 (n : Int)] w (OwnB w (padB n)) := by
  obtain ⟨i0, hi, hz0, hz1, hz2⟩ := info_parts info5
  have hz : zerosN n ≤ 63 := by unfold zerosN; omega
  have HN := Lib.hid hn
  clear hn
  go_enter Try.func16, Try.ntmps16
  go_wp2
  have R0 : RPadRel w n (.slice (some ⟨w.heap.size, 0, none⟩) 1 1) (w.alloc (.cells #[.int .u8 128] 5)) := by
    refine ⟨0, _, _, Nat.zero_le _, rfl, ?_, (Below.refl _ w).alloc (Nat.le_refl _) _⟩
    exact ⟨by simp [bcells], .inr ⟨w.heap.size, 1, _, rfl, Nat.le_refl _, heap_alloc_new w _, Nat.le_refl _, by simp only [maxLen]; omega, rfl, by simp [bcells]⟩⟩
  have HR0 := Lib.hid R0
  clear R0
  go_loopw [3] (RPadRel w n) (fun v _ => zerosN n + 1 - sliceLen v)
  case atStart => exact HR0.out
  case round =>
    obtain ⟨j, A, c, hj, rfl, hown, hb⟩ := hrel
    clear HR0
    by_cases hlt : j < zerosN n
    · obtain ⟨X, hX, hX'⟩ : ∃ X, (IntKind.u64.wrap ((n : Int) + (1 + (j : Int)))).tmod 64 = X ∧ (X != 56) = true := ⟨_, rfl, by rw [pad_mod]; unfold zerosN at hlt; simp; omega⟩
      have R : ∀ v2 w2, w2.ownsRow w.heap.size 5 1 v2 (1 + j + 1) (bcells (128 :: List.replicate j 0) ++ bcells [0]) → (wr.alloc (.cells #[.int .u8 0] 5)).grownBy w2 (Value.ownBlock (.slice A (1 + j) c)) → RPadRel w n v2 w2 ∧ zerosN n + 1 - sliceLen v2 < zerosN n + 1 - sliceLen (.slice A (1 + j) c) := by
        intro v2 w2 h2 g2
        obtain ⟨A2, c2, rfl⟩ := slice_of_own h2
        refine ⟨⟨j + 1, A2, c2, by omega, by rw [show 1 + (j + 1) = 1 + j + 1 from by omega], ?_, (hb.alloc hb.size _).grown g2 (by have := hb.size; simp; omega) (fun b hbb => (hown.lt b hbb).1)⟩, ?_⟩
        · rw [show 1 + (j + 1) = 1 + j + 1 from by omega, List.replicate_succ', ← List.cons_append, bcells_append]
          exact h2
        · simp only [sliceLen]
          omega
      have HH := Lib.hid hown
      have HB := Lib.hid hb
      have HR := Lib.hid R
      clear hown hb R
      go_wp2_with (at_builtin; refine wpList_append_src _ rfl (.tmp 12) (.tmp 13) _ _ rfl w.heap.size 5 i0 _ 1 Try.underlying22 hi hz0 hz1 hz2 rfl _ _ _ rfl (HH.out.alloc _) _ 1 (bcells [0]) rfl (src_one Try.underlying22 _ _ _ _ rfl) (by simp only [maxLen]; omega) (by omega) (by have := HB.out.size; simp; omega) ?_; intro v2 w2 hown2 hg2 hat2)
      exact HR.out v2 w2 hown2 hg2
    · obtain rfl : j = zerosN n := by omega
      have hX : (IntKind.u64.wrap ((n : Int) + (1 + (zerosN n : Int)))).tmod 64 = 56 := by rw [pad_mod]; unfold zerosN; omega
      have e3 : (128 :: List.replicate (zerosN n) (0 : UInt8)).length = 1 + zerosN n := by simp; omega
      have hP := rput_yes A c (n * 8 % 18446744073709551616) 8 (128 :: List.replicate (zerosN n) 0) wr (BAt.of_own hown (Nat.le_refl _)) (by omega) (by omega) (by omega) (by omega)
      rw [e3] at hP
      have e2 : ((n * 8 % 18446744073709551616 : Nat) : Int) = IntKind.u64.wrap ((n : Int) * 8) := by rw [IntKind.wrap_u64]; omega
      rw [e2] at hP
      have hP' : Calls Try.prog 57 #[.slice A (1 + zerosN n) c, .int .u64 (IntKind.u64.wrap ((n : Int) * 8)), .int .i64 8] wr (OwnB wr (padB n)) := hP
      have HP := Lib.hid hP'
      have HB := Lib.hid hb
      clear hP hP' e2 e3 hown hb hlt hj
      go_wp2_with (go_at_call 57; refine (HP.out).mono ?_; rintro e w2 ⟨v2, rfl, ho2, hb2⟩)
      go_ret
      exact ⟨v2, rfl, own_base ho2 HB.out.size, HB.out.trans (hb2.mono HB.out.size)⟩
end Go.Proofs.Ytcoiaddjfeaciaa
