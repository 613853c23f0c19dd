/- Contracts of the references of Put and Text. Conditions: the bytes that come in are fewer than a million. -/
import Derived.Test.YtjiiignbejbiiaaPOctb
namespace Go.Proofs.Ytjiiignbejbiiaa
set_option maxRecDepth 100000
open Go.RowKit
set_option linter.unusedVariables false

/-- The relation of the loop of Put's reference. -/
def RPutRel (w : World) (xs : List UInt8) (N k : Nat) (v i : Value) (wr : World) : Prop :=
  ∃ j : Nat, j ≤ k ∧ i = .int .i64 ((k : Int) - 1 - j) ∧ wr.ownsRow w.heap.size 5 1 v (xs.length + j) (bcells (xs ++ (putB N k).take j)) ∧ Below w.heap.size w wr

set_option maxRecDepth 100000 in
theorem rput_yes (A : Option Addr) (c N k : Nat) (xs : List UInt8) (w : World) (hx : BAt w w.heap.size A xs) (hl : xs.length ≤ 1000000) (hN : N < 18446744073709551616) (hk1 : 1 ≤ k) (hk : k ≤ 8) :
    Calls Try.prog 63 #[.slice A xs.length c, .int .u64 (N : Int), .int .i64 (k : Int)] w (OwnB w (xs ++ putB N k)) := by
  obtain ⟨i0, hi, hz0, hz1, hz2⟩ := info_parts info5
  have HN := Lib.hid hN
  clear hN
  go_enter Try.func63, Try.ntmps63
  go_wp2_with (at_builtin; refine wpList_append_src _ rfl (.tmp 9) (.tmp 10) _ _ rfl w.heap.size 5 i0 _ 1 Try.underlying29 hi hz0 hz1 hz2 rfl (.slice (some ⟨w.heap.size, 0, none⟩) 0 0) 0 [] rfl (World.ownsRow_made (e := 5) (size := 1) w #[] 0 (Nat.le_refl _) (Nat.zero_le _) rfl) _ xs.length (bcells xs) rfl ((hx.below ((Below.refl _ w).alloc (Nat.le_refl _) _)).src Try.underlying29 _) (by simp only [maxLen]; omega) (by omega) (by simp) ?_; intro v1 w1 hown1 hg1 hat1; have hb1 : Below w.heap.size w w1 := ((Below.refl _ w).alloc (Nat.le_refl _) _).grown hg1 (by simp) (by simp [Value.ownBlock]); clear hg1 hat1)
  go_loopw [7, 8] (RPutRel w xs N k) (fun _ i _ => (intOf i + 1).toNat)
  case atStart => exact ⟨0, Nat.zero_le _, by simp, by simpa using hown1, hb1⟩
  case round =>
    obtain ⟨j, hj, rfl, hown, hb⟩ := hrel
    by_cases hlt : j < k
    · go_wp2_with (at_builtin; refine wpList_append_src _ rfl (.tmp 25) (.tmp 32) _ _ rfl w.heap.size 5 i0 _ 1 Try.underlying29 hi hz0 hz1 hz2 rfl _ _ _ rfl (hown.alloc _) _ 1 (bcells [UInt8.ofNat (N / 2 ^ (8 * (k - 1 - j)))]) rfl (src_one Try.underlying29 _ _ _ _ (byte_div _ _)) (by simp only [maxLen]; omega) (by omega) (by have := hb.size; simp; omega) ?_; intro v2 w2 hown2 hg2 hat2)
      go_roundw
      case rel => exact ⟨j + 1, by omega, by go_num, by rw [putB_take N k j hlt, ← List.append_assoc, bcells_append (xs ++ _)]; exact hown2, (hb.alloc hb.size _).grown hg2 (by have := hb.size; simp; omega) (fun b hbb => (hown.lt b hbb).1)⟩
      case measure => simp [intOf]; omega
    · obtain rfl : j = k := by omega
      go_wp2
      go_ret
      exact ⟨_, rfl, by rw [List.length_append, putB_length]; simpa [putB_all] using hown, hb⟩

end Go.Proofs.Ytjiiignbejbiiaa
