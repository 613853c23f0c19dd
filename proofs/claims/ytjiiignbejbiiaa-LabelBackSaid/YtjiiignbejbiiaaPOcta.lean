/- Contracts of the functions of package octet that make bytes, and of their references: what Put and Text put. Conditions: the bytes that come in are fewer than a million. -/
import Derived.Test.YtjiiignbejbiiaaPMath
import Derived.Test.YtjiiignbejbiiaaRows
import Derived.WalkKit
import Derived.WalkSpells
import Derived.WalkLawsBesides
import Derived.Lib.Hide
import Derived.Outline
namespace Go.Proofs.Ytjiiignbejbiiaa
set_option maxRecDepth 100000
open Go.RowKit

theorem info5 : (Try.prog.info? 5).map (fun i => (i.zero, i.size, i.bytes)) = some (some (.int .u8 0), 1, 1) := by kernel_rfl

/-- What a call leaves that answers a new slice of bytes. -/
def OwnB (w : World) (xs : List UInt8) (e : Ending) (w' : World) : Prop :=
  ∃ v, e = .returned v ∧ w'.ownsRow w.heap.size 5 1 v xs.length (bcells xs) ∧ Below w.heap.size w w'

theorem isWidth_yes (n : Int) (w : World) (h1 : 1 ≤ n) (h2 : n ≤ 8) : Calls Try.prog 94 #[.int .i64 n] w fun e w' => e = .returned (.bool true) ∧ w = w' := by
  have d1 : decide (1 ≤ n) = true := by simpa using h1
  have d2 : decide (n ≤ 8) = true := by simpa using h2
  go_enter Try.func94, Try.ntmps94
  go_wp2
  go_ret
  exact ⟨rfl, rfl⟩

theorem run_make_u8 (n c : Nat) (hnc : n ≤ c) (hc : c ≤ 2000000) (w : World) :
    (Instr.makeSlice 29 (.int .i64 (n : Int)) (.int .i64 (c : Int))).run Try.prog w = .ok (.slice (some ⟨w.heap.size, 0, none⟩) n c) (w.alloc (.cells (List.replicate c (Value.int .u8 0)).toArray 5)) := by
  obtain ⟨i0, hi, hz0, hz1, hz2⟩ := info_parts info5
  have hr := run_make (P := Try.prog) w 29 5 i0 _ Try.underlying29 hi hz0 .i64 .i64 n c (by omega) (by omega) (by rw [hz2]; omega) (by omega)
  simp only [Int.toNat_natCast, hz1] at hr
  rw [hr]
  congr 3
  apply Array.ext
  · simp [madeCells]
  · intro j h1 h2
    simp [madeCells, Value.cells, Nat.mod_one]

set_option maxRecDepth 100000 in
theorem grown_any (A : Option Addr) (c k : Nat) (xs : List UInt8) (w : World) (hx : BAt w w.heap.size A xs) (hl : xs.length ≤ 1000000) (hk : k ≤ 8) :
    Calls Try.prog 96 #[.slice A xs.length c, .int .i64 (k : Int)] w (OwnB w xs) := by
  have hmk : ∀ W, (Instr.makeSlice 29 (.int .i64 (xs.length : Int)) (.int .i64 ((xs.length : Int) + (k : Int)))).run Try.prog W = .ok (.slice (some ⟨W.heap.size, 0, none⟩) xs.length (xs.length + k)) (W.alloc (.cells (List.replicate (xs.length + k) (Value.int .u8 0)).toArray 5)) := fun W => by
    have := run_make_u8 xs.length (xs.length + k) (by omega) (by omega) W
    rwa [Int.natCast_add] at this
  go_enter Try.func96, Try.ntmps96
  go_wp2_with (with_reducible refine wpList_copy_splice rfl (.tmp 13) (.tmp 14) 29 29 rfl 5 Try.underlying29 (by kernel_rfl) _ _ _ _ _ _ rfl rfl w.heap.size 0 (List.replicate (xs.length + k) (Value.int .u8 0)) 5 (heap_alloc_new w _) (bcells xs) ?_ ?_ ?_ (bcells_one xs) w.heap.size w ((Below.refl _ w).alloc (Nat.le_refl _) _) (Nat.le_refl _) ?_)
  · rw [bcells_length]; simp
  · exact (hx.below ((Below.refl _ w).alloc (Nat.le_refl _) _)).cells
  · simp [bcells_length]
  · intro w1 hs hb
    go_wp2
    go_ret
    exact ⟨_, rfl, own_of_splice (Nat.le_refl _) (by simp only [maxLen]; omega) hs.out, hb⟩

/-- The relation of Put's loop. -/
def PutRel (w : World) (xs : List UInt8) (N k : Nat) (v i : Value) (wr : World) : Prop :=
  ∃ j : Nat, j ≤ k ∧ i = .int .i64 (j : Int) ∧ wr.ownsRow w.heap.size 5 1 v (xs.length + j) (bcells (xs ++ (putB N k).take j)) ∧ Below w.heap.size w wr

set_option maxRecDepth 100000 in
theorem put_yes (A : Option Addr) (c N k : Nat) (xs : List UInt8) (w : World) (hx : BAt w w.heap.size A xs) (hl : xs.length ≤ 1000000) (hN : N < 18446744073709551616) (hk1 : 1 ≤ k) (hk : k ≤ 8) :
    Calls Try.prog 90 #[.slice A xs.length c, .int .u64 (N : Int), .int .i64 (k : Int)] w (OwnB w (xs ++ putB N k)) := by
  obtain ⟨i0, hi, hz0, hz1, hz2⟩ := info_parts info5
  have HN := Lib.hid hN
  clear hN
  go_enter Try.func90, Try.ntmps90
  go_wp2_with (first
    | (go_at_call 94; refine (isWidth_yes _ _ (by omega) (by omega)).mono ?_; rintro e w1 ⟨rfl, rfl⟩)
    | (go_at_call 96; refine (grown_any A c k xs w hx hl hk).mono ?_; rintro e w1 ⟨v1, rfl, hown1, hb1⟩))
  go_loopw [7, 18] (PutRel w xs N k) (fun _ i _ => k - (intOf i).toNat)
  case atStart => exact ⟨0, Nat.zero_le _, rfl, by simpa using hown1, hb1⟩
  case round =>
    obtain ⟨j, hj, rfl, hown, hb⟩ := hrel
    by_cases hlt : j < k
    · go_wp2_with (at_builtin; refine wpList_append_src _ rfl (.tmp 21) (.tmp 30) _ _ rfl w.heap.size 5 i0 _ 1 Try.underlying29 hi hz0 hz1 hz2 rfl _ _ _ rfl (hown.alloc _) _ 1 (bcells [UInt8.ofNat (N / 2 ^ (8 * (k - 1 - j)))]) rfl (src_one Try.underlying29 _ _ _ _ (byte_div _ _)) (by simp only [maxLen]; omega) (by omega) (by have := hb.size; simp; omega) ?_; intro v2 w2 hown2 hg2 hat2)
      have R : PutRel w xs N k v2 (.int .i64 ((j : Int) + 1)) w2 := ⟨j + 1, by omega, by go_num, by rw [putB_take N k j hlt, ← List.append_assoc, bcells_append (xs ++ _)]; exact hown2, (hb.alloc hb.size _).grown hg2 (by have := hb.size; simp; omega) (fun b hbb => (hown.lt b hbb).1)⟩
      clear hown2 hg2 hat2 hown hb
      go_wp2
      go_roundw
      case rel => exact R
      case measure => simp [intOf]; omega
    · obtain rfl : j = k := by omega
      go_wp2
      go_ret
      exact ⟨_, rfl, by rw [List.length_append, putB_length]; simpa [putB_all] using hown, hb⟩

end Go.Proofs.Ytjiiignbejbiiaa
