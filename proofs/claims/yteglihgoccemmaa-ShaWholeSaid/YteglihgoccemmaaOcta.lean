/- Contracts of the functions of package octet that make bytes, and of their references: what Put and Text put. Conditions: the bytes that come in are fewer than a million. -/
import Derived.Test.YteglihgoccemmaaRows
import Derived.Test.YteglihgoccemmaaWords
import Derived.Test.YteglihgoccemmaaMath
import Derived.WalkKit
import Derived.WalkSpells
import Derived.WalkLawsBesides
import Derived.Lib.Hide
import Derived.Outline
namespace Go.Proofs.Yteglihgoccemmaa
open Go.RowKit

theorem info5 : (Try.prog.info? 5).map (fun i => (i.zero, i.size, i.bytes)) = some (some (.int .u8 0), 1, 1) := by kernel_rfl

/-- What a call leaves that answers a new slice of bytes. -/
def OwnB (w : World) (xs : List UInt8) (e : Ending) (w' : World) : Prop :=
  ∃ v, e = .returned v ∧ w'.ownsRow w.heap.size 5 1 v xs.length (bcells xs) ∧ Below w.heap.size w w'

theorem isWidth_yes (n : Int) (w : World) (h1 : 1 ≤ n) (h2 : n ≤ 8) : Calls Try.prog 41 #[.int .i64 n] w fun e w' => e = .returned (.bool true) ∧ w = w' := by
  have d1 : decide (1 ≤ n) = true := by simpa using h1
  have d2 : decide (n ≤ 8) = true := by simpa using h2
  go_enter Try.func41, Try.ntmps41
  go_wp2
  go_ret
  exact ⟨rfl, rfl⟩

theorem isWidth_no (n : Int) (w : World) (h : ¬ (1 ≤ n ∧ n ≤ 8)) : Calls Try.prog 41 #[.int .i64 n] w fun e w' => e = .returned (.bool false) ∧ w = w' := by
  by_cases h1 : 1 ≤ n
  · have d2 : ¬ n ≤ 8 := by omega
    clear h
    go_enter Try.func41, Try.ntmps41
    go_wp2
    go_ret
    exact ⟨rfl, rfl⟩
  · clear h
    go_enter Try.func41, Try.ntmps41
    go_wp2
    go_ret
    exact ⟨rfl, rfl⟩

theorem clone_any (A : Option Addr) (c : Nat) (xs : List UInt8) (w : World) (hx : BAt w w.heap.size A xs) (hl : xs.length ≤ 1000000) :
    Calls Try.prog 42 #[.slice A xs.length c] w (OwnB w xs) := by
  obtain ⟨i0, hi, hz0, hz1, hz2⟩ := info_parts info5
  have hnil : ∀ (w : World) (a : Option Addr) (n c n' c' : Nat), (binOp .eql 22 (.slice a n c) (.slice none n' c')).run Try.prog w = .ok (.bool a.isNone) w := fun w a n c n' c' => Lib.run_eql_slice_nil w _ _ a n c n' c' Try.underlying22
  cases A with
  | none =>
    have := hx.none_
    subst this
    go_enter Try.func42, Try.ntmps42
    go_wp2
    go_ret
    exact ⟨_, rfl, World.ownsRow_nil _ _ _ _, Below.refl _ _⟩
  | some a =>
    have HL := Lib.hid hl
    clear hl
    go_enter Try.func42, Try.ntmps42
    go_wp2_with (at_builtin; refine wpList_append_src _ rfl (.tmp 5) (.tmp 6) _ _ rfl w.heap.size 5 i0 _ 1 Try.underlying22 hi hz0 hz1 hz2 rfl (.slice (some ⟨w.heap.size, 0, none⟩) 0 0) 0 [] rfl (World.ownsRow_made (e := 5) (size := 1) w #[] 0 (Nat.le_refl _) (Nat.zero_le _) rfl) _ xs.length (bcells xs) rfl ((hx.below ((Below.refl _ w).alloc (Nat.le_refl _) _)).src Try.underlying22 _) (by have := HL.out; simp only [maxLen]; omega) (by have := HL.out; omega) (by simp) ?_; intro v1 w1 hown1 hg1 hat1)
    go_ret
    exact ⟨v1, rfl, by simpa using hown1, ((Below.refl _ w).alloc (Nat.le_refl _) _).grown hg1 (by simp) (by simp [Value.ownBlock])⟩

theorem run_make_u8 (n c : Nat) (hnc : n ≤ c) (hc : c ≤ 2000000) (w : World) :
    (Instr.makeSlice 22 (.int .i64 (n : Int)) (.int .i64 (c : Int))).run Try.prog w = .ok (.slice (some ⟨w.heap.size, 0, none⟩) n c) (w.alloc (.cells (List.replicate c (Value.int .u8 0)).toArray 5)) := by
  obtain ⟨i0, hi, hz0, hz1, hz2⟩ := info_parts info5
  have hr := run_make (P := Try.prog) w 22 5 i0 _ Try.underlying22 hi hz0 .i64 .i64 n c (by omega) (by omega) (by rw [hz2]; omega) (by omega)
  simp only [Int.toNat_natCast, hz1] at hr
  rw [hr]
  congr 3
  apply Array.ext
  · simp [madeCells]
  · intro j h1 h2
    simp [madeCells, Value.cells, Nat.mod_one]

set_option maxRecDepth 100000 in
theorem grown_any (A : Option Addr) (c k : Nat) (xs : List UInt8) (w : World) (hx : BAt w w.heap.size A xs) (hl : xs.length ≤ 1000000) (hk : k ≤ 8) :
    Calls Try.prog 43 #[.slice A xs.length c, .int .i64 (k : Int)] w (OwnB w xs) := by
  have hmk : ∀ W, (Instr.makeSlice 22 (.int .i64 (xs.length : Int)) (.int .i64 ((xs.length : Int) + (k : Int)))).run Try.prog W = .ok (.slice (some ⟨W.heap.size, 0, none⟩) xs.length (xs.length + k)) (W.alloc (.cells (List.replicate (xs.length + k) (Value.int .u8 0)).toArray 5)) := fun W => by
    have := run_make_u8 xs.length (xs.length + k) (by omega) (by omega) W
    rwa [Int.natCast_add] at this
  go_enter Try.func43, Try.ntmps43
  go_wp2_with (with_reducible refine wpList_copy_splice rfl (.tmp 13) (.tmp 14) 22 22 rfl 5 Try.underlying22 (by kernel_rfl) _ _ _ _ _ _ rfl rfl w.heap.size 0 (List.replicate (xs.length + k) (Value.int .u8 0)) 5 (heap_alloc_new w _) (bcells xs) ?_ ?_ ?_ (bcells_one xs) w.heap.size w ((Below.refl _ w).alloc (Nat.le_refl _) _) (Nat.le_refl _) ?_)
  · rw [bcells_length]; simp
  · exact (hx.below ((Below.refl _ w).alloc (Nat.le_refl _) _)).cells
  · simp [bcells_length]
  · intro w1 hs hb
    go_wp2
    go_ret
    exact ⟨_, rfl, own_of_splice (Nat.le_refl _) (by simp only [maxLen]; omega) hs.out, hb⟩

/-- The relation of Put's loop. -/
def PutRel (w : World) (xs : List UInt8) (N k : Nat) (v i : Value) (wr : World) : Prop :=
  ∃ j : Nat, j ≤ k ∧ i = .int .i64 (j : Int) ∧ wr.ownsRow w.heap.size 5 1 v (xs.length + j) (bcells (xs ++ (putB N k).take j)) ∧ Below w.heap.size w wr

set_option maxRecDepth 100000 in
theorem put_yes (A : Option Addr) (c N k : Nat) (xs : List UInt8) (w : World) (hx : BAt w w.heap.size A xs) (hl : xs.length ≤ 1000000) (hN : N < 18446744073709551616) (hk1 : 1 ≤ k) (hk : k ≤ 8) :
    Calls Try.prog 16 #[.slice A xs.length c, .int .u64 (N : Int), .int .i64 (k : Int)] w (OwnB w (xs ++ putB N k)) := by
  obtain ⟨i0, hi, hz0, hz1, hz2⟩ := info_parts info5
  have HN := Lib.hid hN
  clear hN
  go_enter Try.func16, Try.ntmps16
  go_wp2_with (first
    | (go_at_call 41; refine (isWidth_yes _ _ (by omega) (by omega)).mono ?_; rintro e w1 ⟨rfl, rfl⟩)
    | (go_at_call 43; refine (grown_any A c k xs w hx hl hk).mono ?_; rintro e w1 ⟨v1, rfl, hown1, hb1⟩))
  go_loopw [7, 18] (PutRel w xs N k) (fun _ i _ => k - (intOf i).toNat)
  case atStart => exact ⟨0, Nat.zero_le _, rfl, by simpa using hown1, hb1⟩
  case round =>
    obtain ⟨j, hj, rfl, hown, hb⟩ := hrel
    by_cases hlt : j < k
    · go_wp2_with (at_builtin; refine wpList_append_src _ rfl (.tmp 21) (.tmp 30) _ _ rfl w.heap.size 5 i0 _ 1 Try.underlying22 hi hz0 hz1 hz2 rfl _ _ _ rfl (hown.alloc _) _ 1 (bcells [UInt8.ofNat (N / 2 ^ (8 * (k - 1 - j)))]) rfl (src_one Try.underlying22 _ _ _ _ (byte_div _ _)) (by simp only [maxLen]; omega) (by omega) (by have := hb.size; simp; omega) ?_; intro v2 w2 hown2 hg2 hat2)
      have R : PutRel w xs N k v2 (.int .i64 ((j : Int) + 1)) w2 := ⟨j + 1, by omega, by go_num, by rw [putB_take N k j hlt, ← List.append_assoc, bcells_append (xs ++ _)]; exact hown2, (hb.alloc hb.size _).grown hg2 (by have := hb.size; simp; omega) (fun b hbb => (hown.lt b hbb).1)⟩
      clear hown2 hg2 hat2 hown hb
      go_wp2
      go_roundw
      case rel => exact R
      case measure => simp [intOf]; omega
    · obtain rfl : j = k := by omega
      go_wp2
      go_ret
      exact ⟨_, rfl, by rw [List.length_append, putB_length]; simpa [putB_all] using hown, hb⟩

theorem put_no (A : Option Addr) (c N : Nat) (wd : Int) (xs : List UInt8) (w : World) (hx : BAt w w.heap.size A xs) (hl : xs.length ≤ 1000000) (hk : ¬ (1 ≤ wd ∧ wd ≤ 8)) :
    Calls Try.prog 16 #[.slice A xs.length c, .int .u64 (N : Int), .int .i64 wd] w (OwnB w xs) := by
  go_enter Try.func16, Try.ntmps16
  go_wp2_with (first
    | (go_at_call 41; refine (isWidth_no _ _ hk).mono ?_; rintro e w1 ⟨rfl, rfl⟩)
    | (go_at_call 42; refine (clone_any A c xs w hx hl).mono ?_; rintro e w1 ⟨v1, rfl, hown1, hb1⟩))
  go_ret
  exact ⟨v1, rfl, hown1, hb1⟩

theorem put_any (A : Option Addr) (c N : Nat) (wd : Int) (xs : List UInt8) (w : World) (hx : BAt w w.heap.size A xs) (hl : xs.length ≤ 1000000) (hN : N < 18446744073709551616) :
    Calls Try.prog 16 #[.slice A xs.length c, .int .u64 (N : Int), .int .i64 wd] w (OwnB w (xs ++ putI N wd)) := by
  by_cases hk : 1 ≤ wd ∧ wd ≤ 8
  · obtain ⟨k, rfl⟩ : ∃ k : Nat, wd = k := ⟨wd.toNat, by omega⟩
    have := put_yes A c N k xs w hx hl hN (by omega) (by omega)
    simpa [putI, hk] using this
  · have := put_no A c N wd xs w hx hl hk
    simpa [putI, hk] using this

/-- What a call leaves that answers a new slice of bytes and an error's number. -/
def OwnB2 (w : World) (xs : List UInt8) (n : Int) (e : Ending) (w' : World) : Prop :=
  ∃ v, e = .returned (.tuple #[v, .int .i64 n]) ∧ w'.ownsRow w.heap.size 5 1 v xs.length (bcells xs) ∧ Below w.heap.size w w'

set_option maxRecDepth 100000 in
theorem text_yes (A : Option Addr) (c : Nat) (xs : List UInt8) (s : ByteArray) (w : World) (hx : BAt w w.heap.size A xs) (hl : xs.length ≤ 900000) (hs : s.size ≤ 1024) :
    Calls Try.prog 14 #[.slice A xs.length c, .string s] w (OwnB2 w (xs ++ (putB s.size 2 ++ s.data.toList)) 0) := by
  obtain ⟨i0, hi, hz0, hz1, hz2⟩ := info_parts info5
  have hp := put_yes A c s.size 2 xs w hx (by omega) (by omega) (by omega) (by omega)
  have HP := Lib.hid hp
  clear hp
  go_enter Try.func14, Try.ntmps14
  go_wp2_with (first
    | (go_at_call 16; refine (HP.out).mono ?_; rintro e w1 ⟨v1, rfl, hown1, hb1⟩)
    | (at_builtin; refine wpList_append_src _ rfl (.tmp 13) (.tmp 14) _ _ rfl w.heap.size 5 i0 _ 1 Try.underlying22 hi hz0 hz1 hz2 rfl _ _ _ rfl hown1 _ s.size (byteCells s) rfl (Src.ofString _ Try.underlying9 s) (by have := putB_length s.size 2; simp only [maxLen, List.length_append]; omega) (by have := putB_length s.size 2; simp only [List.length_append]; omega) hb1.size ?_; intro v2 w2 hown2 hg2 hat2))
  go_ret2
  refine ⟨v2, rfl, ?_, hb1.grown hg2 hb1.size (fun b hbb => (hown1.lt b hbb).1)⟩
  have e1 : (xs ++ (putB s.size 2 ++ s.data.toList)).length = (xs ++ putB s.size 2).length + s.size := by
    simp only [List.length_append, Array.length_toList]
    rw [Nat.add_assoc]
    rfl
  rw [e1, ← List.append_assoc, bcells_append (xs ++ _)]
  exact hown2

theorem text_no (A : Option Addr) (c : Nat) (xs : List UInt8) (s : ByteArray) (w : World) (hs : 1024 < s.size) (hm : s.size ≤ maxLen) :
    Calls Try.prog 14 #[.slice A xs.length c, .string s] w (OwnB2 w [] 11) := by
  unfold maxLen at hm
  go_enter Try.func14, Try.ntmps14
  go_wp2
  go_ret2
  exact ⟨_, rfl, World.ownsRow_nil _ _ _ _, Below.refl _ _⟩

set_option maxRecDepth 100000 in
theorem lives_any (w : World) : Calls Try.prog 11 #[] w fun e w' => e = .returned (.bool true) ∧ Below w.heap.size w w' := by
  have ht : Calls Try.prog 14 #[.slice none 0 0, .string ⟨#[97, 98]⟩] w (OwnB2 w [0, 2, 97, 98] 0) := text_yes none 0 [] ⟨#[97, 98]⟩ w (.inl rfl) (by simp) (by decide)
  have hp : ∀ w1, Calls Try.prog 16 #[.slice none 0 0, .int .u64 258, .int .i64 3] w1 (OwnB w1 [0, 1, 2]) := fun w1 => put_yes none 0 258 3 [] w1 (.inl rfl) (by simp) (by omega) (by omega) (by omega)
  have HT := Lib.hid ht
  have HP := Lib.hid hp
  clear ht hp
  go_enter Try.func11, Try.ntmps11
  go_wp2_with (first
    | (go_at_call 14; refine (HT.out).mono ?_; rintro e w1 ⟨v1, rfl, hown1, hb1⟩)
    | (go_at_call 16; refine (HP.out _).mono ?_; rintro e w2 ⟨v2, rfl, hown2, hb2⟩; have hc1 : (convert 22 9 v1).run Try.prog w2 = .ok (.string ⟨#[0, 2, 97, 98]⟩) w2 := run_convert_own 22 9 5 Try.underlying22 Try.underlying5 Try.underlying9 (own_below hown1 hb2 (Nat.le_refl _)); have hc2 : (convert 22 9 v2).run Try.prog w2 = .ok (.string ⟨#[0, 1, 2]⟩) w2 := run_convert_own 22 9 5 Try.underlying22 Try.underlying5 Try.underlying9 hown2))
  go_ret
  exact ⟨rfl, hb1.trans (hb2.mono hb1.size)⟩

end Go.Proofs.Yteglihgoccemmaa
