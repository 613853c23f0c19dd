/- Contracts of the functions of package octet that make bytes, and of their references: what Put and Text put. Conditions: the bytes that come in are fewer than a million. Bytes as numbers: plain lemmas without a program. No condition. Contracts of Get of package octet and of its reference. Conditions: the bytes that come in are fewer than a million; a place is one that an int can be. Contracts of the references of Put and Text. Conditions: the bytes that come in are fewer than a million. Contracts of Get, Put and Text and of their references for whatever comes in, from a world of which what was there first is kept. Conditions: the bytes that come in are fewer than 900,000; places and widths are ints; a string is no longer than an int can say. -/
import Derived.Test.YtkceipkgebgigaaXJPWords
import Derived.Test.YtkceipkgebgigaaRows
import Derived.WalkKit
import Derived.WalkSpells
import Derived.WalkLawsBesides
import Derived.Lib.Hide
import Derived.Outline
import Derived.Laws.BitsAllLaws
import Derived.Laws.BitsLemmas
import Derived.Laws.Bits64
import Derived.LoopTactic
section
namespace Go.Proofs.Ytkceipkgebgigaa
set_option maxRecDepth 100000
open Go.RowKit

/-- What a call leaves that answers a new slice of bytes. -/
def OwnB (w : World) (xs : List UInt8) (e : Ending) (w' : World) : Prop :=
  ∃ v, e = .returned v ∧ w'.ownsRow w.heap.size 5 1 v xs.length (bcells xs) ∧ Below w.heap.size w w'

theorem isWidth_yes (n : Int) (w : World) (h1 : 1 ≤ n) (h2 : n ≤ 8) : Calls Try.prog 85 #[.int .i64 n] w fun e w' => e = .returned (.bool true) ∧ w = w' := by
  have d1 : decide (1 ≤ n) = true := by simpa using h1
  have d2 : decide (n ≤ 8) = true := by simpa using h2
  go_enter Try.func85, Try.ntmps85
  go_wp2
  go_ret
  exact ⟨rfl, rfl⟩

theorem isWidth_no (n : Int) (w : World) (h : ¬ (1 ≤ n ∧ n ≤ 8)) : Calls Try.prog 85 #[.int .i64 n] w fun e w' => e = .returned (.bool false) ∧ w = w' := by
  by_cases h1 : 1 ≤ n
  · have d2 : ¬ n ≤ 8 := by omega
    clear h
    go_enter Try.func85, Try.ntmps85
    go_wp2
    go_ret
    exact ⟨rfl, rfl⟩
  · clear h
    go_enter Try.func85, Try.ntmps85
    go_wp2
    go_ret
    exact ⟨rfl, rfl⟩

theorem clone_any (A : Option Addr) (c : Nat) (xs : List UInt8) (w : World) (hx : BAt w w.heap.size A xs) (hl : xs.length ≤ 1000000) :
    Calls Try.prog 66 #[.slice A xs.length c] w (OwnB w xs) := by
  obtain ⟨i0, hi, hz0, hz1, hz2⟩ := info_parts info5
  have hnil : ∀ (w : World) (a : Option Addr) (n c n' c' : Nat), (binOp .eql 30 (.slice a n c) (.slice none n' c')).run Try.prog w = .ok (.bool a.isNone) w := fun w a n c n' c' => Lib.run_eql_slice_nil w _ _ a n c n' c' Try.underlying30
  cases A with
  | none =>
    have := hx.none_
    subst this
    go_enter Try.func66, Try.ntmps66
    go_wp2
    go_ret
    exact ⟨_, rfl, World.ownsRow_nil _ _ _ _, Below.refl _ _⟩
  | some a =>
    have HL := Lib.hid hl
    clear hl
    go_enter Try.func66, Try.ntmps66
    go_wp2_with (at_builtin; refine wpList_append_src _ rfl (.tmp 5) (.tmp 6) _ _ rfl w.heap.size 5 i0 _ 1 Try.underlying30 hi hz0 hz1 hz2 rfl (.slice (some ⟨w.heap.size, 0, none⟩) 0 0) 0 [] rfl (World.ownsRow_made (e := 5) (size := 1) w #[] 0 (Nat.le_refl _) (Nat.zero_le _) rfl) _ xs.length (bcells xs) rfl ((hx.below ((Below.refl _ w).alloc (Nat.le_refl _) _)).src Try.underlying30 _) (by have := HL.out; simp only [maxLen]; omega) (by have := HL.out; omega) (by simp) ?_; intro v1 w1 hown1 hg1 hat1)
    go_ret
    exact ⟨v1, rfl, by simpa using hown1, ((Below.refl _ w).alloc (Nat.le_refl _) _).grown hg1 (by simp) (by simp [Value.ownBlock])⟩

theorem run_make_u8 (n c : Nat) (hnc : n ≤ c) (hc : c ≤ 2000000) (w : World) :
    (Instr.makeSlice 30 (.int .i64 (n : Int)) (.int .i64 (c : Int))).run Try.prog w = .ok (.slice (some ⟨w.heap.size, 0, none⟩) n c) (w.alloc (.cells (List.replicate c (Value.int .u8 0)).toArray 5)) := by
  obtain ⟨i0, hi, hz0, hz1, hz2⟩ := info_parts info5
  have hr := run_make (P := Try.prog) w 30 5 i0 _ Try.underlying30 hi hz0 .i64 .i64 n c (by omega) (by omega) (by rw [hz2]; omega) (by omega)
  simp only [Int.toNat_natCast, hz1] at hr
  rw [hr]
  congr 3
  apply Array.ext
  · simp [madeCells]
  · intro j h1 h2
    simp [madeCells, Value.cells, Nat.mod_one]

set_option maxRecDepth 100000 in
theorem grown_any (A : Option Addr) (c k : Nat) (xs : List UInt8) (w : World) (hx : BAt w w.heap.size A xs) (hl : xs.length ≤ 1000000) (hk : k ≤ 8) :
    Calls Try.prog 86 #[.slice A xs.length c, .int .i64 (k : Int)] w (OwnB w xs) := by
  have hmk : ∀ W, (Instr.makeSlice 30 (.int .i64 (xs.length : Int)) (.int .i64 ((xs.length : Int) + (k : Int)))).run Try.prog W = .ok (.slice (some ⟨W.heap.size, 0, none⟩) xs.length (xs.length + k)) (W.alloc (.cells (List.replicate (xs.length + k) (Value.int .u8 0)).toArray 5)) := fun W => by
    have := run_make_u8 xs.length (xs.length + k) (by omega) (by omega) W
    rwa [Int.natCast_add] at this
  go_enter Try.func86, Try.ntmps86
  go_wp2_with (with_reducible refine wpList_copy_splice rfl (.tmp 13) (.tmp 14) 30 30 rfl 5 Try.underlying30 (by kernel_rfl) _ _ _ _ _ _ rfl rfl w.heap.size 0 (List.replicate (xs.length + k) (Value.int .u8 0)) 5 (heap_alloc_new w _) (bcells xs) ?_ ?_ ?_ (bcells_one xs) w.heap.size w ((Below.refl _ w).alloc (Nat.le_refl _) _) (Nat.le_refl _) ?_)
  · rw [bcells_length]; simp
  · exact (hx.below ((Below.refl _ w).alloc (Nat.le_refl _) _)).cells
  · simp [bcells_length]
  · intro w1 hs hb
    go_wp2
    go_ret
    exact ⟨_, rfl, own_of_splice (Nat.le_refl _) (by simp only [maxLen]; omega) hs.out, hb⟩

/-- The relation of Put's loop. -/
def PutRel (w : World) (xs : List UInt8) (N k : Nat) (v i : Value) (wr : World) : Prop :=
  ∃ j : Nat, j ≤ k ∧ i = .int .i64 (j : Int) ∧ wr.ownsRow w.heap.size 5 1 v (xs.length + j) (bcells (xs ++ (putB N k).take j)) ∧ Below w.heap.size w wr

set_option maxRecDepth 100000 in
theorem put_yes (A : Option Addr) (c N k : Nat) (xs : List UInt8) (w : World) (hx : BAt w w.heap.size A xs) (hl : xs.length ≤ 1000000) (hN : N < 18446744073709551616) (hk1 : 1 ≤ k) (hk : k ≤ 8) :
    Calls Try.prog 47 #[.slice A xs.length c, .int .u64 (N : Int), .int .i64 (k : Int)] w (OwnB w (xs ++ putB N k)) := by
  obtain ⟨i0, hi, hz0, hz1, hz2⟩ := info_parts info5
  have HN := Lib.hid hN
  clear hN
  go_enter Try.func47, Try.ntmps47
  go_wp2_with (first
    | (go_at_call 85; refine (isWidth_yes _ _ (by omega) (by omega)).mono ?_; rintro e w1 ⟨rfl, rfl⟩)
    | (go_at_call 86; refine (grown_any A c k xs w hx hl hk).mono ?_; rintro e w1 ⟨v1, rfl, hown1, hb1⟩))
  go_loopw [7, 18] (PutRel w xs N k) (fun _ i _ => k - (intOf i).toNat)
  case atStart => exact ⟨0, Nat.zero_le _, rfl, by simpa using hown1, hb1⟩
  case round =>
    obtain ⟨j, hj, rfl, hown, hb⟩ := hrel
    by_cases hlt : j < k
    · go_wp2_with (at_builtin; refine wpList_append_src _ rfl (.tmp 21) (.tmp 30) _ _ rfl w.heap.size 5 i0 _ 1 Try.underlying30 hi hz0 hz1 hz2 rfl _ _ _ rfl (hown.alloc _) _ 1 (bcells [UInt8.ofNat (N / 2 ^ (8 * (k - 1 - j)))]) rfl (src_one Try.underlying30 _ _ _ _ (byte_div _ _)) (by simp only [maxLen]; omega) (by omega) (by have := hb.size; simp; omega) ?_; intro v2 w2 hown2 hg2 hat2)
      have R : PutRel w xs N k v2 (.int .i64 ((j : Int) + 1)) w2 := ⟨j + 1, by omega, by go_num, by rw [putB_take N k j hlt, ← List.append_assoc, bcells_append (xs ++ _)]; exact hown2, (hb.alloc hb.size _).grown hg2 (by have := hb.size; simp; omega) (fun b hbb => (hown.lt b hbb).1)⟩
      clear hown2 hg2 hat2 hown hb
      go_wp2
      go_roundw
      case rel => exact R
      case measure => simp [intOf]; omega
    · obtain rfl : j = k := by omega
      go_wp2
      go_ret
      exact ⟨_, rfl, by rw [List.length_append, putB_length]; simpa [putB_all] using hown, hb⟩

theorem put_no (A : Option Addr) (c N : Nat) (wd : Int) (xs : List UInt8) (w : World) (hx : BAt w w.heap.size A xs) (hl : xs.length ≤ 1000000) (hk : ¬ (1 ≤ wd ∧ wd ≤ 8)) :
    Calls Try.prog 47 #[.slice A xs.length c, .int .u64 (N : Int), .int .i64 wd] w (OwnB w xs) := by
  go_enter Try.func47, Try.ntmps47
  go_wp2_with (first
    | (go_at_call 85; refine (isWidth_no _ _ hk).mono ?_; rintro e w1 ⟨rfl, rfl⟩)
    | (go_at_call 66; refine (clone_any A c xs w hx hl).mono ?_; rintro e w1 ⟨v1, rfl, hown1, hb1⟩))
  go_ret
  exact ⟨v1, rfl, hown1, hb1⟩

theorem put_any (A : Option Addr) (c N : Nat) (wd : Int) (xs : List UInt8) (w : World) (hx : BAt w w.heap.size A xs) (hl : xs.length ≤ 1000000) (hN : N < 18446744073709551616) :
    Calls Try.prog 47 #[.slice A xs.length c, .int .u64 (N : Int), .int .i64 wd] w (OwnB w (xs ++ putI N wd)) := by
  by_cases hk : 1 ≤ wd ∧ wd ≤ 8
  · obtain ⟨k, rfl⟩ : ∃ k : Nat, wd = k := ⟨wd.toNat, by omega⟩
    have := put_yes A c N k xs w hx hl hN (by omega) (by omega)
    simpa [putI, hk] using this
  · have := put_no A c N wd xs w hx hl hk
    simpa [putI, hk] using this

/-- What a call leaves that answers a new slice of bytes and an error's number. -/
def OwnB2 (w : World) (xs : List UInt8) (n : Int) (e : Ending) (w' : World) : Prop :=
  ∃ v, e = .returned (.tuple #[v, .int .i64 n]) ∧ w'.ownsRow w.heap.size 5 1 v xs.length (bcells xs) ∧ Below w.heap.size w w'

set_option maxRecDepth 100000 in
theorem text_yes (A : Option Addr) (c : Nat) (xs : List UInt8) (s : ByteArray) (w : World) (hx : BAt w w.heap.size A xs) (hl : xs.length ≤ 900000) (hs : s.size ≤ 1024) :
    Calls Try.prog 49 #[.slice A xs.length c, .string s] w (OwnB2 w (xs ++ (putB s.size 2 ++ s.data.toList)) 0) := by
  obtain ⟨i0, hi, hz0, hz1, hz2⟩ := info_parts info5
  have hp := put_yes A c s.size 2 xs w hx (by omega) (by omega) (by omega) (by omega)
  have HP := Lib.hid hp
  clear hp
  go_enter Try.func49, Try.ntmps49
  go_wp2_with (first
    | (go_at_call 47; refine (HP.out).mono ?_; rintro e w1 ⟨v1, rfl, hown1, hb1⟩)
    | (at_builtin; refine wpList_append_src _ rfl (.tmp 13) (.tmp 14) _ _ rfl w.heap.size 5 i0 _ 1 Try.underlying30 hi hz0 hz1 hz2 rfl _ _ _ rfl hown1 _ s.size (byteCells s) rfl (Src.ofString _ Try.underlying9 s) (by have := putB_length s.size 2; simp only [maxLen, List.length_append]; omega) (by have := putB_length s.size 2; simp only [List.length_append]; omega) hb1.size ?_; intro v2 w2 hown2 hg2 hat2))
  go_ret2
  refine ⟨v2, rfl, ?_, hb1.grown hg2 hb1.size (fun b hbb => (hown1.lt b hbb).1)⟩
  have e1 : (xs ++ (putB s.size 2 ++ s.data.toList)).length = (xs ++ putB s.size 2).length + s.size := by
    simp only [List.length_append, Array.length_toList]
    rw [Nat.add_assoc]
    rfl
  rw [e1, ← List.append_assoc, bcells_append (xs ++ _)]
  exact hown2

end Go.Proofs.Ytkceipkgebgigaa
end
section
namespace Go.Proofs.Ytkceipkgebgigaa
set_option maxRecDepth 100000

/-- The number that bytes are. -/
def getN (xs : List UInt8) : Nat := xs.foldl (fun n b => n * 256 + b.toNat) 0
theorem getN_snoc (xs : List UInt8) (b : UInt8) : getN (xs ++ [b]) = getN xs * 256 + b.toNat := by simp [getN]
theorem foldN_lt (xs : List UInt8) : ∀ n : Nat, xs.foldl (fun n b => n * 256 + b.toNat) n < (n + 1) * 256 ^ xs.length := by
  induction xs with
  | nil => intro n; simp
  | cons b xs ih =>
    intro n
    have h := ih (n * 256 + b.toNat)
    have hb := b.toNat_lt
    rw [List.foldl_cons, List.length_cons, Nat.pow_succ]
    have h2 : (n * 256 + b.toNat + 1) * 256 ^ xs.length ≤ (n + 1) * 256 * 256 ^ xs.length := Nat.mul_le_mul_right _ (by omega)
    have h3 : (n + 1) * 256 * 256 ^ xs.length = (n + 1) * (256 ^ xs.length * 256) := by rw [Nat.mul_assoc, Nat.mul_comm 256]
    omega
theorem getN_lt (xs : List UInt8) : getN xs < 256 ^ xs.length := by
  have := foldN_lt xs 0
  simpa [getN] using this
theorem getN_take_lt' (xs : List UInt8) (j : Nat) (h : j < 8) : getN (xs.take j) < 72057594037927936 := by
  have h1 := getN_lt (xs.take j)
  have h2 : 256 ^ (xs.take j).length ≤ 256 ^ 7 := Nat.pow_le_pow_right (by omega) (by rw [List.length_take]; omega)
  have h3 : (256 : Nat) ^ 7 = 72057594037927936 := by decide
  omega
theorem getN_take_succ (xs : List UInt8) (j : Nat) (h : j < xs.length) : getN (xs.take (j + 1)) = getN (xs.take j) * 256 + (xs[j]).toNat := by
  rw [List.take_succ_eq_append_getElem h, getN_snoc]

theorem or_byte (n b : Nat) (hn : n < 72057594037927936) (hb : b < 256) :
    bits BinOp.or IntKind.u64 (IntKind.u64.wrap ((n : Int) * 256)) (IntKind.u64.wrap (b : Int)) = ((n * 256 + b : Nat) : Int) := by
  have h1 : IntKind.u64.wrap ((n : Int) * 256) = ((n * 256 : Nat) : Int) := by rw [IntKind.wrap_u64]; omega
  have h2 : IntKind.u64.wrap (b : Int) = (b : Int) := by rw [IntKind.wrap_u64]; omega
  rw [h1, h2, u64_or_nat _ _ (by omega) (by omega)]
  congr 1
  have := Nat.shiftLeft_add_eq_or_of_lt (i := 8) (b := b) (by omega) n
  rw [Nat.shiftLeft_eq, show (2 : Nat) ^ 8 = 256 from rfl] at this
  exact this.symm
theorem add_byte (n b : Nat) (hn : n < 72057594037927936) (hb : b < 256) :
    IntKind.u64.wrap (IntKind.u64.wrap ((n : Int) * 256) + IntKind.u64.wrap (b : Int)) = ((n * 256 + b : Nat) : Int) := by
  simp only [IntKind.wrap_u64]
  omega

end Go.Proofs.Ytkceipkgebgigaa
end
section
namespace Go.Proofs.Ytkceipkgebgigaa
set_option maxRecDepth 100000
open Go.RowKit
set_option linter.unusedVariables false

theorem get_no (A : Option Addr) (c : Nat) (xs : List UInt8) (at_ wd : Int) (w : World) (hl : xs.length ≤ 1000000) (ha : at_ ≤ 9223372036854775807) (hw : wd ≤ 9223372036854775807) (h : ¬ (1 ≤ wd ∧ wd ≤ 8 ∧ 0 ≤ at_ ∧ at_ + wd ≤ xs.length)) :
    Calls Try.prog 114 #[.slice A xs.length c, .int .i64 at_, .int .i64 wd] w fun e w' => e = .returned (.tuple #[.int .u64 0, .bool false]) ∧ w = w' := by
  by_cases h1 : 1 ≤ wd ∧ wd ≤ 8
  · by_cases h2 : 0 ≤ at_
    · have h3 : (xs.length : Int) - at_ < wd := by omega
      clear h
      go_enter Try.func114, Try.ntmps114
      go_wp2_with (go_at_call 85; refine (isWidth_yes _ _ h1.1 h1.2).mono ?_; rintro e w1 ⟨rfl, rfl⟩)
      go_ret2
      exact ⟨rfl, rfl⟩
    · clear h
      go_enter Try.func114, Try.ntmps114
      go_wp2_with (go_at_call 85; refine (isWidth_yes _ _ h1.1 h1.2).mono ?_; rintro e w1 ⟨rfl, rfl⟩)
      go_ret2
      exact ⟨rfl, rfl⟩
  · clear h
    go_enter Try.func114, Try.ntmps114
    go_wp2_with (go_at_call 85; refine (isWidth_no _ _ h1).mono ?_; rintro e w1 ⟨rfl, rfl⟩)
    go_ret2
    exact ⟨rfl, rfl⟩

set_option maxRecDepth 100000 in
theorem get_yes (A : Option Addr) (c : Nat) (xs : List UInt8) (a k : Nat) (w : World) (hx : BAt w w.heap.size A xs) (hl : xs.length ≤ 1000000) (hk1 : 1 ≤ k) (hk : k ≤ 8) (h : a + k ≤ xs.length) :
    Calls Try.prog 114 #[.slice A xs.length c, .int .i64 a, .int .i64 k] w fun e w' => e = .returned (.tuple #[.int .u64 (getN ((xs.drop a).take k)), .bool true]) ∧ w = w' := by
  obtain ⟨g, off, rfl, hg, hc⟩ := hx.some_ (by omega)
  go_enter Try.func114, Try.ntmps114
  go_wp2_with (go_at_call 85; refine (isWidth_yes _ _ (by omega) (by omega)).mono ?_; rintro e w1 ⟨rfl, rfl⟩)
  go_loop [8, 26] (fun n i => ∃ j : Nat, j ≤ k ∧ i = .int .i64 j ∧ n = .int .u64 (getN ((xs.drop a).take j))) (fun _ i => k - (intOf i).toNat)
  case atStart => exact ⟨0, by omega, rfl, by simp [getN]⟩
  case round =>
    obtain ⟨j, hj, rfl, rfl⟩ := hrel
    by_cases hlt : j < k
    · have hcj := hc (a + j) (by omega)
      have R : bits BinOp.or IntKind.u64 (IntKind.u64.wrap ((getN (List.take j (List.drop a xs)) : Int) * 256)) (IntKind.u64.wrap (xs[a + j].toNat : Int)) = (getN (List.take (j + 1) (List.drop a xs)) : Int) := by
        rw [or_byte _ _ (getN_take_lt' _ _ (by omega)) (xs[a + j]).toNat_lt, getN_take_succ _ _ (by rw [List.length_drop]; omega)]
        simp
      have HR := Lib.hid R
      clear hc hg R
      go_wp2
      go_round
      case rel => exact ⟨j + 1, by omega, by go_num, by rw [HR.out]⟩
      case measure => simp [intOf]; omega
    · obtain rfl : j = k := by omega
      go_wp2
      go_ret2
      exact ⟨rfl, rfl⟩

theorem rget_no (A : Option Addr) (c : Nat) (xs : List UInt8) (at_ wd : Int) (w : World) (hl : xs.length ≤ 1000000) (ha : at_ ≤ 9223372036854775807) (hw : wd ≤ 9223372036854775807) (h : ¬ (1 ≤ wd ∧ wd ≤ 8 ∧ 0 ≤ at_ ∧ at_ + wd ≤ xs.length)) :
    Calls Try.prog 99 #[.slice A xs.length c, .int .i64 at_, .int .i64 wd] w fun e w' => e = .returned (.tuple #[.int .u64 0, .bool false]) ∧ w = w' := by
  by_cases h1 : wd < 1
  · clear h
    go_enter Try.func99, Try.ntmps99
    go_wp2
    go_ret2
    exact ⟨rfl, rfl⟩
  · by_cases h1b : 8 < wd
    · clear h
      go_enter Try.func99, Try.ntmps99
      go_wp2
      go_ret2
      exact ⟨rfl, rfl⟩
    · by_cases h2 : at_ < 0
      · clear h
        go_enter Try.func99, Try.ntmps99
        go_wp2
        go_ret2
        exact ⟨rfl, rfl⟩
      · by_cases h3 : (xs.length : Int) < at_
        · clear h
          go_enter Try.func99, Try.ntmps99
          go_wp2
          go_ret2
          exact ⟨rfl, rfl⟩
        · have h4 : (xs.length : Int) - at_ < wd := by omega
          clear h
          go_enter Try.func99, Try.ntmps99
          go_wp2
          go_ret2
          exact ⟨rfl, rfl⟩

set_option maxRecDepth 100000 in
theorem rget_yes (A : Option Addr) (c : Nat) (xs : List UInt8) (a k : Nat) (w : World) (hx : BAt w w.heap.size A xs) (hl : xs.length ≤ 1000000) (hk1 : 1 ≤ k) (hk : k ≤ 8) (h : a + k ≤ xs.length) :
    Calls Try.prog 99 #[.slice A xs.length c, .int .i64 a, .int .i64 k] w fun e w' => e = .returned (.tuple #[.int .u64 (getN ((xs.drop a).take k)), .bool true]) ∧ w = w' := by
  obtain ⟨g, off, rfl, hg, hc⟩ := hx.some_ (by omega)
  go_enter Try.func99, Try.ntmps99
  go_wp2
  go_loop [8, 9] (fun n i => ∃ j : Nat, j ≤ k ∧ i = .int .i64 j ∧ n = .int .u64 (getN ((xs.drop a).take j))) (fun _ i => k - (intOf i).toNat)
  case atStart => exact ⟨0, by omega, rfl, by simp [getN]⟩
  case round =>
    obtain ⟨j, hj, rfl, rfl⟩ := hrel
    by_cases hlt : j < k
    · have hcj := hc (a + j) (by omega)
      have R : IntKind.u64.wrap (IntKind.u64.wrap ((getN (List.take j (List.drop a xs)) : Int) * 256) + IntKind.u64.wrap (xs[a + j].toNat : Int)) = (getN (List.take (j + 1) (List.drop a xs)) : Int) := by
        rw [add_byte _ _ (getN_take_lt' _ _ (by omega)) (xs[a + j]).toNat_lt, getN_take_succ _ _ (by rw [List.length_drop]; omega)]
        simp
      have HR := Lib.hid R
      clear hc hg R
      go_wp2
      go_round
      case rel => exact ⟨j + 1, by omega, by go_num, by rw [HR.out]⟩
      case measure => simp [intOf]; omega
    · obtain rfl : j = k := by omega
      go_wp2
      go_ret2
      exact ⟨rfl, rfl⟩

end Go.Proofs.Ytkceipkgebgigaa
end
section
namespace Go.Proofs.Ytkceipkgebgigaa
set_option maxRecDepth 100000
open Go.RowKit
set_option linter.unusedVariables false

/-- The relation of the loop of Put's reference. -/
def RPutRel (w : World) (xs : List UInt8) (N k : Nat) (v i : Value) (wr : World) : Prop :=
  ∃ j : Nat, j ≤ k ∧ i = .int .i64 ((k : Int) - 1 - j) ∧ wr.ownsRow w.heap.size 5 1 v (xs.length + j) (bcells (xs ++ (putB N k).take j)) ∧ Below w.heap.size w wr

set_option maxRecDepth 100000 in
theorem rput_yes (A : Option Addr) (c N k : Nat) (xs : List UInt8) (w : World) (hx : BAt w w.heap.size A xs) (hl : xs.length ≤ 1000000) (hN : N < 18446744073709551616) (hk1 : 1 ≤ k) (hk : k ≤ 8) :
    Calls Try.prog 50 #[.slice A xs.length c, .int .u64 (N : Int), .int .i64 (k : Int)] w (OwnB w (xs ++ putB N k)) := by
  obtain ⟨i0, hi, hz0, hz1, hz2⟩ := info_parts info5
  have HN := Lib.hid hN
  clear hN
  go_enter Try.func50, Try.ntmps50
  go_wp2_with (at_builtin; refine wpList_append_src _ rfl (.tmp 9) (.tmp 10) _ _ rfl w.heap.size 5 i0 _ 1 Try.underlying30 hi hz0 hz1 hz2 rfl (.slice (some ⟨w.heap.size, 0, none⟩) 0 0) 0 [] rfl (World.ownsRow_made (e := 5) (size := 1) w #[] 0 (Nat.le_refl _) (Nat.zero_le _) rfl) _ xs.length (bcells xs) rfl ((hx.below ((Below.refl _ w).alloc (Nat.le_refl _) _)).src Try.underlying30 _) (by simp only [maxLen]; omega) (by omega) (by simp) ?_; intro v1 w1 hown1 hg1 hat1; have hb1 : Below w.heap.size w w1 := ((Below.refl _ w).alloc (Nat.le_refl _) _).grown hg1 (by simp) (by simp [Value.ownBlock]); clear hg1 hat1)
  go_loopw [7, 8] (RPutRel w xs N k) (fun _ i _ => (intOf i + 1).toNat)
  case atStart => exact ⟨0, Nat.zero_le _, by simp, by simpa using hown1, hb1⟩
  case round =>
    obtain ⟨j, hj, rfl, hown, hb⟩ := hrel
    by_cases hlt : j < k
    · go_wp2_with (at_builtin; refine wpList_append_src _ rfl (.tmp 25) (.tmp 32) _ _ rfl w.heap.size 5 i0 _ 1 Try.underlying30 hi hz0 hz1 hz2 rfl _ _ _ rfl (hown.alloc _) _ 1 (bcells [UInt8.ofNat (N / 2 ^ (8 * (k - 1 - j)))]) rfl (src_one Try.underlying30 _ _ _ _ (byte_div _ _)) (by simp only [maxLen]; omega) (by omega) (by have := hb.size; simp; omega) ?_; intro v2 w2 hown2 hg2 hat2)
      go_roundw
      case rel => exact ⟨j + 1, by omega, by go_num, by rw [putB_take N k j hlt, ← List.append_assoc, bcells_append (xs ++ _)]; exact hown2, (hb.alloc hb.size _).grown hg2 (by have := hb.size; simp; omega) (fun b hbb => (hown.lt b hbb).1)⟩
      case measure => simp [intOf]; omega
    · obtain rfl : j = k := by omega
      go_wp2
      go_ret
      exact ⟨_, rfl, by rw [List.length_append, putB_length]; simpa [putB_all] using hown, hb⟩

theorem rput_no (A : Option Addr) (c N : Nat) (wd : Int) (xs : List UInt8) (w : World) (hx : BAt w w.heap.size A xs) (hl : xs.length ≤ 1000000) (hk : ¬ (1 ≤ wd ∧ wd ≤ 8)) :
    Calls Try.prog 50 #[.slice A xs.length c, .int .u64 (N : Int), .int .i64 wd] w (OwnB w xs) := by
  obtain ⟨i0, hi, hz0, hz1, hz2⟩ := info_parts info5
  by_cases h1 : wd < 1
  · clear hk
    go_enter Try.func50, Try.ntmps50
    go_wp2_with (at_builtin; refine wpList_append_src _ rfl (.tmp 9) (.tmp 10) _ _ rfl w.heap.size 5 i0 _ 1 Try.underlying30 hi hz0 hz1 hz2 rfl (.slice (some ⟨w.heap.size, 0, none⟩) 0 0) 0 [] rfl (World.ownsRow_made (e := 5) (size := 1) w #[] 0 (Nat.le_refl _) (Nat.zero_le _) rfl) _ xs.length (bcells xs) rfl ((hx.below ((Below.refl _ w).alloc (Nat.le_refl _) _)).src Try.underlying30 _) (by simp only [maxLen]; omega) (by omega) (by simp) ?_; intro v1 w1 hown1 hg1 hat1; have hb1 : Below w.heap.size w w1 := ((Below.refl _ w).alloc (Nat.le_refl _) _).grown hg1 (by simp) (by simp [Value.ownBlock]); clear hg1 hat1)
    go_ret
    exact ⟨v1, rfl, by simpa using hown1, hb1⟩
  · have h2 : 8 < wd := by omega
    clear hk
    go_enter Try.func50, Try.ntmps50
    go_wp2_with (at_builtin; refine wpList_append_src _ rfl (.tmp 9) (.tmp 10) _ _ rfl w.heap.size 5 i0 _ 1 Try.underlying30 hi hz0 hz1 hz2 rfl (.slice (some ⟨w.heap.size, 0, none⟩) 0 0) 0 [] rfl (World.ownsRow_made (e := 5) (size := 1) w #[] 0 (Nat.le_refl _) (Nat.zero_le _) rfl) _ xs.length (bcells xs) rfl ((hx.below ((Below.refl _ w).alloc (Nat.le_refl _) _)).src Try.underlying30 _) (by simp only [maxLen]; omega) (by omega) (by simp) ?_; intro v1 w1 hown1 hg1 hat1; have hb1 : Below w.heap.size w w1 := ((Below.refl _ w).alloc (Nat.le_refl _) _).grown hg1 (by simp) (by simp [Value.ownBlock]); clear hg1 hat1)
    go_ret
    exact ⟨v1, rfl, by simpa using hown1, hb1⟩

theorem rput_any (A : Option Addr) (c N : Nat) (wd : Int) (xs : List UInt8) (w : World) (hx : BAt w w.heap.size A xs) (hl : xs.length ≤ 1000000) (hN : N < 18446744073709551616) :
    Calls Try.prog 50 #[.slice A xs.length c, .int .u64 (N : Int), .int .i64 wd] w (OwnB w (xs ++ putI N wd)) := by
  by_cases hk : 1 ≤ wd ∧ wd ≤ 8
  · obtain ⟨k, rfl⟩ : ∃ k : Nat, wd = k := ⟨wd.toNat, by omega⟩
    have := rput_yes A c N k xs w hx hl hN (by omega) (by omega)
    simpa [putI, hk] using this
  · have := rput_no A c N wd xs w hx hl hk
    simpa [putI, hk] using this

set_option maxRecDepth 100000 in
theorem rtext_yes (A : Option Addr) (c : Nat) (xs : List UInt8) (s : ByteArray) (w : World) (hx : BAt w w.heap.size A xs) (hl : xs.length ≤ 900000) (hs : s.size ≤ 1024) :
    Calls Try.prog 51 #[.slice A xs.length c, .string s] w (OwnB2 w (xs ++ (putB s.size 2 ++ s.data.toList)) 0) := by
  obtain ⟨i0, hi, hz0, hz1, hz2⟩ := info_parts info5
  have hp := rput_yes A c s.size 2 xs w hx (by omega) (by omega) (by omega) (by omega)
  have HP := Lib.hid hp
  clear hp
  go_enter Try.func51, Try.ntmps51
  go_wp2_with (first
    | (go_at_call 50; refine (HP.out).mono ?_; rintro e w1 ⟨v1, rfl, hown1, hb1⟩)
    | (at_builtin; refine wpList_append_src _ rfl (.tmp 13) (.tmp 14) _ _ rfl w.heap.size 5 i0 _ 1 Try.underlying30 hi hz0 hz1 hz2 rfl _ _ _ rfl hown1 _ s.size (byteCells s) rfl (Src.ofString _ Try.underlying9 s) (by have := putB_length s.size 2; simp only [maxLen, List.length_append]; omega) (by have := putB_length s.size 2; simp only [List.length_append]; omega) hb1.size ?_; intro v2 w2 hown2 hg2 hat2))
  go_ret2
  refine ⟨v2, rfl, ?_, hb1.grown hg2 hb1.size (fun b hbb => (hown1.lt b hbb).1)⟩
  have e1 : (xs ++ (putB s.size 2 ++ s.data.toList)).length = (xs ++ putB s.size 2).length + s.size := by
    simp only [List.length_append, Array.length_toList]
    rw [Nat.add_assoc]
    rfl
  rw [e1, ← List.append_assoc, bcells_append (xs ++ _)]
  exact hown2

end Go.Proofs.Ytkceipkgebgigaa
end
section
namespace Go.Proofs.Ytkceipkgebgigaa
set_option maxRecDepth 100000
open Go.RowKit
set_option linter.unusedVariables false

/-- What Get tells. -/
def getI (xs : List UInt8) (a wd : Int) : Nat × Bool := if 1 ≤ wd ∧ wd ≤ 8 ∧ 0 ≤ a ∧ a + wd ≤ xs.length then (getN ((xs.drop a.toNat).take wd.toNat), true) else (0, false)
/-- What Text tells. -/
def textI (xs : List UInt8) (s : ByteArray) : List UInt8 := if s.size ≤ 1024 then xs ++ (putB s.size 2 ++ s.data.toList) else []
def textE (s : ByteArray) : Int := if s.size ≤ 1024 then 0 else 11

theorem rget_any (A : Option Addr) (c : Nat) (xs : List UInt8) (a wd : Int) (w : World) (hx : BAt w w.heap.size A xs) (hl : xs.length ≤ 900000) (ha : a ≤ 9223372036854775807) (hw : wd ≤ 9223372036854775807) :
    Calls Try.prog 99 #[.slice A xs.length c, .int .i64 a, .int .i64 wd] w fun e w' => e = .returned (.tuple #[.int .u64 ((getI xs a wd).1 : Int), .bool (getI xs a wd).2]) ∧ w = w' := by
  by_cases h : 1 ≤ wd ∧ wd ≤ 8 ∧ 0 ≤ a ∧ a + wd ≤ xs.length
  · obtain ⟨k, rfl⟩ : ∃ k : Nat, wd = k := ⟨wd.toNat, by omega⟩
    obtain ⟨i, rfl⟩ : ∃ i : Nat, a = i := ⟨a.toNat, by omega⟩
    have := rget_yes A c xs i k w hx (by omega) (by omega) (by omega) (by omega)
    unfold getI
    rw [if_pos h]
    exact this
  · have := rget_no A c xs a wd w (by omega) ha hw h
    unfold getI
    rw [if_neg h]
    exact this

/-- What a call leaves, in a world W that keeps what lay in w: a new slice of bytes. -/
def OwnF (w W : World) (xs : List UInt8) (e : Ending) (w' : World) : Prop :=
  ∃ v, e = .returned v ∧ w'.ownsRow w.heap.size 5 1 v xs.length (bcells xs) ∧ Below W.heap.size W w' ∧ Below w.heap.size w w'
def OwnF2 (w W : World) (xs : List UInt8) (n : Int) (e : Ending) (w' : World) : Prop :=
  ∃ v, e = .returned (.tuple #[v, .int .i64 n]) ∧ w'.ownsRow w.heap.size 5 1 v xs.length (bcells xs) ∧ Below W.heap.size W w' ∧ Below w.heap.size w w'

section
variable {w W : World} {A : Option Addr} {xs : List UInt8}
end

/-- A slice of bytes of the call's own, as a string. -/
theorem conv_own {w : World} {base n : Nat} {v : Value} {xs : List UInt8} (h : w.ownsRow base 5 1 v n (bcells xs)) : (convert 30 9 v).run Try.prog w = .ok (.string (bstr xs)) w :=
  run_convert_own 30 9 5 Try.underlying30 Try.underlying5 Try.underlying9 h

end Go.Proofs.Ytkceipkgebgigaa
end
