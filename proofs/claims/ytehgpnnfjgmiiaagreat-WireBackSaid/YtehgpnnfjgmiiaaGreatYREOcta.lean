/- Contracts of the functions of package octet that make bytes, and of their references: what Put and Text put. Conditions: the bytes that come in are fewer than a million. Bytes as numbers: plain lemmas without a program. No condition. Contracts of Get of package octet and of its reference. Conditions: the bytes that come in are fewer than a million; a place is one that an int can be. Contracts of the references of Put and Text. Conditions: the bytes that come in are fewer than a million. Contracts of Get, Put and Text and of their references for whatever comes in, from a world of which what was there first is kept. Conditions: the bytes that come in are fewer than 900,000; places and widths are ints; a string is no longer than an int can say. A reader of package octet in memory, and contracts of the calls that read: Num, Take, Text, Left, Bad, Done. Conditions: the bytes that are left are fewer than 900,000. What a reader tells and what is left of it: plain definitions without a program. No condition. -/
import Derived.Test.YtehgpnnfjgmiiaaGreatYOja
import Derived.Test.YtehgpnnfjgmiiaaGreatYOcb
import Derived.Test.YtehgpnnfjgmiiaaGreatYOga
import Derived.Test.YtehgpnnfjgmiiaaGreatProg
import Derived.RegionTactic
import Derived.RegionCalls
import Derived.WalkKit
import Derived.Deep.RegionHeld3
import Derived.Deep.QuietTactic
import Derived.BigQuiet
import Derived.Test.YtehgpnnfjgmiiaaGreatRows
import Derived.WalkSpells
import Derived.WalkLawsBesides
import Derived.Lib.Hide
import Derived.Outline
import Derived.Laws.BitsAllLaws
import Derived.Laws.BitsLemmas
import Derived.Laws.Bits64
import Derived.LoopTactic
section
namespace Go.Proofs.YtehgpnnfjgmiiaaGreat
set_option maxRecDepth 100000
open Go.RowKit

theorem isWidth_no (n : Int) (w : World) (h : ¬ (1 ≤ n ∧ n ≤ 8)) : Calls Tryz.prog 49 #[.int .i64 n] w fun e w' => e = .returned (.bool false) ∧ w = w' := by
  by_cases h1 : 1 ≤ n
  · have d2 : ¬ n ≤ 8 := by omega
    clear h
    go_enter Tryz.func49, Tryz.ntmps49
    go_wp2
    go_ret
    exact ⟨rfl, rfl⟩
  · clear h
    go_enter Tryz.func49, Tryz.ntmps49
    go_wp2
    go_ret
    exact ⟨rfl, rfl⟩

theorem clone_any (A : Option Addr) (c : Nat) (xs : List UInt8) (w : World) (hx : BAt w w.heap.size A xs) (hl : xs.length ≤ 1000000) :
    Calls Tryz.prog 50 #[.slice A xs.length c] w (OwnB w xs) := by
  obtain ⟨i0, hi, hz0, hz1, hz2⟩ := info_parts info5
  have hnil : ∀ (w : World) (a : Option Addr) (n c n' c' : Nat), (binOp .eql 31 (.slice a n c) (.slice none n' c')).run Tryz.prog w = .ok (.bool a.isNone) w := fun w a n c n' c' => Lib.run_eql_slice_nil w _ _ a n c n' c' Tryz.underlying31
  cases A with
  | none =>
    have := hx.none_
    subst this
    go_enter Tryz.func50, Tryz.ntmps50
    go_wp2
    go_ret
    exact ⟨_, rfl, World.ownsRow_nil _ _ _ _, Below.refl _ _⟩
  | some a =>
    have HL := Lib.hid hl
    clear hl
    go_enter Tryz.func50, Tryz.ntmps50
    go_wp2_with (at_builtin; refine wpList_append_src _ rfl (.tmp 5) (.tmp 6) _ _ rfl w.heap.size 5 i0 _ 1 Tryz.underlying31 hi hz0 hz1 hz2 rfl (.slice (some ⟨w.heap.size, 0, none⟩) 0 0) 0 [] rfl (World.ownsRow_made (e := 5) (size := 1) w #[] 0 (Nat.le_refl _) (Nat.zero_le _) rfl) _ xs.length (bcells xs) rfl ((hx.below ((Below.refl _ w).alloc (Nat.le_refl _) _)).src Tryz.underlying31 _) (by have := HL.out; simp only [maxLen]; omega) (by have := HL.out; omega) (by simp) ?_; intro v1 w1 hown1 hg1 hat1)
    go_ret
    exact ⟨v1, rfl, by simpa using hown1, ((Below.refl _ w).alloc (Nat.le_refl _) _).grown hg1 (by simp) (by simp [Value.ownBlock])⟩

end Go.Proofs.YtehgpnnfjgmiiaaGreat
end
section
namespace Go.Proofs.YtehgpnnfjgmiiaaGreat
set_option maxRecDepth 100000

/-- The number that bytes are. -/
def getN (xs : List UInt8) : Nat := xs.foldl (fun n b => n * 256 + b.toNat) 0
theorem getN_snoc (xs : List UInt8) (b : UInt8) : getN (xs ++ [b]) = getN xs * 256 + b.toNat := by simp [getN]
theorem foldN_lt (xs : List UInt8) : ∀ n : Nat, xs.foldl (fun n b => n * 256 + b.toNat) n < (n + 1) * 256 ^ xs.length := by
  induction xs with
  | nil => intro n; simp
  | cons b xs ih =>
    intro n
    have h := ih (n * 256 + b.toNat)
    have hb := b.toNat_lt
    rw [List.foldl_cons, List.length_cons, Nat.pow_succ]
    have h2 : (n * 256 + b.toNat + 1) * 256 ^ xs.length ≤ (n + 1) * 256 * 256 ^ xs.length := Nat.mul_le_mul_right _ (by omega)
    have h3 : (n + 1) * 256 * 256 ^ xs.length = (n + 1) * (256 ^ xs.length * 256) := by rw [Nat.mul_assoc, Nat.mul_comm 256]
    omega
theorem getN_lt (xs : List UInt8) : getN xs < 256 ^ xs.length := by
  have := foldN_lt xs 0
  simpa [getN] using this
theorem getN_take_lt' (xs : List UInt8) (j : Nat) (h : j < 8) : getN (xs.take j) < 72057594037927936 := by
  have h1 := getN_lt (xs.take j)
  have h2 : 256 ^ (xs.take j).length ≤ 256 ^ 7 := Nat.pow_le_pow_right (by omega) (by rw [List.length_take]; omega)
  have h3 : (256 : Nat) ^ 7 = 72057594037927936 := by decide
  omega
theorem getN_take_succ (xs : List UInt8) (j : Nat) (h : j < xs.length) : getN (xs.take (j + 1)) = getN (xs.take j) * 256 + (xs[j]).toNat := by
  rw [List.take_succ_eq_append_getElem h, getN_snoc]

theorem or_byte (n b : Nat) (hn : n < 72057594037927936) (hb : b < 256) :
    bits BinOp.or IntKind.u64 (IntKind.u64.wrap ((n : Int) * 256)) (IntKind.u64.wrap (b : Int)) = ((n * 256 + b : Nat) : Int) := by
  have h1 : IntKind.u64.wrap ((n : Int) * 256) = ((n * 256 : Nat) : Int) := by rw [IntKind.wrap_u64]; omega
  have h2 : IntKind.u64.wrap (b : Int) = (b : Int) := by rw [IntKind.wrap_u64]; omega
  rw [h1, h2, u64_or_nat _ _ (by omega) (by omega)]
  congr 1
  have := Nat.shiftLeft_add_eq_or_of_lt (i := 8) (b := b) (by omega) n
  rw [Nat.shiftLeft_eq, show (2 : Nat) ^ 8 = 256 from rfl] at this
  exact this.symm
theorem add_byte (n b : Nat) (hn : n < 72057594037927936) (hb : b < 256) :
    IntKind.u64.wrap (IntKind.u64.wrap ((n : Int) * 256) + IntKind.u64.wrap (b : Int)) = ((n * 256 + b : Nat) : Int) := by
  simp only [IntKind.wrap_u64]
  omega

end Go.Proofs.YtehgpnnfjgmiiaaGreat
end
section
namespace Go.Proofs.YtehgpnnfjgmiiaaGreat
set_option maxRecDepth 100000
open Go.RowKit
set_option linter.unusedVariables false

theorem get_no (A : Option Addr) (c : Nat) (xs : List UInt8) (at_ wd : Int) (w : World) (hl : xs.length ≤ 1000000) (ha : at_ ≤ 9223372036854775807) (hw : wd ≤ 9223372036854775807) (h : ¬ (1 ≤ wd ∧ wd ≤ 8 ∧ 0 ≤ at_ ∧ at_ + wd ≤ xs.length)) :
    Calls Tryz.prog 89 #[.slice A xs.length c, .int .i64 at_, .int .i64 wd] w fun e w' => e = .returned (.tuple #[.int .u64 0, .bool false]) ∧ w = w' := by
  by_cases h1 : 1 ≤ wd ∧ wd ≤ 8
  · by_cases h2 : 0 ≤ at_
    · have h3 : (xs.length : Int) - at_ < wd := by omega
      clear h
      go_enter Tryz.func89, Tryz.ntmps89
      go_wp2_with (go_at_call 49; refine (isWidth_yes _ _ h1.1 h1.2).mono ?_; rintro e w1 ⟨rfl, rfl⟩)
      go_ret2
      exact ⟨rfl, rfl⟩
    · clear h
      go_enter Tryz.func89, Tryz.ntmps89
      go_wp2_with (go_at_call 49; refine (isWidth_yes _ _ h1.1 h1.2).mono ?_; rintro e w1 ⟨rfl, rfl⟩)
      go_ret2
      exact ⟨rfl, rfl⟩
  · clear h
    go_enter Tryz.func89, Tryz.ntmps89
    go_wp2_with (go_at_call 49; refine (isWidth_no _ _ h1).mono ?_; rintro e w1 ⟨rfl, rfl⟩)
    go_ret2
    exact ⟨rfl, rfl⟩

set_option maxRecDepth 100000 in
theorem get_yes (A : Option Addr) (c : Nat) (xs : List UInt8) (a k : Nat) (w : World) (hx : BAt w w.heap.size A xs) (hl : xs.length ≤ 1000000) (hk1 : 1 ≤ k) (hk : k ≤ 8) (h : a + k ≤ xs.length) :
    Calls Tryz.prog 89 #[.slice A xs.length c, .int .i64 a, .int .i64 k] w fun e w' => e = .returned (.tuple #[.int .u64 (getN ((xs.drop a).take k)), .bool true]) ∧ w = w' := by
  obtain ⟨g, off, rfl, hg, hc⟩ := hx.some_ (by omega)
  go_enter Tryz.func89, Tryz.ntmps89
  go_wp2_with (go_at_call 49; refine (isWidth_yes _ _ (by omega) (by omega)).mono ?_; rintro e w1 ⟨rfl, rfl⟩)
  go_loop [8, 26] (fun n i => ∃ j : Nat, j ≤ k ∧ i = .int .i64 j ∧ n = .int .u64 (getN ((xs.drop a).take j))) (fun _ i => k - (intOf i).toNat)
  case atStart => exact ⟨0, by omega, rfl, by simp [getN]⟩
  case round =>
    obtain ⟨j, hj, rfl, rfl⟩ := hrel
    by_cases hlt : j < k
    · have hcj := hc (a + j) (by omega)
      have R : bits BinOp.or IntKind.u64 (IntKind.u64.wrap ((getN (List.take j (List.drop a xs)) : Int) * 256)) (IntKind.u64.wrap (xs[a + j].toNat : Int)) = (getN (List.take (j + 1) (List.drop a xs)) : Int) := by
        rw [or_byte _ _ (getN_take_lt' _ _ (by omega)) (xs[a + j]).toNat_lt, getN_take_succ _ _ (by rw [List.length_drop]; omega)]
        simp
      have HR := Lib.hid R
      clear hc hg R
      go_wp2
      go_round
      case rel => exact ⟨j + 1, by omega, by go_num, by rw [HR.out]⟩
      case measure => simp [intOf]; omega
    · obtain rfl : j = k := by omega
      go_wp2
      go_ret2
      exact ⟨rfl, rfl⟩

theorem rget_no (A : Option Addr) (c : Nat) (xs : List UInt8) (at_ wd : Int) (w : World) (hl : xs.length ≤ 1000000) (ha : at_ ≤ 9223372036854775807) (hw : wd ≤ 9223372036854775807) (h : ¬ (1 ≤ wd ∧ wd ≤ 8 ∧ 0 ≤ at_ ∧ at_ + wd ≤ xs.length)) :
    Calls Tryz.prog 73 #[.slice A xs.length c, .int .i64 at_, .int .i64 wd] w fun e w' => e = .returned (.tuple #[.int .u64 0, .bool false]) ∧ w = w' := by
  by_cases h1 : wd < 1
  · clear h
    go_enter Tryz.func73, Tryz.ntmps73
    go_wp2
    go_ret2
    exact ⟨rfl, rfl⟩
  · by_cases h1b : 8 < wd
    · clear h
      go_enter Tryz.func73, Tryz.ntmps73
      go_wp2
      go_ret2
      exact ⟨rfl, rfl⟩
    · by_cases h2 : at_ < 0
      · clear h
        go_enter Tryz.func73, Tryz.ntmps73
        go_wp2
        go_ret2
        exact ⟨rfl, rfl⟩
      · by_cases h3 : (xs.length : Int) < at_
        · clear h
          go_enter Tryz.func73, Tryz.ntmps73
          go_wp2
          go_ret2
          exact ⟨rfl, rfl⟩
        · have h4 : (xs.length : Int) - at_ < wd := by omega
          clear h
          go_enter Tryz.func73, Tryz.ntmps73
          go_wp2
          go_ret2
          exact ⟨rfl, rfl⟩

set_option maxRecDepth 100000 in
theorem rget_yes (A : Option Addr) (c : Nat) (xs : List UInt8) (a k : Nat) (w : World) (hx : BAt w w.heap.size A xs) (hl : xs.length ≤ 1000000) (hk1 : 1 ≤ k) (hk : k ≤ 8) (h : a + k ≤ xs.length) :
    Calls Tryz.prog 73 #[.slice A xs.length c, .int .i64 a, .int .i64 k] w fun e w' => e = .returned (.tuple #[.int .u64 (getN ((xs.drop a).take k)), .bool true]) ∧ w = w' := by
  obtain ⟨g, off, rfl, hg, hc⟩ := hx.some_ (by omega)
  go_enter Tryz.func73, Tryz.ntmps73
  go_wp2
  go_loop [8, 9] (fun n i => ∃ j : Nat, j ≤ k ∧ i = .int .i64 j ∧ n = .int .u64 (getN ((xs.drop a).take j))) (fun _ i => k - (intOf i).toNat)
  case atStart => exact ⟨0, by omega, rfl, by simp [getN]⟩
  case round =>
    obtain ⟨j, hj, rfl, rfl⟩ := hrel
    by_cases hlt : j < k
    · have hcj := hc (a + j) (by omega)
      have R : IntKind.u64.wrap (IntKind.u64.wrap ((getN (List.take j (List.drop a xs)) : Int) * 256) + IntKind.u64.wrap (xs[a + j].toNat : Int)) = (getN (List.take (j + 1) (List.drop a xs)) : Int) := by
        rw [add_byte _ _ (getN_take_lt' _ _ (by omega)) (xs[a + j]).toNat_lt, getN_take_succ _ _ (by rw [List.length_drop]; omega)]
        simp
      have HR := Lib.hid R
      clear hc hg R
      go_wp2
      go_round
      case rel => exact ⟨j + 1, by omega, by go_num, by rw [HR.out]⟩
      case measure => simp [intOf]; omega
    · obtain rfl : j = k := by omega
      go_wp2
      go_ret2
      exact ⟨rfl, rfl⟩

end Go.Proofs.YtehgpnnfjgmiiaaGreat
end
section
namespace Go.Proofs.YtehgpnnfjgmiiaaGreat
set_option maxRecDepth 100000
open Go.RowKit
set_option linter.unusedVariables false

end Go.Proofs.YtehgpnnfjgmiiaaGreat
end
section
namespace Go.Proofs.YtehgpnnfjgmiiaaGreat
set_option maxRecDepth 100000
open Go.RowKit
set_option linter.unusedVariables false

/-- What Get tells. -/
def getI (xs : List UInt8) (a wd : Int) : Nat × Bool := if 1 ≤ wd ∧ wd ≤ 8 ∧ 0 ≤ a ∧ a + wd ≤ xs.length then (getN ((xs.drop a.toNat).take wd.toNat), true) else (0, false)
theorem rget_any (A : Option Addr) (c : Nat) (xs : List UInt8) (a wd : Int) (w : World) (hx : BAt w w.heap.size A xs) (hl : xs.length ≤ 900000) (ha : a ≤ 9223372036854775807) (hw : wd ≤ 9223372036854775807) :
    Calls Tryz.prog 73 #[.slice A xs.length c, .int .i64 a, .int .i64 wd] w fun e w' => e = .returned (.tuple #[.int .u64 ((getI xs a wd).1 : Int), .bool (getI xs a wd).2]) ∧ w = w' := by
  by_cases h : 1 ≤ wd ∧ wd ≤ 8 ∧ 0 ≤ a ∧ a + wd ≤ xs.length
  · obtain ⟨k, rfl⟩ : ∃ k : Nat, wd = k := ⟨wd.toNat, by omega⟩
    obtain ⟨i, rfl⟩ : ∃ i : Nat, a = i := ⟨a.toNat, by omega⟩
    have := rget_yes A c xs i k w hx (by omega) (by omega) (by omega) (by omega)
    unfold getI
    rw [if_pos h]
    exact this
  · have := rget_no A c xs a wd w (by omega) ha hw h
    unfold getI
    rw [if_neg h]
    exact this

section
variable {w W : World} {A : Option Addr} {xs : List UInt8}
end

/-- A slice of bytes of the call's own, as a string. -/
theorem conv_own {w : World} {base n : Nat} {v : Value} {xs : List UInt8} (h : w.ownsRow base 5 1 v n (bcells xs)) : (convert 31 9 v).run Tryz.prog w = .ok (.string (bstr xs)) w :=
  run_convert_own 31 9 5 Tryz.underlying31 Tryz.underlying5 Tryz.underlying9 h

end Go.Proofs.YtehgpnnfjgmiiaaGreat
end
section
namespace Go.Proofs.YtehgpnnfjgmiiaaGreat
set_option maxRecDepth 100000
open Go.RowKit
set_option linter.unusedVariables false

/-- Where a slice lies from place k on, and up to a place. -/
def cutA (A : Option Addr) (c k : Nat) : Option Addr := if c = k then A else A.map (·.add k)
theorem addr_add (g off k : Nat) : (⟨g, off, none⟩ : Addr).add k = ⟨g, off + k, none⟩ := by
  unfold Addr.add
  split <;> simp_all

theorem BAt.cut {w : World} {B c k : Nat} {A : Option Addr} {ys : List UInt8} (h : BAt w B A ys) (hk : k ≤ ys.length) (hc : ys.length ≤ c) : BAt w B (cutA A c k) (ys.drop k) := by
  by_cases hn : ys.length = k
  · left
    exact List.drop_eq_nil_of_le (by omega)
  · obtain ⟨g, off, rfl, hg, hcell⟩ := h.some_ (by omega)
    right
    refine ⟨g, off + k, by unfold cutA; rw [if_neg (by omega), Option.map_some, addr_add], hg, fun j hj => ?_⟩
    rw [List.length_drop] at hj
    rw [Nat.add_assoc, hcell (k + j) (by omega), List.getElem_drop]
theorem BAt.head {w : World} {B c k : Nat} {A : Option Addr} {ys : List UInt8} (h : BAt w B A ys) (hc : ys.length ≤ c) : BAt w B (headA A c) (ys.take k) := by
  by_cases hn : (ys.take k).length = 0
  · left
    exact List.eq_nil_of_length_eq_zero hn
  · rw [List.length_take] at hn
    obtain ⟨g, off, rfl, hg, hcell⟩ := h.some_ (by omega)
    right
    refine ⟨g, off, by unfold headA; rw [if_neg (by omega), Option.map_some, addr_add, Nat.add_zero], hg, fun j hj => ?_⟩
    rw [List.length_take] at hj
    rw [hcell j (by omega), List.getElem_take]

theorem run_cut (A : Option Addr) (n c k : Nat) (hk : k ≤ n) (W : World) :
    (Instr.slice 31 (.slice A n c) (some (.int .i64 (k : Int))) none none).run Tryz.prog W = .ok (.slice (cutA A c k) (n - k) (c - k)) W := by
  rw [run_slice_l W 31 A n c under22Q .i64 k (by omega) (by omega), size5]
  simp [Result.andThen, sliced, cutA]
/-- A reader in block g: the bytes that are left, and whether it is bad. -/
def Rdr (w : World) (g : Nat) (ys : List UInt8) (bad : Bool) : Prop :=
  ∃ A c, w.heap[g]? = some (.cells #[.slice A ys.length c, .bool true, .bool bad] 100 (0, 0)) ∧ BAt w w.heap.size A ys ∧ ys.length ≤ c

theorem rest_left (g n c : Nat) (A : Option Addr) (w : World) (h0 : w.cell? ⟨g, 0, none⟩ = some (.slice A n c)) : Calls Tryz.prog 72 #[.pointer (some ⟨g, 0, none⟩)] w fun e w' => e = .returned (.int .i64 (n : Int)) ∧ w = w' := by
  go_enter Tryz.func72, Tryz.ntmps72
  go_wp2
  go_ret
  exact ⟨rfl, rfl⟩

theorem fail_any (g : Nat) (a b c : Value) (w : World) (h : w.heap[g]? = some (.cells #[a, b, c] 100 (0, 0))) : Calls Tryz.prog 66 #[.pointer (some ⟨g, 0, none⟩)] w fun e w' => e = .returned (.tuple #[]) ∧ Rdr w' g [] true ∧ w.grownBy w' (some g) := by
  have c0 := cell_of_row w g 0 _ 100 (0, 0) h
  have c1 := cell_of_row w g 1 _ 100 (0, 0) h
  have c2 := cell_of_row w g 2 _ 100 (0, 0) h
  have f := fun i => frozen_of_row w g i _ 100 h
  simp at c0 c1 c2
  have H := Lib.hid h
  clear h
  go_enter Tryz.func66, Tryz.ntmps66
  go_wp2
  go_end0
  have s0 := heap_setCell_same w g 0 _ 100 (.slice none 0 0) H.out
  have s1 := heap_setCell_same _ g 1 _ 100 (.bool true) s0
  have s2 := heap_setCell_same _ g 2 _ 100 (.bool true) s1
  refine ⟨rfl, ⟨none, 0, by simpa using s2, .inl rfl, Nat.le_refl _⟩, ?_⟩
  exact grownBy_setCell (grownBy_setCell (grownBy_setCell (World.grownBy.refl w _) _ _) _ _) _ _

/-- What lies in bytes lies in no block of a reader. -/
theorem BAt.ne {w : World} {B g : Nat} {A : Option Addr} {ys : List UInt8} {a b c : Value} {t : TypeId} (h : BAt w B A ys) (hg : w.heap[g]? = some (.cells #[a, b, c] t (0, 0)))
    (ha : ∀ n, a ≠ .int .u8 n) (hb : ∀ n, b ≠ .int .u8 n) (hc : ∀ n, c ≠ .int .u8 n) : ∀ g' off, A = some ⟨g', off, none⟩ → ys ≠ [] → g' ≠ g := by
  rintro g' off rfl hy rfl
  obtain ⟨g2, off2, he, _, hcell⟩ := h.some_ (List.length_pos_iff.2 hy)
  injection he with he
  injection he with h1 h2
  subst h1 h2
  have hp : 0 < ys.length := List.length_pos_iff.2 hy
  have := hcell 0 hp
  rw [cell_of_row w g' _ _ t (0, 0) hg, Nat.add_zero] at this
  match off, this with
  | 0, this => simp at this; exact ha _ this
  | 1, this => simp at this; exact hb _ this
  | 2, this => simp at this; exact hc _ this
  | n + 3, this => simp at this
/-- The reader behind a cut. -/
theorem rdr_cut {w : World} {g c k : Nat} {A : Option Addr} {ys : List UInt8} {bad : Bool} (h : w.heap[g]? = some (.cells #[.slice A ys.length c, .bool true, .bool bad] 100 (0, 0))) (hx : BAt w w.heap.size A ys) (hc : ys.length ≤ c) (hk : k ≤ ys.length) :
    Rdr (w.setCell ⟨g, 0, none⟩ (.slice (cutA A c k) (ys.length - k) (c - k))) g (ys.drop k) bad := by
  refine ⟨cutA A c k, c - k, ?_, ?_, by rw [List.length_drop]; omega⟩
  · have s0 := heap_setCell_same w g 0 _ 100 (.slice (cutA A c k) (ys.length - k) (c - k)) h
    rw [List.length_drop]
    simpa using s0
  · have hx' : BAt w w.heap.size (cutA A c k) (ys.drop k) := hx.cut hk hc
    have := hx'.set (j := 0) (.slice (cutA A c k) (ys.length - k) (c - k)) (hx'.ne h (by simp) (by simp) (by simp))
    simpa [World.setCell] using this

theorem number_no (g c : Nat) (A : Option Addr) (ys : List UInt8) (wd : Int) (w : World) (h0 : w.cell? ⟨g, 0, none⟩ = some (.slice A ys.length c)) (hl : ys.length ≤ 900000) (hw : wd ≤ 9223372036854775807) (hn : ¬ (1 ≤ wd ∧ wd ≤ 8 ∧ wd ≤ ys.length)) :
    Calls Tryz.prog 65 #[.pointer (some ⟨g, 0, none⟩), .int .i64 wd] w fun e w' => e = .returned (.tuple #[.int .u64 0, .bool false]) ∧ w = w' := by
  have hG := get_no A c ys 0 wd w (by omega) (by omega) hw (by omega)
  have HG := Lib.hid hG
  clear hG hn
  go_enter Tryz.func65, Tryz.ntmps65
  go_wp2_with (go_at_call 89; refine (HG.out).mono ?_; rintro e w1 ⟨rfl, rfl⟩)
  go_ret2
  exact ⟨rfl, rfl⟩

theorem number_yes (g c k : Nat) (A : Option Addr) (ys : List UInt8) (w : World) (h0 : w.cell? ⟨g, 0, none⟩ = some (.slice A ys.length c)) (f0 : w.frozen? ⟨g, 0, none⟩ = false) (hx : BAt w w.heap.size A ys) (hl : ys.length ≤ 900000) (h1 : 1 ≤ k) (h8 : k ≤ 8) (hk : k ≤ ys.length) :
    Calls Tryz.prog 65 #[.pointer (some ⟨g, 0, none⟩), .int .i64 (k : Int)] w fun e w' => e = .returned (.tuple #[.int .u64 (getN (ys.take k) : Int), .bool true]) ∧ w.setCell ⟨g, 0, none⟩ (.slice (cutA A c k) (ys.length - k) (c - k)) = w' := by
  have hG : Calls Tryz.prog 89 #[.slice A ys.length c, .int .i64 0, .int .i64 (k : Int)] w fun e w' => e = .returned (.tuple #[.int .u64 (getN (ys.take k) : Int), .bool true]) ∧ w = w' := by
    simpa using get_yes A c ys 0 k w hx (by omega) h1 h8 (by omega)
  have HG := Lib.hid hG
  have hcut := fun W => run_cut A ys.length c k hk W
  clear hG hx
  go_enter Tryz.func65, Tryz.ntmps65
  go_wp2_with (go_at_call 89; refine (HG.out).mono ?_; rintro e w1 ⟨rfl, rfl⟩)
  go_ret2
  exact ⟨rfl, rfl⟩

theorem cut_no (g c : Nat) (A : Option Addr) (n : Nat) (k : Int) (w : World) (h0 : w.cell? ⟨g, 0, none⟩ = some (.slice A n c)) (hl : n ≤ 900000) (hn : ¬ (0 ≤ k ∧ k ≤ n)) :
    Calls Tryz.prog 90 #[.pointer (some ⟨g, 0, none⟩), .int .i64 k] w fun e w' => e = .returned (.tuple #[.slice none 0 0, .bool false]) ∧ w = w' := by
  by_cases h : k < 0
  · clear hn
    go_enter Tryz.func90, Tryz.ntmps90
    go_wp2
    go_ret2
    exact ⟨rfl, rfl⟩
  · have h2 : (n : Int) < k := by omega
    clear hn
    go_enter Tryz.func90, Tryz.ntmps90
    go_wp2_with (go_at_call 72; refine (rest_left g n c A w h0).mono ?_; rintro e w1 ⟨rfl, rfl⟩)
    go_ret2
    exact ⟨rfl, rfl⟩

theorem cut_yes (g c n k : Nat) (A : Option Addr) (w : World) (h0 : w.cell? ⟨g, 0, none⟩ = some (.slice A n c)) (f0 : w.frozen? ⟨g, 0, none⟩ = false) (hl : n ≤ 900000) (hc : n ≤ c) (hk : k ≤ n) :
    Calls Tryz.prog 90 #[.pointer (some ⟨g, 0, none⟩), .int .i64 (k : Int)] w fun e w' => e = .returned (.tuple #[.slice (headA A c) k c, .bool true]) ∧ w.setCell ⟨g, 0, none⟩ (.slice (cutA A c k) (n - k) (c - k)) = w' := by
  have hcut := fun W => run_cut A n c k hk W
  have hhead := fun W => run_head A n c k (by omega) W
  go_enter Tryz.func90, Tryz.ntmps90
  go_wp2_with (go_at_call 72; refine (rest_left g n c A w h0).mono ?_; rintro e w1 ⟨rfl, rfl⟩)
  go_ret2
  exact ⟨rfl, rfl⟩

end Go.Proofs.YtehgpnnfjgmiiaaGreat
end
section
namespace Go.Proofs.YtehgpnnfjgmiiaaGreat
set_option maxRecDepth 100000

def numOk (s : St) (wd : Int) : Prop := s.bad = false ∧ 1 ≤ wd ∧ wd ≤ 8 ∧ wd ≤ s.ys.length
instance (s : St) (wd : Int) : Decidable (numOk s wd) := by unfold numOk; exact inferInstance
def numV (s : St) (wd : Int) : Nat := if numOk s wd then getN (s.ys.take wd.toNat) else 0
def numS (s : St) (wd : Int) : St := if numOk s wd then ⟨s.ys.drop wd.toNat, false⟩ else ⟨[], true⟩

def takeV (s : St) (n : Int) : List UInt8 := if takeOk s n then s.ys.take n.toNat else []
def txtOk (s : St) (most : Int) : Prop := s.bad = false ∧ 2 ≤ s.ys.length ∧ (getN (s.ys.take 2) : Int) ≤ most ∧ getN (s.ys.take 2) ≤ 1024 ∧ getN (s.ys.take 2) + 2 ≤ s.ys.length
instance (s : St) (n : Int) : Decidable (txtOk s n) := by unfold txtOk; exact inferInstance
def txtV (s : St) (most : Int) : List UInt8 := if txtOk s most then (s.ys.drop 2).take (getN (s.ys.take 2)) else []
def txtS (s : St) (most : Int) : St := if txtOk s most then ⟨(s.ys.drop 2).drop (getN (s.ys.take 2)), false⟩ else ⟨[], true⟩

end Go.Proofs.YtehgpnnfjgmiiaaGreat
end
