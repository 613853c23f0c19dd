/- Contracts of Get, Put and Text and of their references for whatever comes in, from a world of which what was there first is kept. Conditions: the bytes that come in are fewer than 900,000; places and widths are ints; a string is no longer than an int can say. -/
import Derived.Test.YteglihgoccemmaaOctc
namespace Go.Proofs.Yteglihgoccemmaa
open Go.RowKit
set_option linter.unusedVariables false

/-- What Get tells. -/
def getI (xs : List UInt8) (a wd : Int) : Nat × Bool := if 1 ≤ wd ∧ wd ≤ 8 ∧ 0 ≤ a ∧ a + wd ≤ xs.length then (getN ((xs.drop a.toNat).take wd.toNat), true) else (0, false)
/-- What Text tells. -/
def textI (xs : List UInt8) (s : ByteArray) : List UInt8 := if s.size ≤ 1024 then xs ++ (putB s.size 2 ++ s.data.toList) else []
def textE (s : ByteArray) : Int := if s.size ≤ 1024 then 0 else 11

theorem get_any (A : Option Addr) (c : Nat) (xs : List UInt8) (a wd : Int) (w : World) (hx : BAt w w.heap.size A xs) (hl : xs.length ≤ 900000) (ha : a ≤ 9223372036854775807) (hw : wd ≤ 9223372036854775807) :
    Calls Try.prog 12 #[.slice A xs.length c, .int .i64 a, .int .i64 wd] w fun e w' => e = .returned (.tuple #[.int .u64 ((getI xs a wd).1 : Int), .bool (getI xs a wd).2]) ∧ w = w' := by
  by_cases h : 1 ≤ wd ∧ wd ≤ 8 ∧ 0 ≤ a ∧ a + wd ≤ xs.length
  · obtain ⟨k, rfl⟩ : ∃ k : Nat, wd = k := ⟨wd.toNat, by omega⟩
    obtain ⟨i, rfl⟩ : ∃ i : Nat, a = i := ⟨a.toNat, by omega⟩
    have := get_yes A c xs i k w hx (by omega) (by omega) (by omega) (by omega)
    unfold getI
    rw [if_pos h]
    exact this
  · have := get_no A c xs a wd w (by omega) ha hw h
    unfold getI
    rw [if_neg h]
    exact this

theorem rget_any (A : Option Addr) (c : Nat) (xs : List UInt8) (a wd : Int) (w : World) (hx : BAt w w.heap.size A xs) (hl : xs.length ≤ 900000) (ha : a ≤ 9223372036854775807) (hw : wd ≤ 9223372036854775807) :
    Calls Try.prog 13 #[.slice A xs.length c, .int .i64 a, .int .i64 wd] w fun e w' => e = .returned (.tuple #[.int .u64 ((getI xs a wd).1 : Int), .bool (getI xs a wd).2]) ∧ w = w' := by
  by_cases h : 1 ≤ wd ∧ wd ≤ 8 ∧ 0 ≤ a ∧ a + wd ≤ xs.length
  · obtain ⟨k, rfl⟩ : ∃ k : Nat, wd = k := ⟨wd.toNat, by omega⟩
    obtain ⟨i, rfl⟩ : ∃ i : Nat, a = i := ⟨a.toNat, by omega⟩
    have := rget_yes A c xs i k w hx (by omega) (by omega) (by omega) (by omega)
    unfold getI
    rw [if_pos h]
    exact this
  · have := rget_no A c xs a wd w (by omega) ha hw h
    unfold getI
    rw [if_neg h]
    exact this

/-- What a call leaves, in a world W that keeps what lay in w: a new slice of bytes. -/
def OwnF (w W : World) (xs : List UInt8) (e : Ending) (w' : World) : Prop :=
  ∃ v, e = .returned v ∧ w'.ownsRow w.heap.size 5 1 v xs.length (bcells xs) ∧ Below W.heap.size W w' ∧ Below w.heap.size w w'
def OwnF2 (w W : World) (xs : List UInt8) (n : Int) (e : Ending) (w' : World) : Prop :=
  ∃ v, e = .returned (.tuple #[v, .int .i64 n]) ∧ w'.ownsRow w.heap.size 5 1 v xs.length (bcells xs) ∧ Below W.heap.size W w' ∧ Below w.heap.size w w'

section
variable {w W : World} {A : Option Addr} {xs : List UInt8}
theorem put_from (hb : Below w.heap.size w W) (hx : BAt w w.heap.size A xs) (c N : Nat) (wd : Int) (hl : xs.length ≤ 900000) (hN : N < 18446744073709551616) :
    Calls Try.prog 16 #[.slice A xs.length c, .int .u64 (N : Int), .int .i64 wd] W (OwnF w W (xs ++ putI N wd)) :=
  (put_any A c N wd xs W ((hx.below hb).more hb.size) (by omega) hN).mono fun _ _ ⟨v, he, ho, h1⟩ => ⟨v, he, own_base ho hb.size, h1, hb.trans (h1.mono hb.size)⟩
theorem rput_from (hb : Below w.heap.size w W) (hx : BAt w w.heap.size A xs) (c N : Nat) (wd : Int) (hl : xs.length ≤ 900000) (hN : N < 18446744073709551616) :
    Calls Try.prog 17 #[.slice A xs.length c, .int .u64 (N : Int), .int .i64 wd] W (OwnF w W (xs ++ putI N wd)) :=
  (rput_any A c N wd xs W ((hx.below hb).more hb.size) (by omega) hN).mono fun _ _ ⟨v, he, ho, h1⟩ => ⟨v, he, own_base ho hb.size, h1, hb.trans (h1.mono hb.size)⟩
theorem text_from (hb : Below w.heap.size w W) (hx : BAt w w.heap.size A xs) (c : Nat) (s : ByteArray) (hl : xs.length ≤ 900000) (hs : s.size ≤ maxLen) :
    Calls Try.prog 14 #[.slice A xs.length c, .string s] W (OwnF2 w W (textI xs s) (textE s)) := by
  by_cases h : s.size ≤ 1024
  · have := (text_yes A c xs s W ((hx.below hb).more hb.size) hl h).mono fun _ _ ⟨v, he, ho, h1⟩ => (⟨v, he, own_base ho hb.size, h1, hb.trans (h1.mono hb.size)⟩ : OwnF2 w W _ _ _ _)
    unfold textI textE
    rw [if_pos h, if_pos h]
    exact this
  · have := (text_no A c xs s W (by omega) hs).mono fun _ _ ⟨v, he, ho, h1⟩ => (⟨v, he, own_base ho hb.size, h1, hb.trans (h1.mono hb.size)⟩ : OwnF2 w W _ _ _ _)
    unfold textI textE
    rw [if_neg h, if_neg h]
    exact this
theorem rtext_from (hb : Below w.heap.size w W) (hx : BAt w w.heap.size A xs) (c : Nat) (s : ByteArray) (hl : xs.length ≤ 900000) (hs : s.size ≤ maxLen) :
    Calls Try.prog 15 #[.slice A xs.length c, .string s] W (OwnF2 w W (textI xs s) (textE s)) := by
  by_cases h : s.size ≤ 1024
  · have := (rtext_yes A c xs s W ((hx.below hb).more hb.size) hl h).mono fun _ _ ⟨v, he, ho, h1⟩ => (⟨v, he, own_base ho hb.size, h1, hb.trans (h1.mono hb.size)⟩ : OwnF2 w W _ _ _ _)
    unfold textI textE
    rw [if_pos h, if_pos h]
    exact this
  · have := (rtext_no' A c xs s W (by omega) hs).mono fun _ _ ⟨v, he, ho, h1⟩ => (⟨v, he, own_base ho hb.size, h1, hb.trans (h1.mono hb.size)⟩ : OwnF2 w W _ _ _ _)
    unfold textI textE
    rw [if_neg h, if_neg h]
    exact this
theorem lives_from (hb : Below w.heap.size w W) : Calls Try.prog 11 #[] W fun e w' => e = .returned (.bool true) ∧ Below w.heap.size w w' :=
  (lives_any W).mono fun _ _ ⟨he, h1⟩ => ⟨he, hb.trans (h1.mono hb.size)⟩
end

/-- A slice of bytes of the call's own, as a string. -/
theorem conv_own {w : World} {base n : Nat} {v : Value} {xs : List UInt8} (h : w.ownsRow base 5 1 v n (bcells xs)) : (convert 22 9 v).run Try.prog w = .ok (.string (bstr xs)) w :=
  run_convert_own 22 9 5 Try.underlying22 Try.underlying5 Try.underlying9 h

end Go.Proofs.Yteglihgoccemmaa
