/- What the statements of label lean on: contracts in one form, and the chapter's examples. Conditions: at most 50,000 bytes. -/
import Derived.Test.YtjiiignbejbiiaaXLck
import Derived.Test.YtjiiignbejbiiaaXLcm
import Derived.Test.YtjiiignbejbiiaaXLre
import Derived.Test.YtjiiignbejbiiaaXLrd
import Derived.Test.YtjiiignbejbiiaaXLrh
namespace Go.Proofs.Ytjiiignbejbiiaa
open Go.Shelf Go.RowKit Go.Lib Go.Great
set_option maxRecDepth 100000
set_option maxHeartbeats 1000000
/-- A slice of bytes. -/
def IsB (v : Value) (xs : List UInt8) (w : World) : Prop := ∃ A c, v = .slice A xs.length c ∧ xs.length ≤ c ∧ BAt w w.heap.size A xs
theorem IsB.of_own {base : Nat} {v : Value} {xs : List UInt8} {w : World} (h : w.ownsRow base 5 1 v xs.length (bcells xs)) : IsB v xs w := by
  have h2 := h
  rcases h.2 with ⟨hv, hn⟩ | ⟨g, cap, cur, hv, hb, hg, hn, _⟩
  · subst hv
    exact ⟨none, 0, by rw [hn], by omega, .inl (List.eq_nil_of_length_eq_zero hn)⟩
  · subst hv
    exact ⟨_, cap, rfl, hn, BAt.of_own h2 (Nat.le_refl _)⟩
theorem IsB.below {v : Value} {xs : List UInt8} {w w' : World} (h : IsB v xs w) (hb : Below w.heap.size w w') : IsB v xs w' := by
  obtain ⟨A, c, h1, h2, h3⟩ := h
  exact ⟨A, c, h1, h2, (h3.below hb).more hb.size⟩
theorem IsB.conv {v : Value} {xs : List UInt8} {w : World} (h : IsB v xs w) : (convert 29 9 v).run Try.prog w = .ok (.string (bstr xs)) w := by
  obtain ⟨A, c, rfl, _, h3⟩ := h
  exact run_convert_bat (P := Try.prog) 29 9 5 c Try.underlying29 Try.underlying5 Try.underlying9 h3
theorem runwire_any (A : Option Addr) (c : Nat) (b : List UInt8) (k : Int) (hl : b.length ≤ 50000) (hc : b.length ≤ c) (w : World) (hA : BAt w w.heap.size A b) : Calls Try.prog 26 #[.slice A b.length c, .int .i64 k] w fun e w' => e = .returned (tellsU (unwireL b k)) ∧ Below w.heap.size w w' := by
  by_cases h : k < 0 ∨ (b.length : Int) ≤ k
  · exact runwire_range A c b k h w
  · obtain ⟨j, rfl⟩ : ∃ j : Nat, k = (j : Int) := ⟨k.toNat, by omega⟩
    exact runwire_in A c b j (by omega) hl hc w hA
/-- What Wire tells: the bytes, and an error. -/
def wireT (s : List UInt8) : List UInt8 × Int := if goodL s then (wireL s, 0) else ([], 40)
theorem wire_any (s : List UInt8) (w : World) : Calls Try.prog 23 #[.string (bstr s)] w fun e w' => ∃ v, e = .returned (.tuple #[v, .int .i64 (wireT s).2]) ∧ IsB v (wireT s).1 w' ∧ Below w.heap.size w w' := by
  unfold wireT
  cases hs : goodL s with
  | true =>
    refine (wire_good s hs w).mono ?_
    rintro e w' ⟨v, rfl, h1, h2⟩
    exact ⟨v, rfl, IsB.of_own h1, h2⟩
  | false =>
    refine (wire_bad s hs w).mono ?_
    rintro e w' ⟨rfl, h2⟩
    exact ⟨_, rfl, ⟨none, 0, rfl, Nat.le_refl _, .inl rfl⟩, h2⟩
theorem rwire_any (s : List UInt8) (ls : s.length ≤ 100000) (w : World) : Calls Try.prog 24 #[.string (bstr s)] w fun e w' => ∃ v, e = .returned (.tuple #[v, .int .i64 (wireT s).2]) ∧ IsB v (wireT s).1 w' ∧ Below w.heap.size w w' := by
  unfold wireT
  cases hs : goodL s with
  | true =>
    refine (rwire_good s hs w).mono ?_
    rintro e w' ⟨v, rfl, h1, h2⟩
    exact ⟨v, rfl, IsB.of_own h1, h2⟩
  | false =>
    refine (rwire_bad s ls hs w).mono ?_
    rintro e w' ⟨rfl, h2⟩
    exact ⟨_, rfl, ⟨none, 0, rfl, Nat.le_refl _, .inl rfl⟩, h2⟩
theorem lives_any (w : World) : Calls Try.prog 10 #[] w fun e w' => e = .returned (.bool true) ∧ Below w.heap.size w w' := by
  have HW : Hid (Calls Try.prog 23 #[.string ⟨#[97, 46, 98, 99]⟩] w fun e w' => ∃ v, e = .returned (.tuple #[v, .int .i64 0]) ∧ Below w.heap.size w w' ∧ (convert 29 9 v).run Try.prog w' = .ok (.string (bstr [1, 97, 2, 98, 99, 0])) w') := Lib.hid (by
    refine (wire_any [97, 46, 98, 99] w).mono ?_
    rintro e w' ⟨v, rfl, h1, h2⟩
    have e1 : wireT [97, 46, 98, 99] = ([1, 97, 2, 98, 99, 0], 0) := by decide
    rw [e1] at h1
    exact ⟨v, by rw [e1], h2, h1.conv⟩)
  have U1 : Hid (∀ W, Below w.heap.size w W → Calls Try.prog 21 #[.string ⟨#[120, 46, 97, 46, 66, 67]⟩, .string ⟨#[65, 46, 98, 99]⟩] W fun e w' => e = .returned (.bool true) ∧ Below w.heap.size w w') := Lib.hid (fun W hW => by
    have h := under_any [120, 46, 97, 46, 66, 67] [65, 46, 98, 99] W
    have e1 : underL [120, 46, 97, 46, 66, 67] [65, 46, 98, 99] = true := by decide
    rw [e1] at h
    exact h.mono (by rintro e w' ⟨rfl, hb⟩; exact ⟨rfl, hW.trans (hb.mono hW.size)⟩))
  have U2 : Hid (∀ W, Below w.heap.size w W → Calls Try.prog 21 #[.string ⟨#[120, 97, 46, 98, 99]⟩, .string ⟨#[97, 46, 98, 99]⟩] W fun e w' => e = .returned (.bool false) ∧ Below w.heap.size w w') := Lib.hid (fun W hW => by
    have h := under_any [120, 97, 46, 98, 99] [97, 46, 98, 99] W
    have e1 : underL [120, 97, 46, 98, 99] [97, 46, 98, 99] = false := by decide
    rw [e1] at h
    exact h.mono (by rintro e w' ⟨rfl, hb⟩; exact ⟨rfl, hW.trans (hb.mono hW.size)⟩))
  have hs : (bstr [1, 97, 2, 98, 99, 0]) = (⟨#[1, 97, 2, 98, 99, 0]⟩ : ByteArray) := rfl
  rw [hs] at HW
  clear hs
  go_enter Try.func10, Try.ntmps10
  go_wp2_with (first
    | (go_at_call 23; (with_reducible refine HW.out.mono ?_); rintro e w1 ⟨v, rfl, hb1, hcv⟩)
    | (go_at_call 21; (with_reducible refine (U1.out _ hb1).mono ?_); rintro e w2 ⟨rfl, hb2⟩)
    | (go_at_call 21; (with_reducible refine (U2.out _ hb2).mono ?_); rintro e w3 ⟨rfl, hb3⟩))
  go_ret
  exact ⟨rfl, hb3⟩
end Go.Proofs.Ytjiiignbejbiiaa
