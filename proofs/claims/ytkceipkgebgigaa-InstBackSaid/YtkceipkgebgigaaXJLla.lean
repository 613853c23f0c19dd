/- What the statements of label lean on: contracts in one form, and the chapter's examples. Conditions: at most 50,000 bytes. -/
import Derived.Test.YtkceipkgebgigaaProg
import Derived.Test.YtkceipkgebgigaaXJLcl
import Derived.Test.YtkceipkgebgigaaXJLra
import Derived.Deep.Cut
import Derived.Deep.QuietTactic
namespace Go.Proofs.Ytkceipkgebgigaa
open Go.Shelf Go.RowKit Go.Lib Go.Great
set_option maxRecDepth 100000
set_option maxHeartbeats 1000000
/-- A slice of bytes. -/
def IsB (v : Value) (xs : List UInt8) (w : World) : Prop := ∃ A c, v = .slice A xs.length c ∧ xs.length ≤ c ∧ BAt w w.heap.size A xs
theorem IsB.of_own {base : Nat} {v : Value} {xs : List UInt8} {w : World} (h : w.ownsRow base 5 1 v xs.length (bcells xs)) : IsB v xs w := by
  have h2 := h
  rcases h.2 with ⟨hv, hn⟩ | ⟨g, cap, cur, hv, hb, hg, hn, _⟩
  · subst hv
    exact ⟨none, 0, by rw [hn], by omega, .inl (List.eq_nil_of_length_eq_zero hn)⟩
  · subst hv
    exact ⟨_, cap, rfl, hn, BAt.of_own h2 (Nat.le_refl _)⟩
theorem IsB.below {v : Value} {xs : List UInt8} {w w' : World} (h : IsB v xs w) (hb : Below w.heap.size w w') : IsB v xs w' := by
  obtain ⟨A, c, h1, h2, h3⟩ := h
  exact ⟨A, c, h1, h2, (h3.below hb).more hb.size⟩
theorem IsB.conv {v : Value} {xs : List UInt8} {w : World} (h : IsB v xs w) : (convert 30 9 v).run Try.prog w = .ok (.string (bstr xs)) w := by
  obtain ⟨A, c, rfl, _, h3⟩ := h
  exact run_convert_bat (P := Try.prog) 30 9 5 c Try.underlying30 Try.underlying5 Try.underlying9 h3
end Go.Proofs.Ytkceipkgebgigaa
