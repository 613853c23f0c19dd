/- Contract of Ints of the statements on span: two rows of the same numbers are the same. Conditions: fewer than 100000 numbers. -/
import Derived.Test.YtieeffebecghiaaDoorPSre
namespace Go.Proofs.YtieeffebecghiaaDoor
set_option maxRecDepth 100000
set_option maxHeartbeats 1000000
open Go.RowKit Go.Lib Go.Great

/-- The address A leads to the numbers L, in a block below B. -/
def NAt (w : World) (B : Nat) (A : Option Addr) (L : List Nat) : Prop := L = [] ∨ ∃ g off, A = some ⟨g, off, none⟩ ∧ g < B ∧ ∀ (j n : Nat), L[j]? = some n → w.cell? ⟨g, off + j, none⟩ = some (.int .i64 (n : Int))
section
variable {w w' : World} {B B' : Nat} {A : Option Addr} {L : List Nat}
theorem NAt.some_ (h : NAt w B A L) (hL : 0 < L.length) : ∃ g off, A = some ⟨g, off, none⟩ ∧ g < B ∧ ∀ (j n : Nat), L[j]? = some n → w.cell? ⟨g, off + j, none⟩ = some (.int .i64 (n : Int)) := by
  rcases h with rfl | h
  · simp at hL
  · exact h
/-- A row of one's own, as a slice. -/
theorem nat_own {base n : Nat} {v : Value} (h : w.ownsRow base 3 1 v n (intsL L)) : ∃ A c, v = .slice A L.length c ∧ L.length ≤ c ∧ NAt w w.heap.size A L := by
  have hl := h.1
  rw [intsL_length, Nat.mul_one] at hl
  rcases h.2 with ⟨rfl, h0⟩ | ⟨g, cap, cur, rfl, hb, hg, hc, _⟩
  · have hL : L = [] := List.eq_nil_of_length_eq_zero (by omega)
    subst hL
    exact ⟨none, 0, rfl, Nat.le_refl _, .inl rfl⟩
  · refine ⟨_, cap, by rw [hl], by omega, .inr ⟨g, 0, rfl, (Array.getElem?_eq_some_iff.1 hg).1, fun j m hm => ?_⟩⟩
    have := h.cells (g := g) rfl j (.int .i64 (m : Int)) (by simp [intsL, hm])
    rwa [Addr.add_mid] at this
end
end Go.Proofs.YtieeffebecghiaaDoor
