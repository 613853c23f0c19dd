/- Words on slices of bytes for the walks of this seat: plain lemmas on memory, over any program. No condition. -/
import Derived.WalkKit
import Derived.Deep.AppendSrc
import Derived.Laws.BytesString
import Derived.Laws.CopyOwn
import Derived.Deep.AppendLies
import Derived.Deep.Draws
import Derived.WalkSpells
namespace Go.Proofs.Ytbfhfnbhfeedbaa
set_option maxRecDepth 100000
open Go.RowKit

/-- Bytes as cells. -/
def bcells (xs : List UInt8) : List Value := xs.map fun c => Value.int .u8 c.toNat
theorem bcells_length (xs : List UInt8) : (bcells xs).length = xs.length := by simp [bcells]
theorem bcells_get (xs : List UInt8) (j : Nat) (h : j < xs.length) : (bcells xs)[j]? = some (.int .u8 (xs[j].toNat : Int)) := by
  simp [bcells, h]

/-- The address A leads to the bytes xs, in a block below B (nothing is asked of an empty list). -/
def BAt (w : World) (B : Nat) (A : Option Addr) (xs : List UInt8) : Prop :=
  xs = [] ∨ ∃ g off, A = some ⟨g, off, none⟩ ∧ g < B ∧ ∀ j (h : j < xs.length), w.cell? ⟨g, off + j, none⟩ = some (.int .u8 (xs[j].toNat : Int))

section
variable {w w' : World} {B B' : Nat} {A : Option Addr} {xs : List UInt8}
theorem BAt.some_ (h : BAt w B A xs) (hx : 0 < xs.length) : ∃ g off, A = some ⟨g, off, none⟩ ∧ g < B ∧ ∀ j (h : j < xs.length), w.cell? ⟨g, off + j, none⟩ = some (.int .u8 (xs[j].toNat : Int)) := by
  rcases h with rfl | h
  · simp at hx
  · exact h
theorem BAt.keep (h : BAt w B A xs) (hk : ∀ p : Addr, p.block < B → w'.cell? p = w.cell? p) : BAt w' B A xs := by
  rcases h with rfl | ⟨g, off, rfl, hg, hc⟩
  · exact .inl rfl
  · exact .inr ⟨g, off, rfl, hg, fun j hj => (hk _ hg).trans (hc j hj)⟩
theorem BAt.more (h : BAt w B A xs) (hB : B ≤ B') : BAt w B' A xs := by
  rcases h with rfl | ⟨g, off, rfl, hg, hc⟩
  · exact .inl rfl
  · exact .inr ⟨g, off, rfl, by omega, hc⟩
theorem BAt.below (h : BAt w B A xs) (hb : Below B w w') : BAt w' B A xs := h.keep fun _ hp => hb.cell hp
theorem BAt.cells (h : BAt w B A xs) : 0 < (bcells xs).length → ∃ ad, A = some ad ∧ ∀ j v, (bcells xs)[j]? = some v → w.cell? (ad.add j) = some v := by
  intro hp
  rcases h with rfl | ⟨g, off, rfl, hg, hc⟩
  · simp [bcells] at hp
  · refine ⟨_, rfl, fun j u hu => ?_⟩
    have hj : j < xs.length := by
      have := (List.getElem?_eq_some_iff.1 hu).1
      rwa [bcells_length] at this
    rw [bcells_get xs j hj] at hu
    rw [← hu, ← hc j hj]
    congr 1
    unfold Addr.add
    split <;> simp_all

end

end Go.Proofs.Ytbfhfnbhfeedbaa
