/- Slices of bools that come in, as lists. No condition. -/
import Derived.Test.YtkebgcalphajhaaRag
import Derived.Deep.Slices
import Derived.ProofKit
import Derived.OpenShut
import Derived.ChangeOld
namespace Go.Proofs.Ytkebgcalphajhaa
set_option maxRecDepth 100000
open Go.ChangeShapes Go.WideShapes Go.ChangeAt Go.RowKit Go.Deep
theorem addr_add' (b o i : Nat) : (⟨b, o, none⟩ : Addr).add i = ⟨b, o + i, none⟩ := by unfold Addr.add; split <;> simp_all
section
variable {H : Type} {enc : TypeId × Value → H} {W : World} {base : Nat} {sp : Nat → Bool} {hd : Bool} {a : Option Addr} {len cap : Nat} {d : DataW H} {p : List MemPlace}
theorem open_bl (h : DataW.Trod enc Try.prog W base sp hd 68 (.slice a len cap) d p) : ∃ T : List Bool, T.length = len ∧ BoolsAt W a T := by
  obtain ⟨fuel, hf⟩ := h
  have hc4 : Try.prog.cellsOf 4 = 1 := by kernel_rfl
  have u68 : Try.prog.underlying 68 = some (.slice 4) := by kernel_rfl
  have u4 : Try.prog.underlying 4 = some .bool := by kernel_rfl
  rcases open_slice1 u68 hc4 hf with ⟨hcs, _⟩ | ⟨x, l, c, m, n, V, D, Pl, hcs, _, hl, hm, hmm, _, hcell⟩
  · simp [Value.cells] at hcs
    obtain ⟨rfl, rfl, rfl⟩ := hcs
    exact ⟨[], rfl, .inl rfl⟩
  · simp [Value.cells] at hcs
    obtain ⟨rfl, rfl, rfl⟩ := hcs
    have hlm : len ≤ m := by rw [hmm]; split <;> omega
    obtain ⟨f, hf⟩ := choose_lt (α := Bool) (n := m) (p := fun i b => W.cell? (x.add i) = some (.bool b)) (fun i hi => by
      obtain ⟨b, h1, _⟩ := DataW.trod_bool u4 (hcell i hi).2
      simp only [List.cons.injEq, and_true] at h1
      exact ⟨b, by rw [(hcell i hi).1, h1]⟩)
    refine ⟨(List.range len).map f, by simp, ?_⟩
    by_cases h0 : len = 0
    · left
      rw [h0]
      rfl
    · right
      obtain ⟨b, off, spot⟩ := x
      have hc0 := hf 0 (by omega)
      have hspot : spot = none := by
        have := World.cell?_spot hc0
        simpa [Addr.add] using this
      subst hspot
      refine ⟨b, off, rfl, ?_, fun j hj => ?_⟩
      · rw [addr_add'] at hc0
        exact World.block_lt_of_cell? W _ hc0
      · have hj' : j < len := by simpa using hj
        have q := hf j (by omega)
        rw [addr_add'] at q
        rw [q, getElem!_pos ((List.range len).map f) j hj]
        simp
end
end Go.Proofs.Ytkebgcalphajhaa
