/- Slices of ticks that come in, as lists. No condition. -/
import Derived.Test.YtehgpnnfjgmiiaaKab
import Derived.Test.YtehgpnnfjgmiiaaRows
import Derived.ProofKit
import Derived.OpenShut
import Derived.ChangeOld
namespace Go.Proofs.Ytehgpnnfjgmiiaa
set_option maxRecDepth 100000
open Go.ChangeShapes Go.WideShapes Go.ChangeAt Go.RowKit
theorem wf_u64 {n : Int} (h : (Lit.int .u64 n).wf = true) : 0 ≤ n ∧ n < 18446744073709551616 := by
  simp [Lit.wf, IntKind.min, IntKind.max, IntKind.bits, IntKind.signed] at h
  omega
theorem ticks_of_row {w : World} {x : Addr} {len cap : Nat} {zs : List Int} (hl : len ≤ cap) (hz : zs.length = cap) (hcell : ∀ i, i < zs.length → w.cell? (x.add i) = some (.int .u64 (zs.getD i 0))) (hwf : ∀ n ∈ zs, (Lit.int .u64 n).wf = true) :
    ∃ L : List Nat, L.length = len ∧ UAt w w.heap.size (some x) L ∧ ∀ j, j < L.length → L[j]! < 18446744073709551616 := by
  have hget : ∀ j, j < len → ((zs.take len).map Int.toNat)[j]! = (zs.getD j 0).toNat := fun j hj => by
    have h1 : j < ((zs.take len).map Int.toNat).length := by simp; omega
    rw [getElem!_pos _ j h1]
    simp [List.getD, List.getElem?_eq_getElem (show j < zs.length by omega)]
  have hb : ∀ j, j < len → 0 ≤ zs.getD j 0 ∧ zs.getD j 0 < 18446744073709551616 := fun j hj => by
    have e1 : zs.getD j 0 = zs[j]'(by omega) := by simp [List.getD, List.getElem?_eq_getElem (show j < zs.length by omega)]
    rw [e1]
    exact wf_u64 (hwf _ (List.getElem_mem _))
  have hlen : ((zs.take len).map Int.toNat).length = len := by simp; omega
  refine ⟨(zs.take len).map Int.toNat, hlen, ?_, fun j hj => ?_⟩
  · by_cases h0 : len = 0
    · left
      subst h0
      simp
    · right
      obtain ⟨b, off, spot⟩ := x
      have hc := hcell 0 (by omega)
      have hspot : spot = none := by simpa [Addr.add] using World.cell?_spot hc
      subst hspot
      refine ⟨b, off, rfl, ?_, fun j hj => ?_⟩
      · have := World.block_lt_of_cell? w _ hc
        simpa [Addr.add] using this
      · rw [hlen] at hj
        have hc := hcell j (by omega)
        have e : (⟨b, off, none⟩ : Addr).add j = ⟨b, off + j, none⟩ := by unfold Addr.add; split <;> simp_all
        rw [e] at hc
        rw [hc, hget j hj]
        have := hb j hj
        congr 2
        omega
  · rw [hlen] at hj
    rw [hget j hj]
    have := hb j hj
    omega
section
variable {H : Type} {enc : TypeId × Value → H} {W : World} {base : Nat} {sp : Nat → Bool} {hd : Bool} {a : Option Addr} {len cap : Nat} {d : DataW H} {p : List MemPlace}
theorem open_ticks (h : DataW.Trod enc Try.prog W base sp hd 23 (.slice a len cap) d p) : ∃ L : List Nat, L.length = len ∧ UAt W W.heap.size a L ∧ ∀ j, j < L.length → L[j]! < 18446744073709551616 := by
  obtain ⟨fuel, hf⟩ := h
  have hf' : DataW.trod enc Try.prog W base sp hd fuel 23 [.slice a len cap] = some (d, p) := by simpa [Value.cells] using hf
  rcases open_ints Try.underlying23 Try.underlying22 (by kernel_rfl) hf' with ⟨hcs, _⟩ | ⟨x, l, c, zs, hcs, _, hl, hm, hz, _, hcell, hwz⟩
  · simp only [List.cons.injEq, and_true, Value.slice.injEq] at hcs
    obtain ⟨rfl, rfl, rfl⟩ := hcs
    exact ⟨[], rfl, .inl rfl, fun j hj => absurd hj (by simp)⟩
  · simp only [List.cons.injEq, and_true, Value.slice.injEq] at hcs
    obtain ⟨rfl, rfl, rfl⟩ := hcs
    exact ticks_of_row (len := len) (cap := zs.length) (by rw [hz]; split <;> omega) rfl hcell hwz
end
end Go.Proofs.Ytehgpnnfjgmiiaa
