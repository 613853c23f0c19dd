/- Slices of bytes and numbers that come in, as lists. No condition. -/
import Derived.Test.YtjiiignbejbiiaaXLla
import Derived.Test.YtjiiignbejbiiaaRows
import Derived.ProofKit
import Derived.OpenShut
import Derived.ChangeOld
import Derived.SizedLaws
namespace Go.Proofs.Ytjiiignbejbiiaa
set_option maxRecDepth 100000
set_option linter.unusedVariables false
open Go.ChangeShapes Go.WideShapes Go.ChangeAt Go.RowKit

theorem wf_u8 {n : Int} (h : (Lit.int .u8 n).wf = true) : 0 ≤ n ∧ n ≤ 255 := by
  simp [Lit.wf, IntKind.min, IntKind.max, IntKind.bits, IntKind.signed] at h
  omega
/-- The bytes of a row of numbers that fit a byte. -/
def bytesOf (zs : List Int) : List UInt8 := zs.map fun n => UInt8.ofNat n.toNat
theorem wf_u64 {n : Int} (h : (Lit.int .u64 n).wf = true) : 0 ≤ n ∧ n < 18446744073709551616 := by
  simp [Lit.wf, IntKind.min, IntKind.max, IntKind.bits, IntKind.signed] at h
  omega
theorem wf_i64 {n : Int} (h : (Lit.int .i64 n).wf = true) : -9223372036854775808 ≤ n ∧ n ≤ 9223372036854775807 := by
  simp [Lit.wf, IntKind.min, IntKind.max, IntKind.bits, IntKind.signed] at h
  omega
theorem bytes_of_row {w : World} {x : Addr} {len cap : Nat} {zs : List Int} (hl : len ≤ cap) (hz : zs.length = cap) (hcell : ∀ i, i < zs.length → w.cell? (x.add i) = some (.int .u8 (zs.getD i 0))) (hwf : ∀ n ∈ zs, (Lit.int .u8 n).wf = true) :
    ∃ xs : List UInt8, xs.length = len ∧ BAt w w.heap.size (some x) xs := by
  refine ⟨bytesOf (zs.take len), by simp [bytesOf]; omega, ?_⟩
  by_cases h0 : len = 0
  · left
    subst h0
    simp [bytesOf]
  · right
    obtain ⟨b, off, spot⟩ := x
    have hc := hcell 0 (by omega)
    have hspot : spot = none := by simpa [Addr.add] using World.cell?_spot hc
    subst hspot
    refine ⟨b, off, rfl, ?_, fun j hj => ?_⟩
    · have := World.block_lt_of_cell? w _ hc
      simpa [Addr.add] using this
    · have hj' : j < len := by simp [bytesOf] at hj; omega
      have hc := hcell j (by omega)
      have e : (⟨b, off, none⟩ : Addr).add j = ⟨b, off + j, none⟩ := by unfold Addr.add; split <;> simp_all
      rw [e] at hc
      rw [hc]
      have hw := wf_u8 (hwf (zs[j]'(by omega)) (List.getElem_mem _))
      have e1 : zs.getD j 0 = zs[j]'(by omega) := by simp [List.getD, List.getElem?_eq_getElem (show j < zs.length by omega)]
      rw [e1]
      simp only [bytesOf, List.getElem_map, List.getElem_take]
      congr 2
      simp
      omega
section
variable {H : Type} {enc : TypeId × Value → H} {W : World} {base : Nat} {sp : Nat → Bool} {hd : Bool} {a : Option Addr} {len cap : Nat} {d : DataW H} {p : List MemPlace}
theorem open_one {fuel : Nat} {V : Value} {x : DataW H × List MemPlace} (h : DataW.trod enc Try.prog W base sp hd fuel 29 [V] = some x) : ∃ (A : Option Addr) (xs : List UInt8) (c : Nat), V = .slice A xs.length c ∧ BAt W W.heap.size A xs ∧ xs.length ≤ c := by
  rcases open_ints Try.underlying29 Try.underlying5 (by kernel_rfl) h with ⟨hcs, _⟩ | ⟨x, l, c, zs, hcs, _, hl, hm, hz, _, hcell, hwz⟩
  · simp only [List.cons.injEq, and_true] at hcs
    exact ⟨none, [], 0, hcs, .inl rfl, Nat.le_refl _⟩
  · simp only [List.cons.injEq, and_true] at hcs
    obtain ⟨xs, h1, h2⟩ := bytes_of_row (len := l) (cap := zs.length) (by rw [hz]; split <;> omega) rfl hcell hwz
    exact ⟨some x, xs, c, by rw [hcs, h1], h2, by omega⟩
theorem open_bytes (h : DataW.Trod enc Try.prog W base sp hd 29 (.slice a len cap) d p) : ∃ xs : List UInt8, xs.length = len ∧ BAt W W.heap.size a xs ∧ len ≤ cap := by
  obtain ⟨fuel, hf⟩ := h
  obtain ⟨A, xs, c, hV, hb, hc⟩ := open_one (V := .slice a len cap) (by simpa [Value.cells] using hf)
  simp only [Value.slice.injEq] at hV
  obtain ⟨rfl, rfl, rfl⟩ := hV
  exact ⟨xs, rfl, hb, hc⟩
theorem bytes_sized (h : DataW.Trod enc Try.prog W base sp hd 29 (.slice a len cap) d p) : len = 0 ∨ ∃ es sps, d = .slice es sps ∧ es.length = len := by
  obtain ⟨fuel, hf⟩ := h
  have hf' : DataW.trod enc Try.prog W base sp hd fuel 29 [.slice a len cap] = some (d, p) := by simpa [Value.cells] using hf
  rcases open_ints Try.underlying29 Try.underlying5 (by kernel_rfl) hf' with ⟨hcs, _⟩ | ⟨x, l, c, zs, hcs, _, hl, hm, hz, hx, _, _⟩
  · simp only [List.cons.injEq, and_true, Value.slice.injEq] at hcs
    exact .inl hcs.2.1
  · simp only [List.cons.injEq, and_true, Value.slice.injEq] at hcs
    obtain ⟨rfl, rfl, rfl⟩ := hcs
    right
    injection hx with hx _
    refine ⟨_, _, hx, ?_⟩
    simp only [lits, List.length_map, List.length_take]
    rw [hz]
    split <;> omega
theorem str_data {s : ByteArray} (h : DataW.Trod enc Try.prog W base sp hd 9 (.string s) d p) : d = .lit (.string s.data.toList) := by
  obtain ⟨fuel, hf⟩ := h
  have hf' : DataW.trod enc Try.prog W base sp hd fuel 9 [.string s] = some (d, p) := by simpa [Value.cells] using hf
  obtain ⟨s', e1, e2, _⟩ := DataW.trod_string Try.underlying9 hf'
  simp only [List.cons.injEq, and_true, Value.string.injEq] at e1
  subst e1
  injection e2
end
theorem str_list (s : ByteArray) : ∃ xs : List UInt8, s = bstr xs := ⟨s.data.toList, by simp [bstr]⟩

end Go.Proofs.Ytjiiignbejbiiaa
