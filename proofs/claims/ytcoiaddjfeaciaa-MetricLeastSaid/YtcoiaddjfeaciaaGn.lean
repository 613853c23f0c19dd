/- Slices of bytes and numbers that come in, as lists. No condition. Ids that come in, as lists of 20 bytes. No condition. Slices of ids that come in, as lists. No condition. -/
import Derived.Test.YtcoiaddjfeaciaaGa
import Derived.ProofKit
import Derived.OpenShut
import Derived.Test.YtcoiaddjfeaciaaRows
import Derived.ChangeOld
import Derived.Test.YtcoiaddjfeaciaaGk
import Derived.Deep.Slices
section
namespace Go.Proofs.Ytcoiaddjfeaciaa
open Go.RowKit

/-- The bytes of a row of numbers that fit a byte. -/
def bytesOf (zs : List Int) : List UInt8 := zs.map fun n => UInt8.ofNat n.toNat
theorem wf_u8 {n : Int} (h : (Lit.int .u8 n).wf = true) : 0 ≤ n ∧ n ≤ 255 := by
  simp [Lit.wf, IntKind.min, IntKind.max, IntKind.bits, IntKind.signed] at h
  omega
theorem wf_u64 {n : Int} (h : (Lit.int .u64 n).wf = true) : 0 ≤ n ∧ n < 18446744073709551616 := by
  simp [Lit.wf, IntKind.min, IntKind.max, IntKind.bits, IntKind.signed] at h
  omega
theorem wf_i64 {n : Int} (h : (Lit.int .i64 n).wf = true) : -9223372036854775808 ≤ n ∧ n ≤ 9223372036854775807 := by
  simp [Lit.wf, IntKind.min, IntKind.max, IntKind.bits, IntKind.signed] at h
  omega
theorem bytes_of_row {w : World} {x : Addr} {len cap : Nat} {zs : List Int} (hl : len ≤ cap) (hz : zs.length = cap) (hcell : ∀ i, i < zs.length → w.cell? (x.add i) = some (.int .u8 (zs.getD i 0))) (hwf : ∀ n ∈ zs, (Lit.int .u8 n).wf = true) :
    ∃ xs : List UInt8, xs.length = len ∧ BAt w w.heap.size (some x) xs := by
  refine ⟨bytesOf (zs.take len), by simp [bytesOf]; omega, ?_⟩
  by_cases h0 : len = 0
  · left
    subst h0
    simp [bytesOf]
  · right
    obtain ⟨b, off, spot⟩ := x
    have hc := hcell 0 (by omega)
    have hspot : spot = none := by simpa [Addr.add] using World.cell?_spot hc
    subst hspot
    refine ⟨b, off, rfl, ?_, fun j hj => ?_⟩
    · have := World.block_lt_of_cell? w _ hc
      simpa [Addr.add] using this
    · have hj' : j < len := by simp [bytesOf] at hj; omega
      have hc := hcell j (by omega)
      have e : (⟨b, off, none⟩ : Addr).add j = ⟨b, off + j, none⟩ := by unfold Addr.add; split <;> simp_all
      rw [e] at hc
      rw [hc]
      have hw := wf_u8 (hwf (zs[j]'(by omega)) (List.getElem_mem _))
      have e1 : zs.getD j 0 = zs[j]'(by omega) := by simp [List.getD, List.getElem?_eq_getElem (show j < zs.length by omega)]
      rw [e1]
      simp only [bytesOf, List.getElem_map, List.getElem_take]
      congr 2
      simp
      omega
end Go.Proofs.Ytcoiaddjfeaciaa
end
section
namespace Go.Proofs.Ytcoiaddjfeaciaa
set_option maxRecDepth 100000
open Go.ChangeShapes Go.WideShapes Go.ChangeAt Go.RowKit

theorem cells_bytes {H : Type} {enc : TypeId × Value → H} {w : World} {base : Nat} {spare : Nat → Bool} {held : Bool} {fuel : Nat} {cs : List Value} {x : DataW H × List MemPlace} (h : DataW.trod enc Try.prog w base spare held fuel 26 cs = some x) : ∃ xs : List UInt8, xs.length = 20 ∧ cs = bcells xs := by
  have hu : Try.prog.underlying 26 = some (.array 20 5) := by kernel_rfl
  have hc5 : Try.prog.cellsOf 5 = 1 := by kernel_rfl
  have hc26 : Try.prog.cellsOf 26 = 20 := by kernel_rfl
  obtain ⟨ys, m, _, _, hl, hy, hi⟩ := DataW.trod_array hu h
  rw [hc26] at hl
  have hcell : ∀ i (hi20 : i < cs.length), ∃ n : Int, cs[i] = .int .u8 n ∧ 0 ≤ n ∧ n ≤ 255 := by
    intro i hi20
    have h1 := hi i (by omega)
    rw [hc5, Nat.mul_one] at h1
    rw [List.getElem?_eq_getElem (by omega)] at h1
    obtain ⟨n, he, _, hw⟩ := DataW.trod_int Try.underlying5 h1
    refine ⟨n, ?_, wf_u8 hw⟩
    rw [List.drop_eq_getElem_cons hi20, List.take_succ_cons, List.take_zero] at he
    injection he
  refine ⟨cs.map fun v => UInt8.ofNat (intOf v).toNat, by simpa using hl, ?_⟩
  apply List.ext_getElem
  · simp [bcells]
  · intro i h1 h2
    obtain ⟨n, e, n0, n1⟩ := hcell i h1
    have e2 : (bcells (cs.map fun v => UInt8.ofNat (intOf v).toNat))[i]'h2 = Value.int .u8 (((UInt8.ofNat (intOf cs[i]).toNat).toNat : Nat) : Int) := by simp [bcells]
    rw [e2, e]
    have e3 : (UInt8.ofNat (intOf (Value.int .u8 n)).toNat).toNat = n.toNat := by
      show (UInt8.ofNat n.toNat).toNat = n.toNat
      rw [UInt8.toNat_ofNat']
      omega
    rw [e3, Int.toNat_of_nonneg n0]
theorem open_id {H : Type} {enc : TypeId × Value → H} {w : World} {base b0 : Nat} {r : Reach} {spare : Nat → Bool} {held : Bool} {v : Value} {d : DataW H} {ps : List MemPlace} (hval : Value.okWide Try.prog w r b0 26 v) (hd : DataW.Trod enc Try.prog w base spare held 26 v d ps) :
    ∃ xs : List UInt8, xs.length = 20 ∧ v = .agg (bcells xs).toArray := by
  have hu : Try.prog.underlying 26 = some (.array 20 5) := by kernel_rfl
  simp only [Value.okWide, hu] at hval
  obtain ⟨cs, rfl, _⟩ := hval
  obtain ⟨fuel, hf⟩ := hd
  obtain ⟨xs, hx, he⟩ := cells_bytes hf
  refine ⟨xs, hx, ?_⟩
  have : cs.toList = bcells xs := by simpa [Value.cells] using he
  rw [← this]
end Go.Proofs.Ytcoiaddjfeaciaa
end
section
namespace Go.Proofs.Ytcoiaddjfeaciaa
set_option maxRecDepth 100000
open Go.ChangeShapes Go.WideShapes Go.ChangeAt Go.RowKit Go.Deep

theorem addr_add' (b o i : Nat) : (⟨b, o, none⟩ : Addr).add i = ⟨b, o + i, none⟩ := by unfold Addr.add; split <;> simp_all
theorem open_ids {H : Type} {enc : TypeId × Value → H} {W : World} {base : Nat} {sp : Nat → Bool} {hd : Bool} {a : Option Addr} {len cap : Nat} {d : DataW H} {p : List MemPlace} (h : DataW.Trod enc Try.prog W base sp hd 62 (.slice a len cap) d p) :
    ∃ L : List IDv, L.length = len ∧ IAt W W.heap.size a L ∧ len ≤ cap := by
  obtain ⟨fuel, hf⟩ := h
  have hc26 : Try.prog.cellsOf 26 = 20 := by kernel_rfl
  rcases open_slice und62 hf with ⟨hcs, _⟩ | ⟨x, l, c, m, n, D, Pl, hcs, _, hl, hm, hmm, _, hcell⟩
  · simp [Value.cells] at hcs
    obtain ⟨rfl, rfl, rfl⟩ := hcs
    exact ⟨[], rfl, .inl rfl, Nat.le_refl _⟩
  · simp [Value.cells] at hcs
    obtain ⟨rfl, rfl, rfl⟩ := hcs
    have hlm : len ≤ m := by rw [hmm]; split <;> omega
    obtain ⟨f, hf⟩ := choose_lt (α := IDv) (n := m) (p := fun i q => ∀ k, k < 20 → W.cell? ((x.add (i * 20)).add k) = (encID q)[k]?) (fun i hi => by
      obtain ⟨cs', c0, t0⟩ := hcell i hi
      rw [hc26] at c0
      obtain ⟨xs, hx, rfl⟩ := cells_bytes t0
      exact ⟨⟨xs, hx⟩, (World.cells?_some c0).2.2⟩)
    refine ⟨(List.range len).map f, by simp, ?_, hl⟩
    by_cases h0 : len = 0
    · left
      rw [h0]
      rfl
    · right
      have hget : ∀ i, i < len → ((List.range len).map f)[i]? = some (f i) := fun i hi => by simp [hi]
      obtain ⟨b, off, spot⟩ := x
      have hc0 : W.cell? (((⟨b, off, spot⟩ : Addr).add (0 * 20)).add 0) = some ((encID (f 0))[0]'(by rw [encID_length]; omega)) := by
        rw [hf 0 (by omega) 0 (by omega), List.getElem?_eq_getElem]
      have hspot : spot = none := by
        have := World.cell?_spot hc0
        simpa [Addr.add] using this
      subst hspot
      have e : ∀ i k, ((⟨b, off, none⟩ : Addr).add (i * 20)).add k = ⟨b, off + (i * 20 + k), none⟩ := fun i k => by rw [addr_add', addr_add', Nat.add_assoc]
      refine ⟨b, off, rfl, ?_, fun j v hv => ?_⟩
      · rw [e] at hc0
        exact World.block_lt_of_cell? W _ hc0
      · have hj : j < len * 20 := by
          have := (List.getElem?_eq_some_iff.1 hv).1
          rw [flatI_length] at this
          simpa using this
        have h1 := hf (j / 20) (by omega) (j % 20) (Nat.mod_lt _ (by omega))
        rw [e, show j / 20 * 20 + j % 20 = j by omega] at h1
        rw [h1]
        have h2 := flatI_get (hget (j / 20) (by omega)) (j % 20) (Nat.mod_lt _ (by omega))
        rw [show j / 20 * 20 + j % 20 = j by omega, hv] at h2
        exact h2.symm
end Go.Proofs.Ytcoiaddjfeaciaa
end
