/- Slices of bytes and numbers that come in, as lists. No condition. Contacts, slices of contacts, and ids that come in. No condition. -/
import Derived.Test.YtbfhfnbhfeedbaaXDse
import Derived.Test.YtbfhfnbhfeedbaaRows
import Derived.ProofKit
import Derived.OpenShut
import Derived.ChangeOld
import Derived.Test.YtbfhfnbhfeedbaaXCda
import Derived.Deep.Slices
import Derived.Deep.Strs
import Derived.SizedLaws
section
namespace Go.Proofs.Ytbfhfnbhfeedbaa
set_option maxRecDepth 100000
set_option linter.unusedVariables false
open Go.ChangeShapes Go.WideShapes Go.ChangeAt Go.RowKit

theorem wf_u8 {n : Int} (h : (Lit.int .u8 n).wf = true) : 0 ≤ n ∧ n ≤ 255 := by
  simp [Lit.wf, IntKind.min, IntKind.max, IntKind.bits, IntKind.signed] at h
  omega
/-- The bytes of a row of numbers that fit a byte. -/
def bytesOf (zs : List Int) : List UInt8 := zs.map fun n => UInt8.ofNat n.toNat
theorem wf_u64 {n : Int} (h : (Lit.int .u64 n).wf = true) : 0 ≤ n ∧ n < 18446744073709551616 := by
  simp [Lit.wf, IntKind.min, IntKind.max, IntKind.bits, IntKind.signed] at h
  omega
theorem wf_i64 {n : Int} (h : (Lit.int .i64 n).wf = true) : -9223372036854775808 ≤ n ∧ n ≤ 9223372036854775807 := by
  simp [Lit.wf, IntKind.min, IntKind.max, IntKind.bits, IntKind.signed] at h
  omega
theorem bytes_of_row {w : World} {x : Addr} {len cap : Nat} {zs : List Int} (hl : len ≤ cap) (hz : zs.length = cap) (hcell : ∀ i, i < zs.length → w.cell? (x.add i) = some (.int .u8 (zs.getD i 0))) (hwf : ∀ n ∈ zs, (Lit.int .u8 n).wf = true) :
    ∃ xs : List UInt8, xs.length = len ∧ BAt w w.heap.size (some x) xs := by
  refine ⟨bytesOf (zs.take len), by simp [bytesOf]; omega, ?_⟩
  by_cases h0 : len = 0
  · left
    subst h0
    simp [bytesOf]
  · right
    obtain ⟨b, off, spot⟩ := x
    have hc := hcell 0 (by omega)
    have hspot : spot = none := by simpa [Addr.add] using World.cell?_spot hc
    subst hspot
    refine ⟨b, off, rfl, ?_, fun j hj => ?_⟩
    · have := World.block_lt_of_cell? w _ hc
      simpa [Addr.add] using this
    · have hj' : j < len := by simp [bytesOf] at hj; omega
      have hc := hcell j (by omega)
      have e : (⟨b, off, none⟩ : Addr).add j = ⟨b, off + j, none⟩ := by unfold Addr.add; split <;> simp_all
      rw [e] at hc
      rw [hc]
      have hw := wf_u8 (hwf (zs[j]'(by omega)) (List.getElem_mem _))
      have e1 : zs.getD j 0 = zs[j]'(by omega) := by simp [List.getD, List.getElem?_eq_getElem (show j < zs.length by omega)]
      rw [e1]
      simp only [bytesOf, List.getElem_map, List.getElem_take]
      congr 2
      simp
      omega
section
variable {H : Type} {enc : TypeId × Value → H} {W : World} {base : Nat} {sp : Nat → Bool} {hd : Bool} {a : Option Addr} {len cap : Nat} {d : DataW H} {p : List MemPlace}
theorem open_one {fuel : Nat} {V : Value} {x : DataW H × List MemPlace} (h : DataW.trod enc Try.prog W base sp hd fuel 22 [V] = some x) : ∃ (A : Option Addr) (xs : List UInt8) (c : Nat), V = .slice A xs.length c ∧ BAt W W.heap.size A xs ∧ xs.length ≤ c := by
  rcases open_ints Try.underlying22 Try.underlying5 (by kernel_rfl) h with ⟨hcs, _⟩ | ⟨x, l, c, zs, hcs, _, hl, hm, hz, _, hcell, hwz⟩
  · simp only [List.cons.injEq, and_true] at hcs
    exact ⟨none, [], 0, hcs, .inl rfl, Nat.le_refl _⟩
  · simp only [List.cons.injEq, and_true] at hcs
    obtain ⟨xs, h1, h2⟩ := bytes_of_row (len := l) (cap := zs.length) (by rw [hz]; split <;> omega) rfl hcell hwz
    exact ⟨some x, xs, c, by rw [hcs, h1], h2, by omega⟩
theorem open_bytes (h : DataW.Trod enc Try.prog W base sp hd 22 (.slice a len cap) d p) : ∃ xs : List UInt8, xs.length = len ∧ BAt W W.heap.size a xs ∧ len ≤ cap := by
  obtain ⟨fuel, hf⟩ := h
  obtain ⟨A, xs, c, hV, hb, hc⟩ := open_one (V := .slice a len cap) (by simpa [Value.cells] using hf)
  simp only [Value.slice.injEq] at hV
  obtain ⟨rfl, rfl, rfl⟩ := hV
  exact ⟨xs, rfl, hb, hc⟩
end

end Go.Proofs.Ytbfhfnbhfeedbaa
end
section
namespace Go.Proofs.Ytbfhfnbhfeedbaa
set_option maxRecDepth 100000
open Go.ChangeShapes Go.WideShapes Go.ChangeAt Go.RowKit Go.Deep
theorem wf_u32 {n : Int} (h : (Lit.int .u32 n).wf = true) : 0 ≤ n ∧ n < 4294967296 := by
  simp [Lit.wf, IntKind.min, IntKind.max, IntKind.bits, IntKind.signed] at h
  omega
theorem wf_u16 {n : Int} (h : (Lit.int .u16 n).wf = true) : 0 ≤ n ∧ n < 65536 := by
  simp [Lit.wf, IntKind.min, IntKind.max, IntKind.bits, IntKind.signed] at h
  omega
theorem addr_addC (b o i : Nat) : (⟨b, o, none⟩ : Addr).add i = ⟨b, o + i, none⟩ := by unfold Addr.add; split <;> simp_all
theorem cells_bytes {H : Type} {enc : TypeId × Value → H} {w : World} {base : Nat} {spare : Nat → Bool} {held : Bool} {fuel : Nat} {cs : List Value} {x : DataW H × List MemPlace} (h : DataW.trod enc Try.prog w base spare held fuel 55 cs = some x) : ∃ xs : List UInt8, xs.length = 20 ∧ cs = bcells xs := by
  have hu : Try.prog.underlying 55 = some (.array 20 5) := by kernel_rfl
  have hc5 : Try.prog.cellsOf 5 = 1 := by kernel_rfl
  have hc26 : Try.prog.cellsOf 55 = 20 := by kernel_rfl
  obtain ⟨ys, m, _, _, hl, hy, hi⟩ := DataW.trod_array hu h
  rw [hc26] at hl
  have hcell : ∀ i (hi20 : i < cs.length), ∃ n : Int, cs[i] = .int .u8 n ∧ 0 ≤ n ∧ n ≤ 255 := by
    intro i hi20
    have h1 := hi i (by omega)
    rw [hc5, Nat.mul_one] at h1
    rw [List.getElem?_eq_getElem (by omega)] at h1
    obtain ⟨n, he, _, hw⟩ := DataW.trod_int Try.underlying5 h1
    refine ⟨n, ?_, wf_u8 hw⟩
    rw [List.drop_eq_getElem_cons hi20, List.take_succ_cons, List.take_zero] at he
    injection he
  refine ⟨cs.map fun v => UInt8.ofNat (RowKit.intOf v).toNat, by simpa using hl, ?_⟩
  apply List.ext_getElem
  · simp [bcells]
  · intro i h1 h2
    obtain ⟨n, e, n0, n1⟩ := hcell i h1
    have e2 : (bcells (cs.map fun v => UInt8.ofNat (RowKit.intOf v).toNat))[i]'h2 = Value.int .u8 (((UInt8.ofNat (RowKit.intOf cs[i]).toNat).toNat : Nat) : Int) := by simp [bcells]
    rw [e2, e]
    have e3 : (UInt8.ofNat (RowKit.intOf (Value.int .u8 n)).toNat).toNat = n.toNat := by
      show (UInt8.ofNat n.toNat).toNat = n.toNat
      rw [UInt8.toNat_ofNat']
      omega
    rw [e3, Int.toNat_of_nonneg n0]
theorem open_id {H : Type} {enc : TypeId × Value → H} {w : World} {base b0 : Nat} {r : Reach} {spare : Nat → Bool} {held : Bool} {v : Value} {d : DataW H} {ps : List MemPlace} (hval : Value.okWide Try.prog w r b0 55 v) (hd : DataW.Trod enc Try.prog w base spare held 55 v d ps) :
    ∃ t : IDv, v = .agg (encID t).toArray := by
  have hu : Try.prog.underlying 55 = some (.array 20 5) := by kernel_rfl
  simp only [Value.okWide, hu] at hval
  obtain ⟨cs, rfl, _⟩ := hval
  obtain ⟨fuel, hf⟩ := hd
  obtain ⟨xs, hx, he⟩ := cells_bytes hf
  refine ⟨⟨xs, hx⟩, ?_⟩
  have : cs.toList = bcells xs := by simpa [Value.cells] using he
  unfold encID
  rw [← this]
theorem cells_con {H : Type} {enc : TypeId × Value → H} {w : World} {base : Nat} {spare : Nat → Bool} {held : Bool} {fuel : Nat} {cs : List Value} {x : DataW H × List MemPlace} (h : DataW.trod enc Try.prog w base spare held fuel 60 cs = some x) : ∃ c : Con, cs = encC c := by
  have hu : Try.prog.underlying 60 = some (.struct #[⟨"ID", 55, 0, false, "", "", 0⟩, ⟨"Addr", 58, 20, false, "", "", 20⟩]) := by kernel_rfl
  have hu2 : Try.prog.underlying 58 = some (.struct #[⟨"Host", 34, 0, false, "", "", 0⟩, ⟨"Port", 56, 1, false, "", "", 4⟩]) := by kernel_rfl
  have c60 : Try.prog.cellsOf 60 = 22 := by kernel_rfl
  have c55 : Try.prog.cellsOf 55 = 20 := by kernel_rfl
  have c58 : Try.prog.cellsOf 58 = 2 := by kernel_rfl
  have c34 : Try.prog.cellsOf 34 = 1 := by kernel_rfl
  have c56 : Try.prog.cellsOf 56 = 1 := by kernel_rfl
  obtain ⟨y0, y1, m, _, hl, t0, t1⟩ := trod_struct2 hu h
  rw [c60] at hl
  simp only [c55, List.drop_zero] at t0
  simp only [c58] at t1
  obtain ⟨xs, hx, e0⟩ := cells_bytes t0
  obtain ⟨z0, z1, m2, _, hl2, u0, u1⟩ := trod_struct2 hu2 t1
  simp only [c34, List.drop_zero] at u0
  simp only [c56] at u1
  obtain ⟨a, ea, _, wa⟩ := DataW.trod_int (k := .u32) (by kernel_rfl) u0
  obtain ⟨b, eb, _, wb⟩ := DataW.trod_int (k := .u16) (by kernel_rfl) u1
  have ha := wf_u32 wa
  have hb := wf_u16 wb
  refine ⟨⟨(xs, a.toNat, b.toNat), ⟨hx, by show a.toNat < _; omega, by show b.toNat < _; omega⟩⟩, ?_⟩
  have e1 : cs = cs.take 20 ++ ((cs.drop 20).take 2) := by
    have h2 : (cs.drop 20).take 2 = cs.drop 20 := List.take_of_length_le (by rw [List.length_drop]; omega)
    rw [h2, List.take_append_drop]
  have e2 : (cs.drop 20).take 2 = [.int .u32 a, .int .u16 b] := by
    obtain ⟨q, hq⟩ : ∃ q, q = (cs.drop 20).take 2 := ⟨_, rfl⟩
    rw [← hq] at ea eb ⊢
    have hq2 : q.length = 2 := by rw [hq, List.length_take, List.length_drop]; omega
    match q, hq2 with
    | [q0, q1], _ =>
      simp only [List.take_succ_cons, List.take_zero, List.drop_succ_cons, List.drop_zero, List.cons.injEq, and_true] at ea eb
      rw [ea, eb]
  unfold encC
  simp only
  rw [e1, e0, e2, Int.toNat_of_nonneg ha.1, Int.toNat_of_nonneg hb.1]
theorem open_con {H : Type} {enc : TypeId × Value → H} {w : World} {base b0 : Nat} {r : Reach} {spare : Nat → Bool} {held : Bool} {v : Value} {d : DataW H} {ps : List MemPlace} (hval : Value.okWide Try.prog w r b0 60 v) (hd : DataW.Trod enc Try.prog w base spare held 60 v d ps) :
    ∃ c : Con, v = .agg (encC c).toArray := by
  obtain ⟨cs, rfl, _⟩ := okWide_struct Try.underlying60 hval
  obtain ⟨fuel, hf⟩ := hd
  obtain ⟨c, he⟩ := cells_con hf
  refine ⟨c, ?_⟩
  have : cs.toList = encC c := by simpa [Value.cells] using he
  rw [← this]
theorem und61 : Try.prog.underlying 61 = some (.slice 60) := by kernel_rfl
theorem open_cons {H : Type} {enc : TypeId × Value → H} {W : World} {base : Nat} {sp : Nat → Bool} {hd : Bool} {a : Option Addr} {len cap : Nat} {d : DataW H} {p : List MemPlace} (h : DataW.Trod enc Try.prog W base sp hd 61 (.slice a len cap) d p) :
    ∃ L : List Con, L.length = len ∧ CAt W W.heap.size a L := by
  obtain ⟨fuel, hf⟩ := h
  have hc26 : Try.prog.cellsOf 60 = 22 := by kernel_rfl
  rcases open_slice und61 hf with ⟨hcs, _⟩ | ⟨x, l, c, m, n, D, Pl, hcs, _, hl, hm, hmm, hsp, hcell⟩
  · simp [Value.cells] at hcs
    obtain ⟨rfl, rfl, rfl⟩ := hcs
    exact ⟨[], rfl, .inl rfl⟩
  · simp [Value.cells] at hcs
    obtain ⟨rfl, rfl, rfl⟩ := hcs
    have hlm : len ≤ m := by rw [hmm]; split <;> omega
    obtain ⟨f, hf⟩ := choose_lt (α := Con) (n := m) (p := fun i q => ∀ k, k < 22 → W.cell? ((x.add (i * 22)).add k) = (encC q)[k]?) (fun i hi => by
      obtain ⟨cs', c0, t0⟩ := hcell i hi
      rw [hc26] at c0
      obtain ⟨q, rfl⟩ := cells_con t0
      exact ⟨q, (World.cells?_some c0).2.2⟩)
    refine ⟨(List.range len).map f, by simp, ?_⟩
    by_cases h0 : len = 0
    · left
      rw [h0]
      rfl
    · right
      have hget : ∀ i, i < len → ((List.range len).map f)[i]? = some (f i) := fun i hi => by simp [hi]
      obtain ⟨b, off, spot⟩ := x
      have hc0 : W.cell? (((⟨b, off, spot⟩ : Addr).add (0 * 22)).add 0) = some ((encC (f 0))[0]'(by rw [encC_length]; omega)) := by
        rw [hf 0 (by omega) 0 (by omega), List.getElem?_eq_getElem]
      have hspot : spot = none := by
        have := World.cell?_spot hc0
        simpa [Addr.add] using this
      subst hspot
      have e : ∀ i k, ((⟨b, off, none⟩ : Addr).add (i * 22)).add k = ⟨b, off + (i * 22 + k), none⟩ := fun i k => by rw [addr_addC, addr_addC, Nat.add_assoc]
      refine ⟨b, off, rfl, ?_, fun j v hv => ?_⟩
      · rw [e] at hc0
        exact World.block_lt_of_cell? W _ hc0
      · have hj : j < len * 22 := by
          have := (List.getElem?_eq_some_iff.1 hv).1
          rw [flatE_length encC_length] at this
          simpa using this
        have h1 := hf (j / 22) (by omega) (j % 22) (Nat.mod_lt _ (by omega))
        rw [e, show j / 22 * 22 + j % 22 = j by omega] at h1
        rw [h1]
        have h2 := flatE_get encC_length (by omega) ((List.range len).map f) (j / 22) _ (j % 22) (hget (j / 22) (by omega)) (Nat.mod_lt _ (by omega))
        rw [show j / 22 * 22 + j % 22 = j by omega, hv] at h2
        exact h2.symm
/-- A slice's address is none, or that of a row. -/
theorem okWide_spot {w : World} {r : Reach} {base : Nat} {t e : TypeId} {a : Option Addr} {len cap : Nat} (ht : Try.prog.underlying t = some (.slice e)) (h : Value.okWide Try.prog w r base t (.slice a len cap)) : a = none ∨ ∃ g off, a = some ⟨g, off, none⟩ := by
  cases a with
  | none => exact .inl rfl
  | some x =>
    simp only [Value.okWide, ht, Cell.okWide, Cell.ok, World.has] at h
    obtain ⟨g, off, spot⟩ := x
    obtain ⟨_, _, _, hs, _⟩ := h
    simp only at hs
    subst hs
    exact .inr ⟨g, off, rfl⟩
section
variable {H : Type} {enc : TypeId × Value → H} {W : World} {base : Nat} {sp : Nat → Bool} {hd : Bool} {a : Option Addr} {len cap : Nat} {d : DataW H} {p : List MemPlace}
theorem bytes_sized (h : DataW.Trod enc Try.prog W base sp hd 22 (.slice a len cap) d p) : len = 0 ∨ ∃ es sps, d = .slice es sps ∧ es.length = len := by
  obtain ⟨fuel, hf⟩ := h
  have hf' : DataW.trod enc Try.prog W base sp hd fuel 22 [.slice a len cap] = some (d, p) := by simpa [Value.cells] using hf
  rcases open_ints Try.underlying22 Try.underlying5 (by kernel_rfl) hf' with ⟨hcs, _⟩ | ⟨x, l, c, zs, hcs, _, hl, hm, hz, hx, _, _⟩
  · simp only [List.cons.injEq, and_true, Value.slice.injEq] at hcs
    exact .inl hcs.2.1
  · simp only [List.cons.injEq, and_true, Value.slice.injEq] at hcs
    obtain ⟨rfl, rfl, rfl⟩ := hcs
    right
    injection hx with hx _
    refine ⟨_, _, hx, ?_⟩
    simp only [lits, List.length_map, List.length_take]
    rw [hz]
    split <;> omega
end
end Go.Proofs.Ytbfhfnbhfeedbaa
end
