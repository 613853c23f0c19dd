/- Slices of bytes and numbers that come in, as lists. No condition. Instances and bytes that come in. No condition. -/
import Derived.Test.YtkceipkgebgigaaProg
import Derived.Test.YtkceipkgebgigaaXJLla
import Derived.Test.YtkceipkgebgigaaRows
import Derived.ProofKit
import Derived.OpenShut
import Derived.ChangeOld
import Derived.SizedLaws
import Derived.Test.YtkceipkgebgigaaXIia
import Derived.Deep.Slices
import Derived.Deep.Strs
section
namespace Go.Proofs.Ytkceipkgebgigaa
set_option maxRecDepth 100000
set_option linter.unusedVariables false
open Go.ChangeShapes Go.WideShapes Go.ChangeAt Go.RowKit

theorem wf_u8 {n : Int} (h : (Lit.int .u8 n).wf = true) : 0 ≤ n ∧ n ≤ 255 := by
  simp [Lit.wf, IntKind.min, IntKind.max, IntKind.bits, IntKind.signed] at h
  omega
/-- The bytes of a row of numbers that fit a byte. -/
def bytesOf (zs : List Int) : List UInt8 := zs.map fun n => UInt8.ofNat n.toNat
theorem wf_u64 {n : Int} (h : (Lit.int .u64 n).wf = true) : 0 ≤ n ∧ n < 18446744073709551616 := by
  simp [Lit.wf, IntKind.min, IntKind.max, IntKind.bits, IntKind.signed] at h
  omega
theorem bytes_of_row {w : World} {x : Addr} {len cap : Nat} {zs : List Int} (hl : len ≤ cap) (hz : zs.length = cap) (hcell : ∀ i, i < zs.length → w.cell? (x.add i) = some (.int .u8 (zs.getD i 0))) (hwf : ∀ n ∈ zs, (Lit.int .u8 n).wf = true) :
    ∃ xs : List UInt8, xs.length = len ∧ BAt w w.heap.size (some x) xs := by
  refine ⟨bytesOf (zs.take len), by simp [bytesOf]; omega, ?_⟩
  by_cases h0 : len = 0
  · left
    subst h0
    simp [bytesOf]
  · right
    obtain ⟨b, off, spot⟩ := x
    have hc := hcell 0 (by omega)
    have hspot : spot = none := by simpa [Addr.add] using World.cell?_spot hc
    subst hspot
    refine ⟨b, off, rfl, ?_, fun j hj => ?_⟩
    · have := World.block_lt_of_cell? w _ hc
      simpa [Addr.add] using this
    · have hj' : j < len := by simp [bytesOf] at hj; omega
      have hc := hcell j (by omega)
      have e : (⟨b, off, none⟩ : Addr).add j = ⟨b, off + j, none⟩ := by unfold Addr.add; split <;> simp_all
      rw [e] at hc
      rw [hc]
      have hw := wf_u8 (hwf (zs[j]'(by omega)) (List.getElem_mem _))
      have e1 : zs.getD j 0 = zs[j]'(by omega) := by simp [List.getD, List.getElem?_eq_getElem (show j < zs.length by omega)]
      rw [e1]
      simp only [bytesOf, List.getElem_map, List.getElem_take]
      congr 2
      simp
      omega
section
variable {H : Type} {enc : TypeId × Value → H} {W : World} {base : Nat} {sp : Nat → Bool} {hd : Bool} {a : Option Addr} {len cap : Nat} {d : DataW H} {p : List MemPlace}
theorem open_one {fuel : Nat} {V : Value} {x : DataW H × List MemPlace} (h : DataW.trod enc Try.prog W base sp hd fuel 30 [V] = some x) : ∃ (A : Option Addr) (xs : List UInt8) (c : Nat), V = .slice A xs.length c ∧ BAt W W.heap.size A xs ∧ xs.length ≤ c := by
  rcases open_ints Try.underlying30 Try.underlying5 (by kernel_rfl) h with ⟨hcs, _⟩ | ⟨x, l, c, zs, hcs, _, hl, hm, hz, _, hcell, hwz⟩
  · simp only [List.cons.injEq, and_true] at hcs
    exact ⟨none, [], 0, hcs, .inl rfl, Nat.le_refl _⟩
  · simp only [List.cons.injEq, and_true] at hcs
    obtain ⟨xs, h1, h2⟩ := bytes_of_row (len := l) (cap := zs.length) (by rw [hz]; split <;> omega) rfl hcell hwz
    exact ⟨some x, xs, c, by rw [hcs, h1], h2, by omega⟩
theorem open_bytes (h : DataW.Trod enc Try.prog W base sp hd 30 (.slice a len cap) d p) : ∃ xs : List UInt8, xs.length = len ∧ BAt W W.heap.size a xs ∧ len ≤ cap := by
  obtain ⟨fuel, hf⟩ := h
  obtain ⟨A, xs, c, hV, hb, hc⟩ := open_one (V := .slice a len cap) (by simpa [Value.cells] using hf)
  simp only [Value.slice.injEq] at hV
  obtain ⟨rfl, rfl, rfl⟩ := hV
  exact ⟨xs, rfl, hb, hc⟩
theorem bytes_sized (h : DataW.Trod enc Try.prog W base sp hd 30 (.slice a len cap) d p) : len = 0 ∨ ∃ es sps, d = .slice es sps ∧ es.length = len := by
  obtain ⟨fuel, hf⟩ := h
  have hf' : DataW.trod enc Try.prog W base sp hd fuel 30 [.slice a len cap] = some (d, p) := by simpa [Value.cells] using hf
  rcases open_ints Try.underlying30 Try.underlying5 (by kernel_rfl) hf' with ⟨hcs, _⟩ | ⟨x, l, c, zs, hcs, _, hl, hm, hz, hx, _, _⟩
  · simp only [List.cons.injEq, and_true, Value.slice.injEq] at hcs
    exact .inl hcs.2.1
  · simp only [List.cons.injEq, and_true, Value.slice.injEq] at hcs
    obtain ⟨rfl, rfl, rfl⟩ := hcs
    right
    injection hx with hx _
    refine ⟨_, _, hx, ?_⟩
    simp only [lits, List.length_map, List.length_take]
    rw [hz]
    split <;> omega
theorem str_data {s : ByteArray} (h : DataW.Trod enc Try.prog W base sp hd 9 (.string s) d p) : d = .lit (.string s.data.toList) := by
  obtain ⟨fuel, hf⟩ := h
  have hf' : DataW.trod enc Try.prog W base sp hd fuel 9 [.string s] = some (d, p) := by simpa [Value.cells] using hf
  obtain ⟨s', e1, e2, _⟩ := DataW.trod_string Try.underlying9 hf'
  simp only [List.cons.injEq, and_true, Value.string.injEq] at e1
  subst e1
  injection e2
end
theorem str_list (s : ByteArray) : ∃ xs : List UInt8, s = bstr xs := ⟨s.data.toList, by simp [bstr]⟩

end Go.Proofs.Ytkceipkgebgigaa
end
section
namespace Go.Proofs.Ytkceipkgebgigaa
set_option maxRecDepth 100000
open Go.ChangeShapes Go.WideShapes Go.ChangeAt Go.RowKit Go.Deep
theorem wf_u32 {n : Int} (h : (Lit.int .u32 n).wf = true) : 0 ≤ n ∧ n < 4294967296 := by
  simp [Lit.wf, IntKind.min, IntKind.max, IntKind.bits, IntKind.signed] at h
  omega
theorem wf_u16 {n : Int} (h : (Lit.int .u16 n).wf = true) : 0 ≤ n ∧ n < 65536 := by
  simp [Lit.wf, IntKind.min, IntKind.max, IntKind.bits, IntKind.signed] at h
  omega
section
variable {H : Type} {enc : TypeId × Value → H} {w : World} {base : Nat} {spare : Nat → Bool} {held : Bool}
theorem cells_bytes {fuel : Nat} {cs : List Value} {x : DataW H × List MemPlace} (h : DataW.trod enc Try.prog w base spare held fuel 23 cs = some x) : ∃ xs : List UInt8, xs.length = 20 ∧ cs = bcells xs := by
  have hu : Try.prog.underlying 23 = some (.array 20 5) := by kernel_rfl
  have hc5 : Try.prog.cellsOf 5 = 1 := by kernel_rfl
  have hc26 : Try.prog.cellsOf 23 = 20 := by kernel_rfl
  obtain ⟨ys, m, _, _, hl, hy, hi⟩ := DataW.trod_array hu h
  rw [hc26] at hl
  have hcell : ∀ i (hi20 : i < cs.length), ∃ n : Int, cs[i] = .int .u8 n ∧ 0 ≤ n ∧ n ≤ 255 := by
    intro i hi20
    have h1 := hi i (by omega)
    rw [hc5, Nat.mul_one] at h1
    rw [List.getElem?_eq_getElem (by omega)] at h1
    obtain ⟨n, he, _, hw⟩ := DataW.trod_int Try.underlying5 h1
    refine ⟨n, ?_, wf_u8 hw⟩
    rw [List.drop_eq_getElem_cons hi20, List.take_succ_cons, List.take_zero] at he
    injection he
  refine ⟨cs.map fun v => UInt8.ofNat (RowKit.intOf v).toNat, by simpa using hl, ?_⟩
  apply List.ext_getElem
  · simp [bcells]
  · intro i h1 h2
    obtain ⟨n, e, n0, n1⟩ := hcell i h1
    have e2 : (bcells (cs.map fun v => UInt8.ofNat (RowKit.intOf v).toNat))[i]'h2 = Value.int .u8 (((UInt8.ofNat (RowKit.intOf cs[i]).toNat).toNat : Nat) : Int) := by simp [bcells]
    rw [e2, e]
    have e3 : (UInt8.ofNat (RowKit.intOf (Value.int .u8 n)).toNat).toNat = n.toNat := by
      show (UInt8.ofNat n.toNat).toNat = n.toNat
      rw [UInt8.toNat_ofNat']
      omega
    rw [e3, Int.toNat_of_nonneg n0]
theorem one_cell {cs : List Value} {k : Nat} {v : Value} (h : (cs.drop k).take 1 = [v]) : cs[k]? = some v := by
  cases hd : cs.drop k with
  | nil => rw [hd] at h; simp at h
  | cons a r =>
    rw [hd] at h
    simp only [List.take_succ_cons, List.take_zero, List.cons.injEq, and_true] at h
    have := List.getElem?_drop (xs := cs) (i := k) (j := 0)
    rw [hd] at this
    simp only [List.getElem?_cons_zero, Nat.add_zero] at this
    rw [← this, h]
theorem cells_ins {fuel : Nat} {cs : List Value} {x : DataW H × List MemPlace} (h : DataW.trod enc Try.prog w base spare held fuel 28 cs = some x) : ∃ i : Ins, cs = encI i ∧ ∃ parts, x.1 = .agg parts ∧ parts[8]? = some (.lit (.string i.tgt)) := by
  have hu : Try.prog.underlying 28 = some (.struct #[⟨"Publisher", 23, 0, false, "", "", 0⟩, ⟨"Seq", 24, 20, false, "", "", 24⟩, ⟨"Born", 24, 21, false, "", "", 32⟩, ⟨"Life", 25, 22, false, "", "", 40⟩, ⟨"Gone", 4, 23, false, "", "", 44⟩, ⟨"Priority", 26, 24, false, "", "", 46⟩, ⟨"Weight", 26, 25, false, "", "", 48⟩, ⟨"Port", 26, 26, false, "", "", 50⟩, ⟨"Target", 9, 27, false, "", "", 56⟩]) := by kernel_rfl
  have c28 : Try.prog.cellsOf 28 = 28 := by kernel_rfl
  have c23 : Try.prog.cellsOf 23 = 20 := by kernel_rfl
  have c24 : Try.prog.cellsOf 24 = 1 := by kernel_rfl
  have c25 : Try.prog.cellsOf 25 = 1 := by kernel_rfl
  have c26 : Try.prog.cellsOf 26 = 1 := by kernel_rfl
  have c4 : Try.prog.cellsOf 4 = 1 := by kernel_rfl
  have c9 : Try.prog.cellsOf 9 = 1 := by kernel_rfl
  obtain ⟨ys, m, _, rfl, hl, hlen, hf⟩ := DataW.trod_struct hu h
  rw [c28] at hl
  have g : ∀ k (hk : k < 9), ∃ y, ys[k]? = some y := fun k hk => ⟨ys[k]'(by rw [hlen]; exact hk), List.getElem?_eq_getElem _⟩
  obtain ⟨y0, e0⟩ := g 0 (by omega)
  obtain ⟨y1, e1⟩ := g 1 (by omega)
  obtain ⟨y2, e2⟩ := g 2 (by omega)
  obtain ⟨y3, e3⟩ := g 3 (by omega)
  obtain ⟨y4, e4⟩ := g 4 (by omega)
  obtain ⟨y5, e5⟩ := g 5 (by omega)
  obtain ⟨y6, e6⟩ := g 6 (by omega)
  obtain ⟨y7, e7⟩ := g 7 (by omega)
  obtain ⟨y8, e8⟩ := g 8 (by omega)
  have t0 := (hf 0 ⟨"Publisher", 23, 0, false, "", "", 0⟩ rfl).trans e0
  have t1 := (hf 1 ⟨"Seq", 24, 20, false, "", "", 24⟩ rfl).trans e1
  have t2 := (hf 2 ⟨"Born", 24, 21, false, "", "", 32⟩ rfl).trans e2
  have t3 := (hf 3 ⟨"Life", 25, 22, false, "", "", 40⟩ rfl).trans e3
  have t4 := (hf 4 ⟨"Gone", 4, 23, false, "", "", 44⟩ rfl).trans e4
  have t5 := (hf 5 ⟨"Priority", 26, 24, false, "", "", 46⟩ rfl).trans e5
  have t6 := (hf 6 ⟨"Weight", 26, 25, false, "", "", 48⟩ rfl).trans e6
  have t7 := (hf 7 ⟨"Port", 26, 26, false, "", "", 50⟩ rfl).trans e7
  have t8 := (hf 8 ⟨"Target", 9, 27, false, "", "", 56⟩ rfl).trans e8
  simp only [c23, List.drop_zero] at t0
  simp only [c24] at t1 t2
  simp only [c25] at t3
  simp only [c4] at t4
  simp only [c26] at t5 t6 t7
  simp only [c9] at t8
  obtain ⟨xs, hx, q0⟩ := cells_bytes t0
  obtain ⟨n1, q1, _, w1⟩ := DataW.trod_int (k := .u64) (by kernel_rfl) t1
  obtain ⟨n2, q2, _, w2⟩ := DataW.trod_int (k := .u64) (by kernel_rfl) t2
  obtain ⟨n3, q3, _, w3⟩ := DataW.trod_int (k := .u32) (by kernel_rfl) t3
  obtain ⟨n4, q4, _⟩ := DataW.trod_bool (by kernel_rfl) t4
  obtain ⟨n5, q5, _, w5⟩ := DataW.trod_int (k := .u16) (by kernel_rfl) t5
  obtain ⟨n6, q6, _, w6⟩ := DataW.trod_int (k := .u16) (by kernel_rfl) t6
  obtain ⟨n7, q7, _, w7⟩ := DataW.trod_int (k := .u16) (by kernel_rfl) t7
  obtain ⟨n8, q8, r8, _⟩ := DataW.trod_string (by kernel_rfl) t8
  have v1 := wf_u64 w1
  have v2 := wf_u64 w2
  have v3 := wf_u32 w3
  have v5 := wf_u16 w5
  have v6 := wf_u16 w6
  have v7 := wf_u16 w7
  have p1 := one_cell q1
  have p2 := one_cell q2
  have p3 := one_cell q3
  have p4 := one_cell q4
  have p5 := one_cell q5
  have p6 := one_cell q6
  have p7 := one_cell q7
  have p8 := one_cell q8
  refine ⟨⟨xs, n1.toNat, n2.toNat, n3.toNat, n4, n5.toNat, n6.toNat, n7.toNat, n8.data.toList, hx, by omega, by omega, by omega, by omega, by omega, by omega⟩, ?_, ys.map (·.1), rfl, ?_⟩
  · have e1 : cs = cs.take 20 ++ cs.drop 20 := (List.take_append_drop 20 cs).symm
    rw [e1, q0]
    unfold encI
    congr 1
    have hb : (⟨n8.data.toList.toArray⟩ : ByteArray) = n8 := by simp
    have hb2 : bstr n8.data.toList = n8 := by unfold bstr; exact hb
    apply List.ext_getElem?
    intro k
    rw [List.getElem?_drop]
    unfold tailI
    simp only [Int.toNat_of_nonneg v1.1, Int.toNat_of_nonneg v2.1, Int.toNat_of_nonneg v3.1, Int.toNat_of_nonneg v5.1, Int.toNat_of_nonneg v6.1, Int.toNat_of_nonneg v7.1, hb2]
    match k with
    | 0 => exact p1
    | 1 => exact p2
    | 2 => exact p3
    | 3 => exact p4
    | 4 => exact p5
    | 5 => exact p6
    | 6 => exact p7
    | 7 => exact p8
    | k + 8 => rw [List.getElem?_eq_none (by rw [hl]; omega)]; rfl
  · rw [List.getElem?_map, e8]
    simp only [Option.map_some]
    rw [r8]
theorem open_ins {b0 : Nat} {r : Reach} {v : Value} {d : DataW H} {ps : List MemPlace} (hval : Value.okWide Try.prog w r b0 28 v) (hd : DataW.Trod enc Try.prog w base spare held 28 v d ps) :
    ∃ i : Ins, v = .agg (encI i).toArray ∧ ∃ parts, d = .agg parts ∧ parts[8]? = some (.lit (.string i.tgt)) := by
  obtain ⟨cs, rfl, _⟩ := okWide_struct Try.underlying28 hval
  obtain ⟨fuel, hf⟩ := hd
  obtain ⟨c, he, parts, hp, h8⟩ := cells_ins hf
  refine ⟨c, ?_, parts, hp, h8⟩
  have : cs.toList = encI c := by simpa [Value.cells] using he
  rw [← this]
theorem sized_ins {ts : List TypeId} {ds : List (DataW H)} (h : (DataW.weightsEach Try.prog ts ds).all (· ≤ reachBytes) = true) {j : Nat} {parts : List (DataW H)} {i : Ins} (ht : ts[j]? = some 28) (hd : ds[j]? = some (.agg parts)) (h8 : parts[8]? = some (.lit (.string i.tgt))) : i.tgt.length ≤ reachBytes := by
  have hm : i.tgt.length ∈ (DataW.agg parts).weights Try.prog 28 := by
    have hu : Try.prog.underlying 28 = some (.struct #[⟨"Publisher", 23, 0, false, "", "", 0⟩, ⟨"Seq", 24, 20, false, "", "", 24⟩, ⟨"Born", 24, 21, false, "", "", 32⟩, ⟨"Life", 25, 22, false, "", "", 40⟩, ⟨"Gone", 4, 23, false, "", "", 44⟩, ⟨"Priority", 26, 24, false, "", "", 46⟩, ⟨"Weight", 26, 25, false, "", "", 48⟩, ⟨"Port", 26, 26, false, "", "", 50⟩, ⟨"Target", 9, 27, false, "", "", 56⟩]) := by kernel_rfl
    simp only [DataW.weights, hu]
    exact DataW.weights_mem_each (j := 8) (t := 9) rfl h8 _ (by simp [DataW.weights])
  have := List.all_eq_true.1 h _ (DataW.weights_mem_each ht hd _ hm)
  simpa using this
end
end Go.Proofs.Ytkceipkgebgigaa
end
