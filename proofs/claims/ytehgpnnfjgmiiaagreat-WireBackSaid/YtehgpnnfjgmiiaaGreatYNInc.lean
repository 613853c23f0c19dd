/- Contacts, slices of contacts, and ids that come in. No condition. Messages that come in. No condition. -/
import Derived.Test.YtehgpnnfjgmiiaaGreatYOja
import Derived.Test.YtehgpnnfjgmiiaaGreatYOcb
import Derived.Test.YtehgpnnfjgmiiaaGreatYOga
import Derived.Test.YtehgpnnfjgmiiaaGreatYRIis
import Derived.Test.YtehgpnnfjgmiiaaGreatYRERefc
import Derived.Test.YtehgpnnfjgmiiaaGreatYRIip
import Derived.Test.YtehgpnnfjgmiiaaGreatYREOcta
import Derived.Test.YtehgpnnfjgmiiaaGreatYNCsa
import Derived.Test.YtehgpnnfjgmiiaaGreatYNCcc
import Derived.Test.YtehgpnnfjgmiiaaGreatRows
import Derived.ProofKit
import Derived.OpenShut
import Derived.ChangeOld
import Derived.Test.YtehgpnnfjgmiiaaGreatYNCda
import Derived.Deep.Slices
import Derived.Deep.Strs
import Derived.SizedLaws
import Derived.Test.YtehgpnnfjgmiiaaGreatYWam
section
namespace Go.Proofs.YtehgpnnfjgmiiaaGreat
set_option maxRecDepth 100000
open Go.ChangeShapes Go.WideShapes Go.ChangeAt Go.RowKit Go.Deep
theorem addr_addC (b o i : Nat) : (⟨b, o, none⟩ : Addr).add i = ⟨b, o + i, none⟩ := by unfold Addr.add; split <;> simp_all
theorem cells_bytesN {H : Type} {enc : TypeId × Value → H} {w : World} {base : Nat} {spare : Nat → Bool} {held : Bool} {fuel : Nat} {cs : List Value} {x : DataW H × List MemPlace} (h : DataW.trod enc Tryz.prog w base spare held fuel 24 cs = some x) : ∃ xs : List UInt8, xs.length = 20 ∧ cs = bcells xs := by
  have hu : Tryz.prog.underlying 24 = some (.array 20 5) := by kernel_rfl
  have hc5 : Tryz.prog.cellsOf 5 = 1 := by kernel_rfl
  have hc26 : Tryz.prog.cellsOf 24 = 20 := by kernel_rfl
  obtain ⟨ys, m, _, _, hl, hy, hi⟩ := DataW.trod_array hu h
  rw [hc26] at hl
  have hcell : ∀ i (hi20 : i < cs.length), ∃ n : Int, cs[i] = .int .u8 n ∧ 0 ≤ n ∧ n ≤ 255 := by
    intro i hi20
    have h1 := hi i (by omega)
    rw [hc5, Nat.mul_one] at h1
    rw [List.getElem?_eq_getElem (by omega)] at h1
    obtain ⟨n, he, _, hw⟩ := DataW.trod_int Tryz.underlying5 h1
    refine ⟨n, ?_, wf_u8 hw⟩
    rw [List.drop_eq_getElem_cons hi20, List.take_succ_cons, List.take_zero] at he
    injection he
  refine ⟨cs.map fun v => UInt8.ofNat (RowKit.intOf v).toNat, by simpa using hl, ?_⟩
  apply List.ext_getElem
  · simp [bcells]
  · intro i h1 h2
    obtain ⟨n, e, n0, n1⟩ := hcell i h1
    have e2 : (bcells (cs.map fun v => UInt8.ofNat (RowKit.intOf v).toNat))[i]'h2 = Value.int .u8 (((UInt8.ofNat (RowKit.intOf cs[i]).toNat).toNat : Nat) : Int) := by simp [bcells]
    rw [e2, e]
    have e3 : (UInt8.ofNat (RowKit.intOf (Value.int .u8 n)).toNat).toNat = n.toNat := by
      show (UInt8.ofNat n.toNat).toNat = n.toNat
      rw [UInt8.toNat_ofNat']
      omega
    rw [e3, Int.toNat_of_nonneg n0]
theorem cells_con {H : Type} {enc : TypeId × Value → H} {w : World} {base : Nat} {spare : Nat → Bool} {held : Bool} {fuel : Nat} {cs : List Value} {x : DataW H × List MemPlace} (h : DataW.trod enc Tryz.prog w base spare held fuel 63 cs = some x) : ∃ c : Con, cs = encC c := by
  have hu : Tryz.prog.underlying 63 = some (.struct #[⟨"ID", 24, 0, false, "", "", 0⟩, ⟨"Addr", 61, 20, false, "", "", 20⟩]) := by kernel_rfl
  have hu2 : Tryz.prog.underlying 61 = some (.struct #[⟨"Host", 22, 0, false, "", "", 0⟩, ⟨"Port", 59, 1, false, "", "", 4⟩]) := by kernel_rfl
  have c60 : Tryz.prog.cellsOf 63 = 22 := by kernel_rfl
  have c55 : Tryz.prog.cellsOf 24 = 20 := by kernel_rfl
  have c58 : Tryz.prog.cellsOf 61 = 2 := by kernel_rfl
  have c34 : Tryz.prog.cellsOf 22 = 1 := by kernel_rfl
  have c56 : Tryz.prog.cellsOf 59 = 1 := by kernel_rfl
  obtain ⟨y0, y1, m, _, hl, t0, t1⟩ := trod_struct2 hu h
  rw [c60] at hl
  simp only [c55, List.drop_zero] at t0
  simp only [c58] at t1
  obtain ⟨xs, hx, e0⟩ := cells_bytesN t0
  obtain ⟨z0, z1, m2, _, hl2, u0, u1⟩ := trod_struct2 hu2 t1
  simp only [c34, List.drop_zero] at u0
  simp only [c56] at u1
  obtain ⟨a, ea, _, wa⟩ := DataW.trod_int (k := .u32) (by kernel_rfl) u0
  obtain ⟨b, eb, _, wb⟩ := DataW.trod_int (k := .u16) (by kernel_rfl) u1
  have ha := wf_u32 wa
  have hb := wf_u16 wb
  refine ⟨⟨(xs, a.toNat, b.toNat), ⟨hx, by show a.toNat < _; omega, by show b.toNat < _; omega⟩⟩, ?_⟩
  have e1 : cs = cs.take 20 ++ ((cs.drop 20).take 2) := by
    have h2 : (cs.drop 20).take 2 = cs.drop 20 := List.take_of_length_le (by rw [List.length_drop]; omega)
    rw [h2, List.take_append_drop]
  have e2 : (cs.drop 20).take 2 = [.int .u32 a, .int .u16 b] := by
    obtain ⟨q, hq⟩ : ∃ q, q = (cs.drop 20).take 2 := ⟨_, rfl⟩
    rw [← hq] at ea eb ⊢
    have hq2 : q.length = 2 := by rw [hq, List.length_take, List.length_drop]; omega
    match q, hq2 with
    | [q0, q1], _ =>
      simp only [List.take_succ_cons, List.take_zero, List.drop_succ_cons, List.drop_zero, List.cons.injEq, and_true] at ea eb
      rw [ea, eb]
  unfold encC
  simp only
  rw [e1, e0, e2, Int.toNat_of_nonneg ha.1, Int.toNat_of_nonneg hb.1]
theorem und61 : Tryz.prog.underlying 25 = some (.slice 63) := by kernel_rfl
theorem open_cons {H : Type} {enc : TypeId × Value → H} {W : World} {base : Nat} {sp : Nat → Bool} {hd : Bool} {a : Option Addr} {len cap : Nat} {d : DataW H} {p : List MemPlace} (h : DataW.Trod enc Tryz.prog W base sp hd 25 (.slice a len cap) d p) :
    ∃ L : List Con, L.length = len ∧ CAt W W.heap.size a L := by
  obtain ⟨fuel, hf⟩ := h
  have hc26 : Tryz.prog.cellsOf 63 = 22 := by kernel_rfl
  rcases open_slice und61 hf with ⟨hcs, _⟩ | ⟨x, l, c, m, n, D, Pl, hcs, _, hl, hm, hmm, hsp, hcell⟩
  · simp [Value.cells] at hcs
    obtain ⟨rfl, rfl, rfl⟩ := hcs
    exact ⟨[], rfl, .inl rfl⟩
  · simp [Value.cells] at hcs
    obtain ⟨rfl, rfl, rfl⟩ := hcs
    have hlm : len ≤ m := by rw [hmm]; split <;> omega
    obtain ⟨f, hf⟩ := choose_lt (α := Con) (n := m) (p := fun i q => ∀ k, k < 22 → W.cell? ((x.add (i * 22)).add k) = (encC q)[k]?) (fun i hi => by
      obtain ⟨cs', c0, t0⟩ := hcell i hi
      rw [hc26] at c0
      obtain ⟨q, rfl⟩ := cells_con t0
      exact ⟨q, (World.cells?_some c0).2.2⟩)
    refine ⟨(List.range len).map f, by simp, ?_⟩
    by_cases h0 : len = 0
    · left
      rw [h0]
      rfl
    · right
      have hget : ∀ i, i < len → ((List.range len).map f)[i]? = some (f i) := fun i hi => by simp [hi]
      obtain ⟨b, off, spot⟩ := x
      have hc0 : W.cell? (((⟨b, off, spot⟩ : Addr).add (0 * 22)).add 0) = some ((encC (f 0))[0]'(by rw [encC_length]; omega)) := by
        rw [hf 0 (by omega) 0 (by omega), List.getElem?_eq_getElem]
      have hspot : spot = none := by
        have := World.cell?_spot hc0
        simpa [Addr.add] using this
      subst hspot
      have e : ∀ i k, ((⟨b, off, none⟩ : Addr).add (i * 22)).add k = ⟨b, off + (i * 22 + k), none⟩ := fun i k => by rw [addr_addC, addr_addC, Nat.add_assoc]
      refine ⟨b, off, rfl, ?_, fun j v hv => ?_⟩
      · rw [e] at hc0
        exact World.block_lt_of_cell? W _ hc0
      · have hj : j < len * 22 := by
          have := (List.getElem?_eq_some_iff.1 hv).1
          rw [flatE_length encC_length] at this
          simpa using this
        have h1 := hf (j / 22) (by omega) (j % 22) (Nat.mod_lt _ (by omega))
        rw [e, show j / 22 * 22 + j % 22 = j by omega] at h1
        rw [h1]
        have h2 := flatE_get encC_length (by omega) ((List.range len).map f) (j / 22) _ (j % 22) (hget (j / 22) (by omega)) (Nat.mod_lt _ (by omega))
        rw [show j / 22 * 22 + j % 22 = j by omega, hv] at h2
        exact h2.symm
section
variable {H : Type} {enc : TypeId × Value → H} {W : World} {base : Nat} {sp : Nat → Bool} {hd : Bool} {a : Option Addr} {len cap : Nat} {d : DataW H} {p : List MemPlace}
end
end Go.Proofs.YtehgpnnfjgmiiaaGreat
end
section
namespace Go.Proofs.YtehgpnnfjgmiiaaGreat
set_option maxRecDepth 100000
set_option maxHeartbeats 1000000
open Go.ChangeShapes Go.WideShapes Go.ChangeAt Go.RowKit Go.Deep
section
variable {H : Type} {enc : TypeId × Value → H} {w : World} {base : Nat} {spare : Nat → Bool} {held : Bool}
theorem slice_cell {t e : TypeId} {fuel : Nat} {c : List Value} {x : DataW H × List MemPlace} (ht : Tryz.prog.underlying t = some (.slice e)) (h : DataW.trod enc Tryz.prog w base spare held fuel t c = some x) : ∃ A n q, c = [Value.slice A n q] := by
  rcases open_slice ht h with ⟨hcs, _⟩ | ⟨a, len, cap, _, _, _, _, hcs, _⟩
  · exact ⟨none, 0, 0, hcs⟩
  · exact ⟨some a, len, cap, hcs⟩
theorem spot_at {r : Reach} {b0 : Nat} {cs : Array Value} (hval : Value.okWide Tryz.prog w r b0 28 (.agg cs)) {i : Nat} {t e : TypeId} {A : Option Addr} {n q : Nat} (ht : Tryz.prog.underlying t = some (.slice e)) (hi : i < 44) (hti : (Tryz.prog.cellTypes Tryz.prog.depth 28).map (fun l => (l.length, l[i]?)) = some (44, some t)) (hc : cs[i]? = some (.slice A n q)) : A = none ∨ ∃ g off, A = some ⟨g, off, none⟩ := by
  simp only [Value.okWide, Tryz.underlying28] at hval
  obtain ⟨cs', he, _, ts, hts, _, hrow⟩ := hval
  injection he with he
  subst he
  rw [hts] at hti
  simp only [Option.map_some, Option.some.injEq, Prod.mk.injEq] at hti
  obtain ⟨u, hu, hcell⟩ := hrow i _ hc
  rw [hti.1, Nat.mod_eq_of_lt hi, hti.2] at hu
  injection hu with hu
  subst hu
  refine okWide_spot (w := w) (r := r) (base := b0) (len := n) (cap := q) ht ?_
  simp only [Value.okWide, ht]
  exact hcell
theorem wf_i64 {n : Int} (h : (Lit.int .i64 n).wf = true) : -9223372036854775808 ≤ n ∧ n ≤ 9223372036854775807 := by
  simp [Lit.wf, IntKind.min, IntKind.max, IntKind.bits, IntKind.signed] at h
  omega
theorem open_msg {b0 : Nat} {r : Reach} {v : Value} {d : DataW H} {ps : List MemPlace} (hval : Value.okWide Tryz.prog w r b0 28 v) (hd : DataW.Trod enc Tryz.prog w base spare held 28 v d ps) :
    ∃ (m : Msg) (L : List Con) (R : List Ins), v = .agg (encM m).toArray ∧ ConV w m.vc L ∧ InsV w m.vr R ∧ R.length ≤ maxLen := by
  obtain ⟨cs, rfl, _⟩ := okWide_struct Tryz.underlying28 hval
  obtain ⟨fuel, h⟩ := hd
  have h : DataW.trod enc Tryz.prog w base spare held fuel 28 cs.toList = some (d, ps) := by simpa [Value.cells] using h
  have hu : Tryz.prog.underlying 28 = some (.struct #[⟨"Kind", 3, 0, false, "", "", 0⟩, ⟨"Txn", 22, 1, false, "", "", 8⟩, ⟨"From", 24, 2, false, "", "", 12⟩, ⟨"Key", 24, 22, false, "", "", 32⟩, ⟨"Contacts", 25, 42, false, "", "", 56⟩, ⟨"Roster", 26, 43, false, "", "", 80⟩]) := by kernel_rfl
  have c28 : Tryz.prog.cellsOf 28 = 44 := by kernel_rfl
  have c3 : Tryz.prog.cellsOf 3 = 1 := by kernel_rfl
  have c22 : Tryz.prog.cellsOf 22 = 1 := by kernel_rfl
  have c24 : Tryz.prog.cellsOf 24 = 20 := by kernel_rfl
  have c25 : Tryz.prog.cellsOf 25 = 1 := by kernel_rfl
  have c26 : Tryz.prog.cellsOf 26 = 1 := by kernel_rfl
  obtain ⟨ys, k, _, _, hl, hlen, hf⟩ := DataW.trod_struct hu h
  rw [c28] at hl
  have g : ∀ k (hk : k < 6), ∃ y, ys[k]? = some y := fun k hk => ⟨ys[k]'(by rw [hlen]; exact hk), List.getElem?_eq_getElem _⟩
  obtain ⟨y0, e0⟩ := g 0 (by omega)
  obtain ⟨y1, e1⟩ := g 1 (by omega)
  obtain ⟨y2, e2⟩ := g 2 (by omega)
  obtain ⟨y3, e3⟩ := g 3 (by omega)
  obtain ⟨y4, e4⟩ := g 4 (by omega)
  obtain ⟨y5, e5⟩ := g 5 (by omega)
  have t0 := (hf 0 ⟨"Kind", 3, 0, false, "", "", 0⟩ rfl).trans e0
  have t1 := (hf 1 ⟨"Txn", 22, 1, false, "", "", 8⟩ rfl).trans e1
  have t2 := (hf 2 ⟨"From", 24, 2, false, "", "", 12⟩ rfl).trans e2
  have t3 := (hf 3 ⟨"Key", 24, 22, false, "", "", 32⟩ rfl).trans e3
  have t4 := (hf 4 ⟨"Contacts", 25, 42, false, "", "", 56⟩ rfl).trans e4
  have t5 := (hf 5 ⟨"Roster", 26, 43, false, "", "", 80⟩ rfl).trans e5
  simp only [c3, List.drop_zero] at t0
  simp only [c22] at t1
  simp only [c24] at t2 t3
  simp only [c25] at t4
  simp only [c26] at t5
  obtain ⟨n0, q0, _, w0⟩ := DataW.trod_int (k := .i64) (by kernel_rfl) t0
  obtain ⟨n1, q1, _, w1⟩ := DataW.trod_int (k := .u32) (by kernel_rfl) t1
  obtain ⟨fs, hfs, q2⟩ := cells_bytes t2
  obtain ⟨ks, hks, q3⟩ := cells_bytes t3
  obtain ⟨A, n, q, q4⟩ := slice_cell Tryz.underlying25 t4
  obtain ⟨A', n', q', q5⟩ := slice_cell Tryz.underlying26 t5
  rw [q4] at t4
  rw [q5] at t5
  have v1 := wf_u32 w1
  have v0 := wf_i64 w0
  have p0 : cs.toList[0]? = some (.int .i64 n0) := one_cell (k := 0) (by simpa using q0)
  have p1 := one_cell q1
  have p4 := one_cell q4
  have p5 := one_cell q5
  have hs4 := spot_at hval Tryz.underlying25 (i := 42) (by omega) (by kernel_rfl) (by simpa using p4)
  obtain ⟨L, hL, hA⟩ := open_cons (H := H) (enc := enc) (W := w) (base := base) (sp := spare) (hd := held) (a := A) (len := n) (cap := q) (d := y4.1) (p := y4.2) ⟨_, by simpa [Value.cells] using t4⟩
  obtain ⟨R, hR, hB, _, hmx⟩ := open_inss (H := H) (enc := enc) (W := w) (base := base) (sp := spare) (hd := held) (a := A') (len := n') (cap := q') (d := y5.1) (p := y5.2) ⟨_, by simpa [Value.cells] using t5⟩
  refine ⟨⟨n0, n1.toNat, fs, ks, .slice A n q, .slice A' n' q', v0, by omega, hfs, hks, rfl, rfl⟩, L, R, ?_, ⟨A, q, by rw [hL], hA, hs4⟩, ⟨A', q', by rw [hR], hB⟩, by rw [hR]; exact hmx⟩
  congr 1
  apply Array.ext'
  have s1 : cs.toList = cs.toList.take 2 ++ (cs.toList.drop 2).take 20 ++ (cs.toList.drop 22).take 20 ++ cs.toList.drop 42 := by
    have a1 : cs.toList.drop 22 = (cs.toList.drop 2).drop 20 := by rw [List.drop_drop]
    have a2 : cs.toList.drop 42 = (cs.toList.drop 22).drop 20 := by rw [List.drop_drop]
    rw [a2, List.append_assoc, List.take_append_drop, a1, List.append_assoc, List.take_append_drop, List.take_append_drop]
  have s2 : cs.toList.take 2 = [.int .i64 n0, .int .u32 n1] := by
    apply List.ext_getElem?
    intro j
    match j with
    | 0 => rw [List.getElem?_take_of_lt (by omega), p0]; rfl
    | 1 => rw [List.getElem?_take_of_lt (by omega), p1]; rfl
    | j + 2 => rw [List.getElem?_eq_none (by rw [List.length_take]; omega)]; rfl
  have s3 : cs.toList.drop 42 = [.slice A n q, .slice A' n' q'] := by
    apply List.ext_getElem?
    intro j
    rw [List.getElem?_drop]
    match j with
    | 0 => exact p4
    | 1 => exact p5
    | j + 2 => rw [List.getElem?_eq_none (by rw [hl]; omega)]; rfl
  rw [s1, s2, q2, q3, s3]
  unfold encM
  simp only [Int.toNat_of_nonneg v1.1]
  simp
end
end Go.Proofs.YtehgpnnfjgmiiaaGreat
end
