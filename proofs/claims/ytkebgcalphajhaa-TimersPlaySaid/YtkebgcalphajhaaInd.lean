/- Slices of calls of a table, and of ticks, that come in, as lists. No condition. -/
import Derived.Test.YtkebgcalphajhaaTcc
import Derived.Deep.Slices
import Derived.ProofKit
import Derived.OpenShut
import Derived.ChangeOld
namespace Go.Proofs.Ytkebgcalphajhaa
set_option maxRecDepth 100000
open Go.ChangeShapes Go.WideShapes Go.ChangeAt Go.RowKit Go.Deep
theorem addr_add' (b o i : Nat) : (⟨b, o, none⟩ : Addr).add i = ⟨b, o + i, none⟩ := by unfold Addr.add; split <;> simp_all
instance : Inhabited TopR := ⟨⟨0, 0, 0⟩⟩
theorem wf_u64 {n : Int} (h : (Lit.int .u64 n).wf = true) : 0 ≤ n ∧ n < 18446744073709551616 := by
  simp [Lit.wf, IntKind.min, IntKind.max, IntKind.bits, IntKind.signed] at h
  omega
theorem tick_of {n : Int} (h : (Lit.int .u64 n).wf = true) : ∃ a : Nat, n = (a : Int) ∧ (Lit.int .u64 (a : Int)).wf = true ∧ a ≤ lastT := by
  have h1 := wf_u64 h
  have e : n = (n.toNat : Int) := by omega
  exact ⟨n.toNat, e, by rw [← e]; exact h, by unfold lastT; omega⟩
section
variable {H : Type} {enc : TypeId × Value → H} {W : World} {base : Nat} {hd : Bool} {a : Option Addr} {len cap : Nat} {d : DataW H} {p : List MemPlace}
theorem cells_top {fuel : Nat} {cs : List Value} {x : DataW H × List MemPlace} (h : DataW.trod enc Try.prog W base (fun _ => true) hd fuel 29 cs = some x) :
    ∃ o : TopR, cs = [.int .i64 o.k, .int .i64 o.n, .int .u64 (o.a : Int)] ∧ (Lit.int .i64 o.n).wf = true ∧ (Lit.int .u64 (o.a : Int)).wf = true ∧ o.a ≤ lastT := by
  obtain ⟨xs, k, hk, hxy, hl, hxl, hf⟩ := DataW.trod_struct Try.underlying29 h
  have hl' : cs.length = 3 := hl.trans (by kernel_rfl)
  match cs, hl', xs, hxl with
  | [c0, c1, c2], _, [y0, y1, y2], _ =>
    have e3 : Try.prog.cellsOf 3 = 1 := by kernel_rfl
    have e27 : Try.prog.cellsOf 27 = 1 := by kernel_rfl
    have g0 := hf 0 _ rfl
    have g1 := hf 1 _ rfl
    have g2 := hf 2 _ rfl
    have t0' : DataW.trod enc Try.prog W base (fun _ => true) hd k 3 [c0] = some y0 := by simpa [e3] using g0
    have t1' : DataW.trod enc Try.prog W base (fun _ => true) hd k 3 [c1] = some y1 := by simpa [e3] using g1
    have t2' : DataW.trod enc Try.prog W base (fun _ => true) hd k 27 [c2] = some y2 := by simpa [e3, e27] using g2
    obtain ⟨n0, e0, _, w0⟩ := DataW.trod_int Try.underlying3 t0'
    obtain ⟨n1, e1, _, w1⟩ := DataW.trod_int Try.underlying3 t1'
    obtain ⟨n2, e2, _, w2⟩ := DataW.trod_int Try.underlying27 t2'
    simp only [List.cons.injEq, and_true] at e0 e1 e2
    subst e0 e1 e2
    obtain ⟨b, rfl, w3, w4⟩ := tick_of w2
    exact ⟨⟨n0, n1, b⟩, rfl, w1, w3, w4⟩
theorem open_tops (h : DataW.Trod enc Try.prog W base (fun _ => true) hd 22 (.slice a len cap) d p) : ∃ l : List TopR, l.length = len ∧ TopsAt W a l := by
  obtain ⟨fuel, hf⟩ := h
  have hc29 : Try.prog.cellsOf 29 = 3 := by kernel_rfl
  have u22 : Try.prog.underlying 22 = some (.slice 29) := by kernel_rfl
  rcases open_slice u22 hf with ⟨hcs, _⟩ | ⟨x, l, c, m, n, D, Pl, hcs, _, hl, hm, hmm, _, hcell⟩
  · simp [Value.cells] at hcs
    obtain ⟨rfl, rfl, rfl⟩ := hcs
    exact ⟨[], rfl, .inl rfl⟩
  · simp [Value.cells] at hcs
    obtain ⟨rfl, rfl, rfl⟩ := hcs
    have hlm : len ≤ m := by rw [hmm]; split <;> omega
    obtain ⟨f, hf⟩ := choose_lt (α := TopR) (n := m) (p := fun i o => (∀ k, k < 3 → W.cell? ((x.add (i * 3)).add k) = [Value.int .i64 o.k, .int .i64 o.n, .int .u64 (o.a : Int)][k]?) ∧ (Lit.int .i64 o.n).wf = true ∧ (Lit.int .u64 (o.a : Int)).wf = true ∧ o.a ≤ lastT) (fun i hi => by
      obtain ⟨cs', c0, t0⟩ := hcell i hi
      rw [hc29] at c0
      obtain ⟨o, rfl, r⟩ := cells_top t0
      exact ⟨o, (World.cells?_some c0).2.2, r⟩)
    refine ⟨(List.range len).map f, by simp, ?_⟩
    by_cases h0 : len = 0
    · left
      rw [h0]
      rfl
    · right
      obtain ⟨b, off, spot⟩ := x
      have hc0 := (hf 0 (by omega)).1 0 (by omega)
      simp only [List.getElem?_cons_zero] at hc0
      have hspot : spot = none := by
        have := World.cell?_spot hc0
        simpa [Addr.add] using this
      subst hspot
      have e : ∀ i k, ((⟨b, off, none⟩ : Addr).add (i * 3)).add k = ⟨b, off + i * 3 + k, none⟩ := fun i k => by rw [addr_add', addr_add']
      refine ⟨b, off, rfl, ?_, fun j hj => ?_⟩
      · rw [e] at hc0
        exact World.block_lt_of_cell? W _ hc0
      · have hj' : j < len := by simpa using hj
        obtain ⟨q, r⟩ := hf j (by omega)
        have q0 := q 0 (by omega)
        have q1 := q 1 (by omega)
        have q2 := q 2 (by omega)
        rw [e] at q0 q1 q2
        simp only [List.getElem_map, List.getElem_range]
        exact ⟨by simpa using q0, by simpa using q1, by simpa using q2, r⟩
end
end Go.Proofs.Ytkebgcalphajhaa
