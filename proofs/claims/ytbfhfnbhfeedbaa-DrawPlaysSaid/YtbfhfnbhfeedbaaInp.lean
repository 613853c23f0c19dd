/- Slices of calls of a source that come in, as lists. No condition. -/
import Derived.Test.YtbfhfnbhfeedbaaInb
import Derived.Test.YtbfhfnbhfeedbaaDwp
import Derived.Deep.Slices
import Derived.Deep.Strs
namespace Go.Proofs.Ytbfhfnbhfeedbaa
set_option maxRecDepth 100000
open Go.ChangeShapes Go.WideShapes Go.ChangeAt Go.RowKit Go.Deep

theorem addr_add' (b o i : Nat) : (⟨b, o, none⟩ : Addr).add i = ⟨b, o + i, none⟩ := by unfold Addr.add; split <;> simp_all
theorem und23 : Try.prog.underlying 23 = some (.slice 31) := by kernel_rfl
section
variable {H : Type} {enc : TypeId × Value → H} {W : World} {base : Nat} {sp : Nat → Bool} {hd : Bool} {a : Option Addr} {len cap : Nat} {d : DataW H} {p : List MemPlace}
theorem cells_opd {fuel : Nat} {cs : List Value} {x : DataW H × List MemPlace} (h : DataW.trod enc Try.prog W base sp hd fuel 31 cs = some x) :
    ∃ o : OpD, cs = [.int .i64 o.k, .int .i64 o.n, .slice o.A o.bs.length o.c] ∧ BAt W W.heap.size o.A o.bs ∧ -9223372036854775808 ≤ o.n ∧ o.n ≤ 9223372036854775807 := by
  obtain ⟨y0, y1, y2, n, _, hl, t0, t1, t2⟩ := trod_struct3 Try.underlying31 h
  have hl' : cs.length = 3 := hl.trans (by kernel_rfl)
  match cs, hl' with
  | [c0, c1, c2], _ =>
    have e3 : Try.prog.cellsOf 3 = 1 := by kernel_rfl
    have e22 : Try.prog.cellsOf 22 = 1 := by kernel_rfl
    have t0' : DataW.trod enc Try.prog W base sp hd n 3 [c0] = some y0 := by simpa [e3] using t0
    have t1' : DataW.trod enc Try.prog W base sp hd n 3 [c1] = some y1 := by simpa [e3] using t1
    have t2' : DataW.trod enc Try.prog W base sp hd n 22 [c2] = some y2 := by simpa [e22] using t2
    obtain ⟨n0, e0, _, w0⟩ := DataW.trod_int Try.underlying3 t0'
    obtain ⟨n1, e1, _, w1⟩ := DataW.trod_int Try.underlying3 t1'
    obtain ⟨A, xs, c, e2, hb, _⟩ := open_one t2'
    simp only [List.cons.injEq, and_true] at e0 e1
    subst e0 e1 e2
    exact ⟨⟨n0, n1, xs, A, c⟩, rfl, hb, (wf_i64 w1).1, (wf_i64 w1).2⟩
theorem open_opd (h : DataW.Trod enc Try.prog W base sp hd 23 (.slice a len cap) d p) : ∃ l : List OpD, l.length = len ∧ OpdAt W a l := by
  obtain ⟨fuel, hf⟩ := h
  have hc31 : Try.prog.cellsOf 31 = 3 := by kernel_rfl
  rcases open_slice und23 hf with ⟨hcs, _⟩ | ⟨x, l, c, m, n, D, Pl, hcs, _, hl, hm, hmm, _, hcell⟩
  · simp [Value.cells] at hcs
    obtain ⟨rfl, rfl, rfl⟩ := hcs
    exact ⟨[], rfl, .inl rfl⟩
  · simp [Value.cells] at hcs
    obtain ⟨rfl, rfl, rfl⟩ := hcs
    have hlm : len ≤ m := by rw [hmm]; split <;> omega
    obtain ⟨f, hf⟩ := choose_lt (α := OpD) (n := m) (p := fun i o => (∀ k, k < 3 → W.cell? ((x.add (i * 3)).add k) = [Value.int .i64 o.k, .int .i64 o.n, .slice o.A o.bs.length o.c][k]?) ∧ BAt W W.heap.size o.A o.bs ∧ -9223372036854775808 ≤ o.n ∧ o.n ≤ 9223372036854775807) (fun i hi => by
      obtain ⟨cs', c0, t0⟩ := hcell i hi
      rw [hc31] at c0
      obtain ⟨o, rfl, r⟩ := cells_opd t0
      exact ⟨o, (World.cells?_some c0).2.2, r⟩)
    refine ⟨(List.range len).map f, by simp, ?_⟩
    by_cases h0 : len = 0
    · left
      rw [h0]
      rfl
    · right
      obtain ⟨b, off, spot⟩ := x
      have hc0 := (hf 0 (by omega)).1 0 (by omega)
      simp only [List.getElem?_cons_zero] at hc0
      have hspot : spot = none := by
        have := World.cell?_spot hc0
        simpa [Addr.add] using this
      subst hspot
      have e : ∀ i k, ((⟨b, off, none⟩ : Addr).add (i * 3)).add k = ⟨b, off + i * 3 + k, none⟩ := fun i k => by rw [addr_add', addr_add']
      refine ⟨b, off, rfl, ?_, fun j hj => ?_⟩
      · rw [e] at hc0
        exact World.block_lt_of_cell? W _ hc0
      · have hj' : j < len := by simpa using hj
        obtain ⟨q, r⟩ := hf j (by omega)
        have q0 := q 0 (by omega)
        have q1 := q 1 (by omega)
        have q2 := q 2 (by omega)
        rw [e] at q0 q1 q2
        simp only [List.getElem_map, List.getElem_range]
        exact ⟨by simpa using q0, by simpa using q1, by simpa using q2, r⟩
end
end Go.Proofs.Ytbfhfnbhfeedbaa
