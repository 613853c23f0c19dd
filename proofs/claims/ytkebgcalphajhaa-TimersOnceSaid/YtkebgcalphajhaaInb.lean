/- Slices of calls of a queue that come in, as lists. No condition. -/
import Derived.Test.YtkebgcalphajhaaRap
import Derived.Test.YtkebgcalphajhaaIna
namespace Go.Proofs.Ytkebgcalphajhaa
set_option maxRecDepth 100000
open Go.ChangeShapes Go.WideShapes Go.ChangeAt Go.RowKit Go.Deep
instance : Inhabited OpR := ⟨⟨0, 0, none, 0, []⟩⟩
section
variable {H : Type} {enc : TypeId × Value → H} {W : World} {base : Nat} {hd : Bool} {a : Option Addr} {len cap : Nat} {d : DataW H} {p : List MemPlace}
theorem open_oplist {fuel : Nat} {cs : List Value} {x : DataW H × List MemPlace} (h : DataW.trod enc Try.prog W base (fun _ => true) hd fuel 39 cs = some x) : ∃ A c, ∃ K : List Int, cs = [.slice A K.length c] ∧ OpL W A c K := by
  have hc3 : Try.prog.cellsOf 3 = 1 := by kernel_rfl
  have u39 : Try.prog.underlying 39 = some (.slice 3) := by kernel_rfl
  rcases open_slice1 u39 hc3 h with ⟨hcs, _⟩ | ⟨x, l, c, m, n, V, D, Pl, hcs, _, hl, hm, hmm, _, hcell⟩
  · exact ⟨none, 0, [], hcs, .inl ⟨rfl, rfl⟩⟩
  · simp only [if_true] at hmm
    subst hmm
    obtain ⟨f, hf⟩ := choose_lt (α := Int) (n := m) (p := fun i z => W.cell? (x.add i) = some (.int .i64 z)) (fun i hi => by
      obtain ⟨z, h1, _, _⟩ := DataW.trod_int Try.underlying3 (hcell i hi).2
      simp only [List.cons.injEq, and_true] at h1
      exact ⟨z, by rw [(hcell i hi).1, h1]⟩)
    have hlen : ((List.range l).map f).length = l := by simp
    refine ⟨some x, m, (List.range l).map f, by rw [hlen]; exact hcs, ?_⟩
    by_cases h0 : m = 0
    · have : l = 0 := by omega
      subst this
      exact .inl ⟨h0, rfl⟩
    · obtain ⟨b, off, spot⟩ := x
      have hc0 := hf 0 (by omega)
      have hspot : spot = none := by
        have := World.cell?_spot hc0
        simpa [Addr.add] using this
      subst hspot
      refine .inr ⟨by omega, b, off, rfl, by rw [hlen]; exact hl, ?_, fun j hj => ?_⟩
      · rw [addr_add'] at hc0
        exact World.block_lt_of_cell? W _ hc0
      · have hj' : j < l := by simpa using hj
        have q := hf j (by omega)
        rw [addr_add'] at q
        rw [q, getElem!_pos ((List.range l).map f) j hj]
        simp
theorem cells_rop {fuel : Nat} {cs : List Value} {x : DataW H × List MemPlace} (h : DataW.trod enc Try.prog W base (fun _ => true) hd fuel 57 cs = some x) :
    ∃ o : OpR, cs = [.int .i64 o.k, .int .i64 o.n, .slice o.A o.K.length o.c] ∧ OpL W o.A o.c o.K := by
  obtain ⟨xs, k, hk, hxy, hl, hxl, hf⟩ := DataW.trod_struct Try.underlying57 h
  have hl' : cs.length = 3 := hl.trans (by kernel_rfl)
  match cs, hl', xs, hxl with
  | [c0, c1, c2], _, [y0, y1, y2], _ =>
    have e3 : Try.prog.cellsOf 3 = 1 := by kernel_rfl
    have e39 : Try.prog.cellsOf 39 = 1 := by kernel_rfl
    have g0 := hf 0 _ rfl
    have g1 := hf 1 _ rfl
    have g2 := hf 2 _ rfl
    have t0' : DataW.trod enc Try.prog W base (fun _ => true) hd k 3 [c0] = some y0 := by simpa [e3] using g0
    have t1' : DataW.trod enc Try.prog W base (fun _ => true) hd k 3 [c1] = some y1 := by simpa [e3] using g1
    have t2' : DataW.trod enc Try.prog W base (fun _ => true) hd k 39 [c2] = some y2 := by simpa [e39] using g2
    obtain ⟨n0, e0, _, w0⟩ := DataW.trod_int Try.underlying3 t0'
    obtain ⟨n1, e1, _, w1⟩ := DataW.trod_int Try.underlying3 t1'
    obtain ⟨A, c, K, e2, hb⟩ := open_oplist t2'
    simp only [List.cons.injEq, and_true] at e0 e1 e2
    subst e0 e1 e2
    exact ⟨⟨n0, n1, A, c, K⟩, rfl, hb⟩
theorem open_rops (h : DataW.Trod enc Try.prog W base (fun _ => true) hd 53 (.slice a len cap) d p) : ∃ l : List OpR, l.length = len ∧ OpsAt W a l := by
  obtain ⟨fuel, hf⟩ := h
  have hc57 : Try.prog.cellsOf 57 = 3 := by kernel_rfl
  have u53 : Try.prog.underlying 53 = some (.slice 57) := by kernel_rfl
  rcases open_slice u53 hf with ⟨hcs, _⟩ | ⟨x, l, c, m, n, D, Pl, hcs, _, hl, hm, hmm, _, hcell⟩
  · simp [Value.cells] at hcs
    obtain ⟨rfl, rfl, rfl⟩ := hcs
    exact ⟨[], rfl, .inl rfl⟩
  · simp [Value.cells] at hcs
    obtain ⟨rfl, rfl, rfl⟩ := hcs
    have hlm : len ≤ m := by rw [hmm]; split <;> omega
    obtain ⟨f, hf⟩ := choose_lt (α := OpR) (n := m) (p := fun i o => (∀ k, k < 3 → W.cell? ((x.add (i * 3)).add k) = [Value.int .i64 o.k, .int .i64 o.n, .slice o.A o.K.length o.c][k]?) ∧ OpL W o.A o.c o.K) (fun i hi => by
      obtain ⟨cs', c0, t0⟩ := hcell i hi
      rw [hc57] at c0
      obtain ⟨o, rfl, r⟩ := cells_rop t0
      exact ⟨o, (World.cells?_some c0).2.2, r⟩)
    refine ⟨(List.range len).map f, by simp, ?_⟩
    by_cases h0 : len = 0
    · left
      rw [h0]
      rfl
    · right
      obtain ⟨b, off, spot⟩ := x
      have hc0 := (hf 0 (by omega)).1 0 (by omega)
      simp only [List.getElem?_cons_zero] at hc0
      have hspot : spot = none := by
        have := World.cell?_spot hc0
        simpa [Addr.add] using this
      subst hspot
      have e : ∀ i k, ((⟨b, off, none⟩ : Addr).add (i * 3)).add k = ⟨b, off + i * 3 + k, none⟩ := fun i k => by rw [addr_add', addr_add']
      refine ⟨b, off, rfl, ?_, fun j hj => ?_⟩
      · rw [e] at hc0
        exact World.block_lt_of_cell? W _ hc0
      · have hj' : j < len := by simpa using hj
        obtain ⟨q, r⟩ := hf j (by omega)
        have q0 := q 0 (by omega)
        have q1 := q 1 (by omega)
        have q2 := q 2 (by omega)
        rw [e] at q0 q1 q2
        simp only [List.getElem_map, List.getElem_range]
        exact ⟨by simpa using q0, by simpa using q1, by simpa using q2, r⟩
end
end Go.Proofs.Ytkebgcalphajhaa
