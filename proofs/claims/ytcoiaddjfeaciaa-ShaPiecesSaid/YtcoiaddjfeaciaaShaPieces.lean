/- For every pieces and every other text the statement ShaPieces of this seat holds: a text that is written in any pieces has its sum, at each of them, and a clone goes its own way. No condition. -/
import Derived.Test.YtcoiaddjfeaciaaPcb
import Derived.Test.YtcoiaddjfeaciaaIn
import Derived.Deep.SlicePairs
import Derived.WalkKit
import Derived.ProofKit
import Derived.OpenShut
import Derived.ShutString
import Derived.ChangeOld
import Derived.Below
namespace Go.Proofs.Ytcoiaddjfeaciaa.shaPieces
open Go.ChangeShapes Go.WideShapes Go.ChangeAt Go.RowKit Go.Deep
set_option linter.unusedVariables false

theorem own : ownKnob Try.prog.godebug = none := by kernel_rfl
theorem laidOut : laidOutB Try.prog = true := by kernel_rfl

set_option maxRecDepth 100000 in
theorem far (A0 A1 : Option Addr) (n c0 k c1 : Nat) (h : 20 < n ∨ 500 < k) (w : World) : Calls Try.prog 4 #[.slice A0 n c0, .slice A1 k c1] w fun e w' => e = .returned (.bool true) ∧ Below w.heap.size w w' := by
  by_cases h1 : 20 < n
  · have h1' : (20 : Int) < (n : Int) := by omega
    clear h
    go_enter Try.func4, Try.ntmps4
    go_wp2_with (go_at_call 12; refine (slives_any _).mono ?_; rintro e w2 ⟨rfl, hb2⟩)
    go_ret
    exact ⟨rfl, hb2⟩
  · have h1' : ¬ (20 : Int) < (n : Int) := by omega
    have h2' : (500 : Int) < (k : Int) := by omega
    clear h
    go_enter Try.func4, Try.ntmps4
    go_wp2_with (go_at_call 12; refine (slives_any _).mono ?_; rintro e w2 ⟨rfl, hb2⟩)
    go_ret
    exact ⟨rfl, hb2⟩

section
variable {H : Type} {enc : TypeId × Value → H} {W : World} {base : Nat} {sp : Nat → Bool} {hd : Bool} {a : Option Addr} {len cap : Nat} {d : DataW H} {p : List MemPlace}
theorem open_one {fuel : Nat} {V : Value} {x : DataW H × List MemPlace} (h : DataW.trod enc Try.prog W base sp hd fuel 22 [V] = some x) : ∃ (A : Option Addr) (xs : List UInt8) (c : Nat), V = .slice A xs.length c ∧ BAt W W.heap.size A xs ∧ xs.length ≤ c := by
  rcases open_ints Try.underlying22 Try.underlying5 (by kernel_rfl) h with ⟨hcs, _⟩ | ⟨x, l, c, zs, hcs, _, hl, hm, hz, _, hcell, hwz⟩
  · simp only [List.cons.injEq, and_true] at hcs
    exact ⟨none, [], 0, hcs, .inl rfl, Nat.le_refl _⟩
  · simp only [List.cons.injEq, and_true] at hcs
    obtain ⟨xs, h1, h2⟩ := bytes_of_row (len := l) (cap := zs.length) (by rw [hz]; split <;> omega) rfl hcell hwz
    exact ⟨some x, xs, c, by rw [hcs, h1], h2, by omega⟩
theorem open_bytes (h : DataW.Trod enc Try.prog W base sp hd 22 (.slice a len cap) d p) : ∃ xs : List UInt8, xs.length = len ∧ BAt W W.heap.size a xs ∧ len ≤ cap := by
  obtain ⟨fuel, hf⟩ := h
  obtain ⟨A, xs, c, hV, hb, hc⟩ := open_one (V := .slice a len cap) (by simpa [Value.cells] using hf)
  simp only [Value.slice.injEq] at hV
  obtain ⟨rfl, rfl, rfl⟩ := hV
  exact ⟨xs, rfl, hb, hc⟩
theorem vals_of {x : Addr} {n m : Nat} {f : Nat → Value} (hn : n ≤ m) (h : ∀ i, i < m → W.cell? (x.add i) = some (f i)) : ValsAt W W.heap.size (some x) n f := by
  by_cases h0 : n = 0
  · exact .inl h0
  · right
    obtain ⟨b, off, spot⟩ := x
    have hc := h 0 (by omega)
    have hspot : spot = none := by simpa [Addr.add] using World.cell?_spot hc
    subst hspot
    refine ⟨b, off, rfl, ?_, fun j hj => ?_⟩
    · have := World.block_lt_of_cell? W _ hc
      simpa [Addr.add] using this
    · rw [← addr_add]
      exact h j (by omega)
theorem open_pieces (h : DataW.Trod enc Try.prog W base sp hd 32 (.slice a len cap) d p) : ∃ (S : Nat → Option Addr) (C : Nat → Nat) (xs : Nat → List UInt8), ValsAt W W.heap.size a len (fun i => .slice (S i) (xs i).length (C i)) ∧ ∀ i, i < len → BAt W W.heap.size (S i) (xs i) ∧ (xs i).length ≤ C i := by
  obtain ⟨fuel, hf⟩ := h
  rcases open_slice1 Try.underlying32 (by kernel_rfl) hf with ⟨hcs, _⟩ | ⟨x, l, c, m, n, V, D, Pl, hcs, _, hl, hm, hmm, _, hcell⟩
  · simp [Value.cells] at hcs
    obtain ⟨rfl, rfl, rfl⟩ := hcs
    exact ⟨fun _ => none, fun _ => 0, fun _ => [], .inl rfl, fun i hi => by omega⟩
  · simp [Value.cells] at hcs
    obtain ⟨rfl, rfl, rfl⟩ := hcs
    have hlm : len ≤ m := by rw [hmm]; split <;> omega
    obtain ⟨f, hf⟩ := choose_lt (α := Option Addr × List UInt8 × Nat) (n := m) (p := fun i q => W.cell? (x.add i) = some (.slice q.1 q.2.1.length q.2.2) ∧ BAt W W.heap.size q.1 q.2.1 ∧ q.2.1.length ≤ q.2.2) (fun i hi => by
      obtain ⟨c0, t0⟩ := hcell i hi
      obtain ⟨A, xs, c, hV, hb, hc⟩ := open_one t0
      rw [hV] at c0
      exact ⟨(A, xs, c), c0, hb, hc⟩)
    exact ⟨fun i => (f i).1, fun i => (f i).2.2, fun i => (f i).2.1, vals_of hlm (fun i hi => (hf i hi).1), fun i hi => ⟨(hf i (by omega)).2.1, (hf i (by omega)).2.2⟩⟩
end

set_option maxRecDepth 100000 in
theorem lifted (os : Os) (started : os.Started) (H : Type) (enc : TypeId × Value → H) :
    ReturnsInHanded {} Try.checked os 4 .any (Rows.shaPiecesSpec.pre6 enc Try.prog Try.f4 Rows.shaPiecesRow.domain false) (Rows.shaPiecesSpec.post enc Try.prog Try.f4 false true false false) := by
  refine returnsInHanded_of_change (C := Try.checked) own started (by kernel_rfl) Try.func4
    (ChangeSpec.witness6 (enc := enc) (C := Try.checked) false ⟨#[], #[.slice none 0 0, .slice none 0 0], []⟩ 8 (by kernel_rfl) (by kernel_rfl) (by kernel_rfl) (by kernel_rfl)) ?_
  intro W base args ds gs before hval0 hW hcnd _
  have hval : ∀ (j : Nat) t v, Try.f4.params[j]? = some t → args[j]? = some v → Value.okWide Try.prog W .any base t v := hval0
  have hW' := hW
  obtain ⟨p, q, hA0, hV, rfl, hfz, hnd⟩ := hW
  have hA : DataW.TrodAll enc Try.prog W 0 (fun _ => true) true Try.f4.params.toList args.toList ds p := hA0
  rw [Try.params4] at hA hval
  obtain ⟨v0, vs0, d0, ds0, p0, q0, hargs, rfl, rfl, h0, r0⟩ := trodAll_cons hA
  obtain ⟨v1, vs1, d1, ds1, p1, q1, hargs1, rfl, rfl, h1, r1⟩ := trodAll_cons r0
  obtain ⟨rfl, rfl, rfl⟩ := trodAll_nil r1
  obtain rfl : args = #[v0, v1] := by cases args; simp_all
  obtain ⟨rfl, rfl⟩ := trodVars_none hV
  obtain ⟨a0, len0, cap0, rfl⟩ := okWide_slice Try.underlying32 (hval 0 32 v0 rfl rfl)
  obtain ⟨a1, len1, cap1, rfl⟩ := okWide_slice Try.underlying22 (hval 1 22 v1 rfl rfl)
  have lt0 : ∀ x ∈ p0, x.block < W.heap.size := by obtain ⟨m, hm⟩ := h0; exact DataW.trod_lt m _ _ _ hm
  have lt1 : ∀ x ∈ p1, x.block < W.heap.size := by obtain ⟨m, hm⟩ := h1; exact DataW.trod_lt m _ _ _ hm
  obtain ⟨S, C, xs, hvals, hx⟩ := open_pieces h0
  obtain ⟨ys, hyl, hy, hyc⟩ := open_bytes h1
  subst hyl
  clear hA0 hval0
  have hwalk : Calls Try.prog 4 #[.slice a0 len0 cap0, .slice a1 ys.length cap1] W fun e w' => e = .returned (.bool true) ∧ Below W.heap.size W w' := by
    by_cases hf : 20 < len0 ∨ 500 < ys.length
    · exact far a0 a1 len0 cap0 ys.length cap1 hf W
    · exact pieces_near a0 cap0 len0 (by omega) S C xs a1 cap1 ys (by omega) W hvals hx hy hyc
  refine hwalk.mono fun e W' ⟨he, bel⟩ => ?_
  subst he
  exact ⟨_, rfl, _, _, _, [], _, [], hW', trodAll_mk1 (shut_bool Try.underlying4 _), (trodAll_cons_mk (Below.trod laidOut (by kernel_rfl) (of_decide_eq_true (by kernel_rfl)) h0 bel lt0) (trodAll_cons_mk (Below.trod laidOut (by kernel_rfl) (of_decide_eq_true (by kernel_rfl)) h1 bel lt1) trodAll_mk0)), rfl, bel.frame _, fun h => by cases h⟩

theorem over : Rows.shaPiecesRow.holds Try.pinned (OpenSpec.ofChange Rows.shaPiecesSpec) :=
  OpenClaim.holds_of_wide 4 Try.f4 rfl rfl rfl rfl rfl rfl rfl ⟨rfl, rfl, rfl, rfl, rfl⟩ rfl rfl rfl rfl rfl (by kernel_rfl) Try.func4 (by kernel_rfl)
    (of_decide_eq_true (by kernel_rfl)) (by unfold Func.isWrapper; first | (rw [if_pos (by decide +kernel)]; kernel_rfl) | (rw [if_neg (by decide +kernel)]; exact ⟨rfl, rfl⟩))
    (fun os started H enc _ => lifted os started H enc)

theorem proved : Rows.ShaPiecesSaid := over
#print axioms proved
end Go.Proofs.Ytcoiaddjfeaciaa.shaPieces
