/- What the calls of package span tell, as values; rows of ids in memory; contract of lives of the statements on span. Conditions: an id has 20 bytes. -/
import Derived.Test.YtieeffebecghiaaSce
namespace Go.Proofs.Ytieeffebecghiaa
set_option maxRecDepth 100000
set_option maxHeartbeats 4000000
open Go.RowKit Go.Lib Go.Great

theorem bits_exist (g : Nat → Bool) : ∀ j, j ≤ 160 → ∃ x, BitsTo g x j
  | 0, _ => ⟨_, BitsTo.start g⟩
  | j + 1, h => by
    obtain ⟨x, hx⟩ := bits_exist g j (by omega)
    exact ⟨_, hx.step (by omega)⟩
theorem laid_exist (o f : List UInt8) (k : Nat) : ∃ x, Laid o k f x := by
  obtain ⟨x, hx⟩ := bits_exist (laidB o k (bitL f)) 160 (Nat.le_refl _)
  refine ⟨x, hx.len, fun m hm => ?_⟩
  rw [hx.bits m hm, if_pos hm]
  rfl
theorem LdIs.laid {o f x : List UInt8} {k : Nat} {e : Ending} (h : LdIs o f (k : Int) e) (hk : k < 160) (hx : Laid o k f x) : e = .returned (.tuple #[.agg (bcells x).toArray, .bool true]) := by
  obtain ⟨y, b, rfl, hy, ⟨k', h1, h2, rfl, h4⟩ | ⟨h1, _⟩⟩ := h
  · obtain rfl : k = k' := by omega
    rw [h4.unique hx]
  · omega
/-- The id that a bucket's call tells, and whether there is such a bucket. -/
structure LdV (o f : List UInt8) (i : Int) (x : List UInt8) (b : Bool) : Prop where
  len : x.length = 20
  yes : b = decide (0 ≤ i ∧ i < 160)
  laid : ∀ k : Nat, i = (k : Int) → k < 160 → Laid o k f x
  val : ∀ e, LdIs o f i e → e = .returned (.tuple #[.agg (bcells x).toArray, .bool b])
theorem ld_value (o f : List UInt8) (i : Int) : ∃ x b, LdV o f i x b := by
  by_cases h : 0 ≤ i ∧ i < 160
  · obtain ⟨k, rfl⟩ : ∃ k : Nat, i = (k : Int) := ⟨i.toNat, by omega⟩
    obtain ⟨x, hx⟩ := laid_exist o f k
    refine ⟨x, true, hx.len, by rw [decide_eq_true h], fun k' hk _ => ?_, fun e he => he.laid (by omega) hx⟩
    obtain rfl : k = k' := by omega
    exact hx
  · refine ⟨List.replicate 20 0, false, by simp, by rw [decide_eq_false h], fun k hk h1 => by omega, fun e he => ?_⟩
    obtain ⟨y, b, rfl, hy, ⟨k', h1, h2, rfl, h4⟩ | ⟨_, rfl, rfl⟩⟩ := he
    · omega
    · rfl

/-- Ids lie in memory: block, type, bytes. -/
def RowsAt (W : World) (L : List (Nat × TypeId × List UInt8)) : Prop := ∀ r ∈ L, r.2.2.length = 20 ∧ W.heap[r.1]? = some (.cells (bcells r.2.2).toArray r.2.1 (0, 0))
section
variable {W W' : World} {L : List (Nat × TypeId × List UInt8)} {g : Nat} {x : List UInt8} {t : TypeId}
theorem RowsAt.nil : RowsAt W [] := fun _ h => by cases h
theorem RowsAt.cons (hx : x.length = 20) (h : W.heap[g]? = some (.cells (bcells x).toArray t (0, 0))) (hL : RowsAt W L) : RowsAt W ((g, t, x) :: L) := fun r hr => by
  cases hr with
  | head => exact ⟨hx, h⟩
  | tail _ hr => exact hL r hr
theorem RowsAt.below (h : RowsAt W L) (hb : Below W.heap.size W W') : RowsAt W' L := fun r hr => ⟨(h r hr).1, (hb.block _ (Array.getElem?_eq_some_iff.1 (h r hr).2).1).trans (h r hr).2⟩
theorem RowsAt.load23 (h : RowsAt W L) (hm : (g, 23, x) ∈ L) : (loadVar 23 ⟨g, 0, none⟩).run Try.prog W = .ok (.agg (bcells x).toArray) W := load26 (h _ hm).1 (h _ hm).2
theorem RowsAt.load26 (h : RowsAt W L) (hm : (g, 26, x) ∈ L) : (loadVar 26 ⟨g, 0, none⟩).run Try.prog W = .ok (.agg (bcells x).toArray) W := load42 (h _ hm).1 (h _ hm).2
theorem below_new (Z X : Array Value) (t : TypeId) : Below W.heap.size W ((W.alloc (.cells Z t)).setRow W.heap.size X) := below_setRow ((Below.refl _ W).alloc (Nat.le_refl _) _) (Nat.le_refl _) X
theorem RowsAt.new (h : RowsAt W L) (hx : x.length = 20) (Z : Array Value) (t : TypeId) : RowsAt ((W.alloc (.cells Z t)).setRow W.heap.size (bcells x).toArray) ((W.heap.size, t, x) :: L) :=
  RowsAt.cons hx (setRow_heap _ _ _ _ t (0, 0) (heap_alloc_new W _)) (h.below (below_new _ _ _))
end

def id128 : List UInt8 := 128 :: List.replicate 19 0
def id1 : List UInt8 := List.replicate 19 0 ++ [1]
theorem laid_128 : Laid (List.replicate 20 0) 0 (List.replicate 20 0) id128 := ⟨by decide, fun m hm => (by decide +kernel : ∀ m : Fin 160, bitL id128 m.val = if m.val < 0 then bitL (List.replicate 20 0) m.val else if m.val = 0 then !bitL (List.replicate 20 0) 0 else bitL (List.replicate 20 0) m.val) ⟨m, hm⟩⟩
theorem laid_1 (f : List UInt8) : Laid (List.replicate 20 0) 159 f id1 := ⟨by decide, fun m hm => by
  have h := (by decide +kernel : ∀ m : Fin 160, bitL id1 m.val = if m.val < 159 then bitL (List.replicate 20 0) m.val else !bitL (List.replicate 20 0) 159) ⟨m, hm⟩
  rw [h]
  by_cases e : m < 159
  · rw [if_pos e, if_pos e]
  · rw [if_neg e, if_neg e, if_pos (by omega)]⟩
theorem built128 (W : World) : (Instr.build 23 #[(0, .int .u8 128)]).run Try.prog W = .ok (.agg (bcells id128).toArray) W := run_build W 23 _ _ (by kernel_rfl)
theorem built1 (W : World) : (Instr.build 23 #[(19, .int .u8 1)]).run Try.prog W = .ok (.agg (bcells id1).toArray) W := run_build W 23 _ _ (by kernel_rfl)
theorem wpList_buildG {P : Program} {ops : Array Oper} {rest : List Oper} {o : Oper} {a : Act} {w : World} {Q : Exit → Act → World → Prop} (hw : Region.wanted o (yielded ops a.tmps) = true) (t : TypeId) (parts : Array (Nat × Operand)) (ho : o.op = .build t parts) (vs : Array (Nat × Value))
    (hv : (parts.map fun (i, x) => (i, a.eval x)) = vs) (v : Value) (hr : (Instr.build t vs).run P w = .ok v w) (h : wpList P ops Q rest (a.put o.dst v) w) : wpList P ops Q (o :: rest) a w :=
  wpList_step fun _ hK => by
    rw [if_pos hw]
    unfold Oper.wp execOp
    simp only [ho, hv, Sem.run_bind, hr, Result.andThen_ok, Sem.run_pure]
    exact hK _ _ h
end Go.Proofs.Ytieeffebecghiaa
