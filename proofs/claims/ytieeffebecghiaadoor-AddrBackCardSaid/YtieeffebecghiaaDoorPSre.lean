/- Contract of the reference's Nearer of layer span, and of Ints of the statements on span. Conditions: an id has 20 bytes. -/
import Derived.Test.YtieeffebecghiaaDoorPSrb
namespace Go.Proofs.YtieeffebecghiaaDoor
set_option maxRecDepth 100000
set_option maxHeartbeats 1000000
open Go.RowKit Go.Lib Go.Great

theorem grown_of_bel {w w' : World} (h : Below w.heap.size w w') (row : Option Nat) : w.grownBy w' row := ⟨h.os, h.tape, h.output, h.size, fun k hk _ => h.block k hk⟩
/-- Numbers as cells. -/
def intsL (L : List Nat) : List Value := L.map fun (n : Nat) => .int .i64 (n : Int)
theorem intsL_append (L M : List Nat) : intsL (L ++ M) = intsL L ++ intsL M := by simp [intsL]
theorem intsL_length (L : List Nat) : (intsL L).length = L.length := by simp [intsL]
theorem intsL_one (L : List Nat) : ∀ u ∈ intsL L, u.oneCell' = true := by
  intro u hu
  obtain ⟨n, _, rfl⟩ := List.mem_map.1 hu
  rfl
theorem info3 : ∃ i0, Tryd.prog.info? 3 = some i0 ∧ i0.zero = some (.int .i64 0) ∧ i0.size = 1 ∧ i0.bytes = 8 := by
  have h : (Tryd.prog.info? 3).map (fun i => (i.zero, i.size, i.bytes)) = some (some (.int .i64 0), 1, 8) := by kernel_rfl
  cases hi : Tryd.prog.info? 3 with
  | none => rw [hi] at h; cases h
  | some i =>
    rw [hi] at h
    simp only [Option.map_some, Option.some.injEq, Prod.mk.injEq] at h
    exact ⟨i, rfl, h.1, h.2.1, h.2.2⟩
theorem undInts : Tryd.prog.underlying 55 = some (.slice 3) := by kernel_rfl
theorem wpList_append_ints {w : World} {ops : Array Oper} {rest : List Oper} {o : Oper} {a : Act} {Q : Exit → Act → World → Prop} (hgd : o.guard = none) (s x : Operand)
    (ho : o.op = .call { callee := .builtin .append, args := #[s, x], argTypes := #[55, 55] })
    (base : Nat) (v : Value) (L : List Nat) (hs : a.eval s = v) (hown : w.ownsRow base 3 1 v L.length (intsL L))
    (y : Value) (M : List Nat) (hx : a.eval x = y) (hr : Src Tryd.prog 1 55 y M.length (intsL M) w) (h63 : L.length + M.length ≤ 100000) (hbase : base ≤ w.heap.size)
    (h : ∀ v' w', w'.ownsRow base 3 1 v' (L ++ M).length (intsL (L ++ M)) → w.grownBy w' v.ownBlock → wpList Tryd.prog ops Q rest (a.put o.dst v') w') : wpList Tryd.prog ops Q (o :: rest) a w :=
  wpList_plain hgd fun _ hK => by
    obtain ⟨i0, hi, hz0, hz1, hz2⟩ := info3
    obtain ⟨v', w', hrun, h2, h3, _⟩ := run_append_srcK w base 55 55 o.type 3 i0 _ 1 8 undInts hi hz0 hz1 hz2 rfl v L.length (intsL L) hown y M.length (intsL M) hr (by simp only [maxLen]; omega) (by omega) hbase
    unfold Oper.wp execOp
    simp only [ho, resolve, invoke, builtin, Sem.run_bind, Sem.run_pure, Result.andThen_ok, List.map_toArray, List.map_cons, List.map_nil, hs, hx, hrun]
    refine hK _ _ (h v' w' ?_ h3)
    rw [List.length_append, intsL_append]
    exact h2
theorem src_int (n : Nat) (W : World) : Src Tryd.prog 1 55 (.slice (some ⟨W.heap.size, 0, none⟩) 1 1) [n].length (intsL [n]) (W.alloc (.cells #[.int .i64 (n : Int)] 3)) := by
  refine Src.ofSlice _ undInts _ 1 1 (intsL [n]) rfl (fun j u hu => ?_) (intsL_one _)
  rw [Addr.add_mid]
  exact row_range (cs := [.int .i64 (n : Int)]) (heap_alloc_new W (.cells #[.int .i64 (n : Int)] 3)) j u hu

end Go.Proofs.YtieeffebecghiaaDoor
