/- Rows of ints; slices.Delete at []int; Order of draw (the program). Conditions: the bytes are at most 900,000. -/
import Derived.Test.YtbfhfnbhfeedbaaDsc
namespace Go.Proofs.Ytbfhfnbhfeedbaa
set_option maxRecDepth 100000
set_option maxHeartbeats 1000000
open Go.RowKit Go.Lib Go.Great
/-- Numbers as cells. -/
def intsL (L : List Nat) : List Value := L.map fun (n : Nat) => .int .i64 (n : Int)
theorem intsL_append (L M : List Nat) : intsL (L ++ M) = intsL L ++ intsL M := by simp [intsL]
theorem intsL_length (L : List Nat) : (intsL L).length = L.length := by simp [intsL]
theorem intsL_get (L : List Nat) (j : Nat) (h : j < L.length) : (intsL L)[j]? = some (.int .i64 (L[j] : Int)) := by simp [intsL, List.getElem?_map, List.getElem?_eq_getElem h]
theorem intsL_one (L : List Nat) : ∀ u ∈ intsL L, u.oneCell' = true := by
  intro u hu
  obtain ⟨n, _, rfl⟩ := List.mem_map.1 hu
  rfl
theorem info3 : ∃ i0, Try.prog.info? 3 = some i0 ∧ i0.zero = some (.int .i64 0) ∧ i0.size = 1 ∧ i0.bytes = 8 := by
  have h : (Try.prog.info? 3).map (fun i => (i.zero, i.size, i.bytes)) = some (some (.int .i64 0), 1, 8) := by kernel_rfl
  cases hi : Try.prog.info? 3 with
  | none => rw [hi] at h; cases h
  | some i =>
    rw [hi] at h
    simp only [Option.map_some, Option.some.injEq, Prod.mk.injEq] at h
    exact ⟨i, rfl, h.1, h.2.1, h.2.2⟩
theorem undInts : Try.prog.underlying 43 = some (.slice 3) := by kernel_rfl
theorem wpList_append_ints {w : World} {ops : Array Oper} {rest : List Oper} {o : Oper} {a : Act} {Q : Exit → Act → World → Prop} (hgd : o.guard = none) (s x : Operand)
    (ho : o.op = .call { callee := .builtin .append, args := #[s, x], argTypes := #[43, 43] })
    (base : Nat) (v : Value) (L : List Nat) (hs : a.eval s = v) (hown : w.ownsRow base 3 1 v L.length (intsL L))
    (y : Value) (M : List Nat) (hx : a.eval x = y) (hr : Src Try.prog 1 43 y M.length (intsL M) w) (h63 : L.length + M.length ≤ 100000) (hbase : base ≤ w.heap.size)
    (h : ∀ v' w', w'.ownsRow base 3 1 v' (L ++ M).length (intsL (L ++ M)) → w.grownBy w' v.ownBlock → wpList Try.prog ops Q rest (a.put o.dst v') w') : wpList Try.prog ops Q (o :: rest) a w :=
  wpList_plain hgd fun _ hK => by
    obtain ⟨i0, hi, hz0, hz1, hz2⟩ := info3
    obtain ⟨v', w', hrun, h2, h3, _⟩ := run_append_srcK w base 43 43 o.type 3 i0 _ 1 8 undInts hi hz0 hz1 hz2 rfl v L.length (intsL L) hown y M.length (intsL M) hr (by simp only [maxLen]; omega) (by omega) hbase
    unfold Oper.wp execOp
    simp only [ho, resolve, invoke, builtin, Sem.run_bind, Sem.run_pure, Result.andThen_ok, List.map_toArray, List.map_cons, List.map_nil, hs, hx, hrun]
    refine hK _ _ (h v' w' ?_ h3)
    rw [List.length_append, intsL_append]
    exact h2
theorem src_int (n : Nat) (W : World) : Src Try.prog 1 43 (.slice (some ⟨W.heap.size, 0, none⟩) 1 1) [n].length (intsL [n]) (W.alloc (.cells #[.int .i64 (n : Int)] 3)) := by
  refine Src.ofSlice _ undInts _ 1 1 (intsL [n]) rfl (fun j u hu => ?_) (intsL_one _)
  rw [Addr.add_mid]
  exact row_range (cs := [.int .i64 (n : Int)]) (heap_alloc_new W (.cells #[.int .i64 (n : Int)] 3)) j u hu
theorem run_make_i (n : Nat) (hc : n ≤ 2000000) (w : World) :
    (Instr.makeSlice 43 (.int .i64 (n : Int)) (.int .i64 (n : Int))).run Try.prog w = .ok (.slice (some ⟨w.heap.size, 0, none⟩) n n) (w.alloc (.cells (List.replicate n (Value.int .i64 0)).toArray 3)) := by
  obtain ⟨i0, hi, hz0, hz1, hz2⟩ := info3
  have hr := run_make (P := Try.prog) w 43 3 i0 _ Try.underlying43 hi hz0 .i64 .i64 n n (by omega) (by omega) (by rw [hz2]; omega) (by omega)
  simp only [Int.toNat_natCast, hz1] at hr
  rw [hr]
  congr 3
  apply Array.ext
  · simp [madeCells]
  · intro j h1 h2
    simp [madeCells, Value.cells, Nat.mod_one]
/-- A row of numbers, zeros behind it. -/
def IRow (w : World) (g : Nat) (l : List Nat) (m : Nat) : Prop := w.heap[g]? = some (.cells (intsL l ++ List.replicate m (Value.int .i64 0)).toArray 3 (0, 0))
theorem IRow.cell {w : World} {g : Nat} {l : List Nat} {m : Nat} (h : IRow w g l m) (j : Nat) (hj : j < l.length) : w.cell? ⟨g, j, none⟩ = some (.int .i64 (l[j] : Int)) := by
  rw [cell_of_row w g j _ 3 (0, 0) h, List.getElem?_toArray, List.getElem?_append_left (by rw [intsL_length]; exact hj), intsL_get l j hj]
theorem holdsI {w : World} {g : Nat} {l : List Nat} {m : Nat} (h : IRow w g l m) : Go.Sort.Holds (Value.int .i64) w g 0 (l.map (fun n : Nat => (n : Int))).toArray := fun j hj => by
  have hj' : j < l.length := by simpa using hj
  refine ⟨?_, frozen_of_row w g _ _ 3 h⟩
  rw [Nat.zero_add, h.cell j hj', getElem!_pos _ j hj]
  simp
theorem getElem_replicate_zero (m j : Nat) (v : Value) (h : j < m) : (List.replicate m v)[j]? = some v := by rw [List.getElem?_replicate, if_pos h]
theorem delete_row {w : World} {g : Nat} {l : List Nat} {m i : Nat} (h : IRow w g l m) (hi : i < l.length) (hl : l.length + m ≤ 100000) :
    Calls Try.prog 59 #[.slice (some ⟨g, 0, none⟩) l.length (l.length + m), .int .i64 (i : Int), .int .i64 ((i : Int) + 1)] w fun e w' => e = .returned (.slice (some ⟨g, 0, none⟩) (l.eraseIdx i).length (l.length + m)) ∧ IRow w' g (l.eraseIdx i) (m + 1) ∧ w.grownBy w' (some g) := by
  have hz : (l.map (fun n : Nat => (n : Int))).length = l.length := by simp
  have hd := Try.slices_Delete_int g 0 (l.length + m) i (i + 1) (l.map (fun n : Nat => (n : Int))) w (holdsI h) (by omega) (by omega) (by omega) (by omega)
  rw [hz, show ((i + 1 : Nat) : Int) = (i : Int) + 1 from by omega] at hd
  refine hd.mono ?_
  rintro e w' ⟨rfl, q, rfl⟩
  have hel : (l.eraseIdx i).length = l.length - 1 := List.length_eraseIdx_of_lt hi
  have hne : l.map (fun n : Nat => (n : Int)) = List.map (fun n : Nat => (n : Int)) l := rfl
  have hmap : (List.map (fun n : Nat => (n : Int)) l).take i ++ (List.map (fun n : Nat => (n : Int)) l).drop (i + 1) = List.map (fun n : Nat => (n : Int)) (l.eraseIdx i) := by
    rw [List.eraseIdx_eq_take_drop_succ, List.map_append, List.map_take, List.map_drop]
  refine ⟨by rw [hel, show i + 1 - i = 1 from by omega], ?_, ?_⟩
  · unfold IRow Go.Sort.putRow Go.Sort.mapBlock
    rw [hmap, show i + 1 - i = 1 from by omega]
    have hh : (Go.Sort.ahead w q).heap[g]? = _ := h
    simp only [Array.getElem?_modify, if_true]
    rw [hh]
    simp only [Option.map_some, Go.Sort.onCells, Option.some.injEq, Obj.cells.injEq, and_true]
    apply Array.ext'
    apply List.ext_getElem?
    intro k
    unfold Go.Sort.putCells
    simp only [Array.toList_mapIdx, List.getElem?_mapIdx, Nat.zero_le, true_and, Nat.zero_add, Nat.sub_zero]
    have hs : (List.map (fun n : Nat => (n : Int)) (l.eraseIdx i) ++ List.replicate 1 (0 : Int)).toArray.size = l.length := by simp [hel]; omega
    rw [hs]
    by_cases hk : k < l.length
    · rw [List.getElem?_append_left (by rw [intsL_length]; exact hk), intsL_get l k hk]
      simp only [Option.map_some, if_pos hk]
      rw [getElem!_pos _ k (by rw [hs]; exact hk)]
      by_cases hk2 : k < l.length - 1
      · rw [List.getElem?_append_left (by rw [intsL_length, hel]; exact hk2), intsL_get _ k (by rw [hel]; exact hk2)]
        rw [List.getElem_toArray, List.getElem_append_left (by simp [hel]; exact hk2), List.getElem_map]
      · rw [List.getElem?_append_right (by rw [intsL_length, hel]; omega), intsL_length, hel, getElem_replicate_zero _ _ _ (by omega)]
        rw [List.getElem_toArray, List.getElem_append_right (by simp [hel]; omega)]
        simp
    · rw [List.getElem?_append_right (by rw [intsL_length]; omega), intsL_length, List.getElem?_append_right (by rw [intsL_length, hel]; omega), intsL_length, hel]
      by_cases hk3 : k - l.length < m
      · rw [getElem_replicate_zero _ _ _ hk3, getElem_replicate_zero _ _ _ (by omega)]
        simp only [Option.map_some, if_neg hk]
      · rw [List.getElem?_replicate, List.getElem?_replicate, if_neg hk3, if_neg (by omega)]
        rfl
  · refine ⟨rfl, rfl, rfl, by simp [Go.Sort.putRow, Go.Sort.mapBlock, Go.Sort.ahead], fun k hk hn => ?_⟩
    unfold Go.Sort.putRow Go.Sort.mapBlock
    simp only [Array.getElem?_modify]
    rw [if_neg (by rintro rfl; exact hn rfl)]
    rfl
end Go.Proofs.Ytbfhfnbhfeedbaa
