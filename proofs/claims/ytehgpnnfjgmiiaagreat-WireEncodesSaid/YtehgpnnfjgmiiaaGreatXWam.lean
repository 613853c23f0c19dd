/- A message's cells one by one: builds, allocations, stores. No condition. lives of the statements of layer wire. No condition. Reply of the program. No condition. -/
import Derived.Test.YtehgpnnfjgmiiaaGreatXWaa
import Derived.Test.YtehgpnnfjgmiiaaGreatXRIin
import Derived.Test.YtehgpnnfjgmiiaaGreatXWag
import Derived.Test.YtehgpnnfjgmiiaaGreatXKPPPRwa
section
namespace Go.Proofs.YtehgpnnfjgmiiaaGreat
open Go.Shelf Go.RowKit Go.Lib Go.Great
set_option maxRecDepth 100000
set_option maxHeartbeats 1000000
/-- A message's cells, of any parts. -/
def encMr (k : Int) (t : Nat) (f y : List UInt8) (vc vr : Value) : List Value := [.int .i64 k, .int .u32 (t : Int)] ++ (bcells f ++ (bcells y ++ [vc, vr]))
theorem encMr_enc (m : Msg) : encM m = encMr m.kind m.txn m.frm m.key m.vc m.vr := rfl
theorem encMr_length {k : Int} {t : Nat} {f y : List UInt8} {vc vr : Value} (hf : f.length = 20) (hy : y.length = 20) : (encMr k t f y vc vr).length = 44 := by
  unfold encMr
  simp only [List.length_append, bcells_length, hf, hy, List.length_cons, List.length_nil]
def zeroM : Msg := ⟨0, 0, zero20, zero20, .slice none 0 0, .slice none 0 0, by omega, by omega, by simp [zero20], by simp [zero20], rfl, rfl⟩
theorem zVM (W : World) : (zeroValue 28).run Tryz.prog W = .ok (.agg (encM zeroM).toArray) W := by kernel_rfl
theorem run_build28z (W : World) : (Instr.build 28 #[]).run Tryz.prog W = .ok (.agg (encM zeroM).toArray) W := by kernel_rfl
theorem run_build28k (k : Int) (W : World) : (Instr.build 28 #[(0, .int .i64 k)]).run Tryz.prog W = .ok (.agg (encMr k 0 zero20 zero20 (.slice none 0 0) (.slice none 0 0)).toArray) W := by kernel_rfl
theorem run_build28p (k : Int) (t : Int) (W : World) : (Instr.build 28 #[(0, .int .i64 k), (1, .int .u32 t)]).run Tryz.prog W = .ok (.agg ([Value.int .i64 k, .int .u32 t] ++ (bcells zero20 ++ (bcells zero20 ++ [Value.slice none 0 0, .slice none 0 0]))).toArray) W := by kernel_rfl
theorem run_build28r (k : Int) (t : Nat) (xs ys : List UInt8) (hx : xs.length = 20) (hy : ys.length = 20) (W : World) : (Instr.build 28 #[(0, .int .i64 k), (1, .int .u32 (t : Int)), (2, .agg (bcells xs).toArray), (3, .agg (bcells ys).toArray)]).run Tryz.prog W = .ok (.agg (encMr k t xs ys (.slice none 0 0) (.slice none 0 0)).toArray) W := by
  obtain ⟨x0, xs, rfl⟩ := List.exists_cons_of_length_eq_add_one (show xs.length = 19 + 1 by simpa using hx)
  obtain ⟨x1, xs, rfl⟩ := List.exists_cons_of_length_eq_add_one (show xs.length = 18 + 1 by simpa using hx)
  obtain ⟨x2, xs, rfl⟩ := List.exists_cons_of_length_eq_add_one (show xs.length = 17 + 1 by simpa using hx)
  obtain ⟨x3, xs, rfl⟩ := List.exists_cons_of_length_eq_add_one (show xs.length = 16 + 1 by simpa using hx)
  obtain ⟨x4, xs, rfl⟩ := List.exists_cons_of_length_eq_add_one (show xs.length = 15 + 1 by simpa using hx)
  obtain ⟨x5, xs, rfl⟩ := List.exists_cons_of_length_eq_add_one (show xs.length = 14 + 1 by simpa using hx)
  obtain ⟨x6, xs, rfl⟩ := List.exists_cons_of_length_eq_add_one (show xs.length = 13 + 1 by simpa using hx)
  obtain ⟨x7, xs, rfl⟩ := List.exists_cons_of_length_eq_add_one (show xs.length = 12 + 1 by simpa using hx)
  obtain ⟨x8, xs, rfl⟩ := List.exists_cons_of_length_eq_add_one (show xs.length = 11 + 1 by simpa using hx)
  obtain ⟨x9, xs, rfl⟩ := List.exists_cons_of_length_eq_add_one (show xs.length = 10 + 1 by simpa using hx)
  obtain ⟨x10, xs, rfl⟩ := List.exists_cons_of_length_eq_add_one (show xs.length = 9 + 1 by simpa using hx)
  obtain ⟨x11, xs, rfl⟩ := List.exists_cons_of_length_eq_add_one (show xs.length = 8 + 1 by simpa using hx)
  obtain ⟨x12, xs, rfl⟩ := List.exists_cons_of_length_eq_add_one (show xs.length = 7 + 1 by simpa using hx)
  obtain ⟨x13, xs, rfl⟩ := List.exists_cons_of_length_eq_add_one (show xs.length = 6 + 1 by simpa using hx)
  obtain ⟨x14, xs, rfl⟩ := List.exists_cons_of_length_eq_add_one (show xs.length = 5 + 1 by simpa using hx)
  obtain ⟨x15, xs, rfl⟩ := List.exists_cons_of_length_eq_add_one (show xs.length = 4 + 1 by simpa using hx)
  obtain ⟨x16, xs, rfl⟩ := List.exists_cons_of_length_eq_add_one (show xs.length = 3 + 1 by simpa using hx)
  obtain ⟨x17, xs, rfl⟩ := List.exists_cons_of_length_eq_add_one (show xs.length = 2 + 1 by simpa using hx)
  obtain ⟨x18, xs, rfl⟩ := List.exists_cons_of_length_eq_add_one (show xs.length = 1 + 1 by simpa using hx)
  obtain ⟨x19, xs, rfl⟩ := List.exists_cons_of_length_eq_add_one (show xs.length = 0 + 1 by simpa using hx)
  obtain rfl := List.eq_nil_of_length_eq_zero (show xs.length = 0 by simpa using hx)
  obtain ⟨y0, ys, rfl⟩ := List.exists_cons_of_length_eq_add_one (show ys.length = 19 + 1 by simpa using hy)
  obtain ⟨y1, ys, rfl⟩ := List.exists_cons_of_length_eq_add_one (show ys.length = 18 + 1 by simpa using hy)
  obtain ⟨y2, ys, rfl⟩ := List.exists_cons_of_length_eq_add_one (show ys.length = 17 + 1 by simpa using hy)
  obtain ⟨y3, ys, rfl⟩ := List.exists_cons_of_length_eq_add_one (show ys.length = 16 + 1 by simpa using hy)
  obtain ⟨y4, ys, rfl⟩ := List.exists_cons_of_length_eq_add_one (show ys.length = 15 + 1 by simpa using hy)
  obtain ⟨y5, ys, rfl⟩ := List.exists_cons_of_length_eq_add_one (show ys.length = 14 + 1 by simpa using hy)
  obtain ⟨y6, ys, rfl⟩ := List.exists_cons_of_length_eq_add_one (show ys.length = 13 + 1 by simpa using hy)
  obtain ⟨y7, ys, rfl⟩ := List.exists_cons_of_length_eq_add_one (show ys.length = 12 + 1 by simpa using hy)
  obtain ⟨y8, ys, rfl⟩ := List.exists_cons_of_length_eq_add_one (show ys.length = 11 + 1 by simpa using hy)
  obtain ⟨y9, ys, rfl⟩ := List.exists_cons_of_length_eq_add_one (show ys.length = 10 + 1 by simpa using hy)
  obtain ⟨y10, ys, rfl⟩ := List.exists_cons_of_length_eq_add_one (show ys.length = 9 + 1 by simpa using hy)
  obtain ⟨y11, ys, rfl⟩ := List.exists_cons_of_length_eq_add_one (show ys.length = 8 + 1 by simpa using hy)
  obtain ⟨y12, ys, rfl⟩ := List.exists_cons_of_length_eq_add_one (show ys.length = 7 + 1 by simpa using hy)
  obtain ⟨y13, ys, rfl⟩ := List.exists_cons_of_length_eq_add_one (show ys.length = 6 + 1 by simpa using hy)
  obtain ⟨y14, ys, rfl⟩ := List.exists_cons_of_length_eq_add_one (show ys.length = 5 + 1 by simpa using hy)
  obtain ⟨y15, ys, rfl⟩ := List.exists_cons_of_length_eq_add_one (show ys.length = 4 + 1 by simpa using hy)
  obtain ⟨y16, ys, rfl⟩ := List.exists_cons_of_length_eq_add_one (show ys.length = 3 + 1 by simpa using hy)
  obtain ⟨y17, ys, rfl⟩ := List.exists_cons_of_length_eq_add_one (show ys.length = 2 + 1 by simpa using hy)
  obtain ⟨y18, ys, rfl⟩ := List.exists_cons_of_length_eq_add_one (show ys.length = 1 + 1 by simpa using hy)
  obtain ⟨y19, ys, rfl⟩ := List.exists_cons_of_length_eq_add_one (show ys.length = 0 + 1 by simpa using hy)
  obtain rfl := List.eq_nil_of_length_eq_zero (show ys.length = 0 by simpa using hy)
  kernel_rfl
theorem wpList_allocM {w : World} {ops : Array Oper} {rest : List Oper} {o : Oper} {a : Act} {Q : Exit → Act → World → Prop} (n : Nat) (hn : w.heap.size = n) (hgd : o.guard = none) (d : Nat) (hd : o.dst = some d) (ho : o.op = .alloc 28)
    (h : wpList Tryz.prog ops Q rest (a.put (some d) (.pointer (some ⟨n, 0, none⟩))) (w.alloc (.cells (encM zeroM).toArray 28))) : wpList Tryz.prog ops Q (o :: rest) a w :=
  wpList_plain hgd fun _ hK => by
    subst hn
    have hz := fun W => zVM W
    generalize (encM zeroM).toArray = Z at hz h
    unfold Oper.wp execOp
    simp only [ho, Instr.alloc, Sem.run_bind, hz, Result.andThen_ok, Value.cells]
    simp [Oper.upon, hd]
    exact hK _ _ h
theorem encMr_one {k : Int} {t : Nat} {f y : List UInt8} {vc vr : Value} (h1 : vc.oneCell' = true) (h2 : vr.oneCell' = true) : ∀ v ∈ encMr k t f y vc vr, v.oneCell' = true := by
  intro v hv
  unfold encMr at hv
  rcases List.mem_append.1 hv with h | h
  · simp only [List.mem_cons, List.not_mem_nil, or_false] at h
    rcases h with rfl | rfl <;> rfl
  · rcases List.mem_append.1 h with h | h
    · exact bcells_oneI _ v h
    · rcases List.mem_append.1 h with h | h
      · exact bcells_oneI _ v h
      · simp only [List.mem_cons, List.not_mem_nil, or_false] at h
        rcases h with rfl | rfl <;> assumption
theorem wpList_storeM {w : World} {ops : Array Oper} {rest : List Oper} {o : Oper} {a : Act} {Q : Exit → Act → World → Prop} (hgd : o.guard = none) (x y : Operand) (ho : o.op = .store 28 x y) (g : Nat) (cs : List Value) (hl : cs.length = 44) (h1 : ∀ v ∈ cs, v.oneCell' = true) (hx : a.eval x = .pointer (some ⟨g, 0, none⟩)) (hy : a.eval y = .agg cs.toArray)
    (ht : w.there g 0 44) (h : wpList Tryz.prog ops Q rest (a.put o.dst undef) (w.setCells g 0 cs)) : wpList Tryz.prog ops Q (o :: rest) a w := by
  have hsz : cs.toArray.size = 44 := by rw [List.size_toArray, hl]
  refine wpList_store_mid (P := Tryz.prog) hgd 28 x y ho g 0 cs.toArray hx hy (by rw [hsz]; exact ht) (by rw [hsz]; exact size28m) (by
    rw [Array.all_eq_true_iff_forall_mem]
    intro v hv
    exact h1 v (by simpa using hv)) ?_
  exact h
/-- A store into the block made last. -/
theorem wpList_storeMn {w : World} {ops : Array Oper} {rest : List Oper} {o : Oper} {a : Act} {Q : Exit → Act → World → Prop} (hgd : o.guard = none) (x y : Operand) (ho : o.op = .store 28 x y) (n : Nat) (hn : w.heap.size = n) (zs cs : List Value) (hz : zs.length = 44) (hl : cs.length = 44) (h1 : ∀ v ∈ cs, v.oneCell' = true) (hx : a.eval x = .pointer (some ⟨n, 0, none⟩)) (hy : a.eval y = .agg cs.toArray)
    (h : wpList Tryz.prog ops Q rest (a.put o.dst undef) (w.alloc (.cells cs.toArray 28))) : wpList Tryz.prog ops Q (o :: rest) a (w.alloc (.cells zs.toArray 28)) := by
  subst hn
  refine wpList_storeM hgd x y ho w.heap.size cs hl h1 hx hy ?_ ?_
  · have := there_new w 28 zs
    rwa [hz] at this
  · rw [setCells_all w 28 zs cs (by rw [hl, hz])]
    exact h
theorem encM_one (m : Msg) : ∀ v ∈ encM m, v.oneCell' = true := encMr_one m.oc m.os

section
variable {W : World} {q : Nat} {k : Int} {t : Nat} {f y : List UInt8} {vc vr : Value}
theorem mput_k (h : W.heap[q]? = some (.cells (encMr k t f y vc vr).toArray 28 (0, 0))) (k' : Int) : (W.setCell ⟨q, 0, none⟩ (.int .i64 k')).heap[q]? = some (.cells (encMr k' t f y vc vr).toArray 28 (0, 0)) := heap_setCell_same W q 0 _ 28 _ h
theorem mput_t (h : W.heap[q]? = some (.cells (encMr k t f y vc vr).toArray 28 (0, 0))) (t' : Nat) : (W.setCell ⟨q, 1, none⟩ (.int .u32 (t' : Int))).heap[q]? = some (.cells (encMr k t' f y vc vr).toArray 28 (0, 0)) := heap_setCell_same W q 1 _ 28 _ h
theorem encMr_split (hf : f.length = 20) (hy : y.length = 20) : encMr k t f y vc vr = ([.int .i64 k, .int .u32 (t : Int)] ++ bcells f ++ bcells y) ++ [vc, vr] := by unfold encMr; simp
theorem mput_c (hf : f.length = 20) (hy : y.length = 20) (h : W.heap[q]? = some (.cells (encMr k t f y vc vr).toArray 28 (0, 0))) (v : Value) : (W.setCell ⟨q, 42, none⟩ v).heap[q]? = some (.cells (encMr k t f y v vr).toArray 28 (0, 0)) := by
  rw [heap_setCell_same W q 42 _ 28 _ h]
  have hl : ([Value.int .i64 k, .int .u32 (t : Int)] ++ bcells f ++ bcells y).length = 42 := by simp only [List.length_append, bcells_length, hf, hy, List.length_cons, List.length_nil]
  rw [encMr_split hf hy, encMr_split hf hy, List.setIfInBounds_toArray, List.set_append_right _ _ (by omega), hl]
  rfl
theorem mput_r (hf : f.length = 20) (hy : y.length = 20) (h : W.heap[q]? = some (.cells (encMr k t f y vc vr).toArray 28 (0, 0))) (v : Value) : (W.setCell ⟨q, 43, none⟩ v).heap[q]? = some (.cells (encMr k t f y vc v).toArray 28 (0, 0)) := by
  rw [heap_setCell_same W q 43 _ 28 _ h]
  have hl : ([Value.int .i64 k, .int .u32 (t : Int)] ++ bcells f ++ bcells y).length = 42 := by simp only [List.length_append, bcells_length, hf, hy, List.length_cons, List.length_nil]
  rw [encMr_split hf hy, encMr_split hf hy, List.setIfInBounds_toArray, List.set_append_right _ _ (by omega), hl]
  rfl
theorem mput_f (hf : f.length = 20) (hy : y.length = 20) (h : W.heap[q]? = some (.cells (encMr k t f y vc vr).toArray 28 (0, 0))) (f' : List UInt8) (hf' : f'.length = 20) : (W.setCells q 2 (bcells f')).heap[q]? = some (.cells (encMr k t f' y vc vr).toArray 28 (0, 0)) := by
  have hl := encMr_length (k := k) (t := t) (vc := vc) (vr := vr) hf hy
  rw [heap_setCells_row q 28 (bcells f') 2 _ W h (by rw [bcells_length, hf', hl]; omega)]
  congr 3
  unfold encMr
  rw [bcells_length, hf']
  have e1 : ([Value.int .i64 k, .int .u32 (t : Int)] ++ (bcells f ++ (bcells y ++ [vc, vr]))).take 2 = [.int .i64 k, .int .u32 (t : Int)] := rfl
  have e2 : ([Value.int .i64 k, .int .u32 (t : Int)] ++ (bcells f ++ (bcells y ++ [vc, vr]))).drop (2 + 20) = bcells y ++ [vc, vr] := by
    show (bcells f ++ (bcells y ++ [vc, vr])).drop 20 = _
    rw [List.drop_append_of_le_length (by rw [bcells_length, hf]; omega), List.drop_eq_nil_of_le (by rw [bcells_length, hf]; omega), List.nil_append]
  rw [e1, e2, List.append_assoc]
theorem mput_y (hf : f.length = 20) (hy : y.length = 20) (h : W.heap[q]? = some (.cells (encMr k t f y vc vr).toArray 28 (0, 0))) (y' : List UInt8) (hy' : y'.length = 20) : (W.setCells q 22 (bcells y')).heap[q]? = some (.cells (encMr k t f y' vc vr).toArray 28 (0, 0)) := by
  have hl := encMr_length (k := k) (t := t) (vc := vc) (vr := vr) hf hy
  rw [heap_setCells_row q 28 (bcells y') 22 _ W h (by rw [bcells_length, hy', hl]; omega)]
  congr 3
  unfold encMr
  rw [bcells_length, hy']
  have hlf : (bcells f).length = 20 := by rw [bcells_length, hf]
  have hly : (bcells y).length = 20 := by rw [bcells_length, hy]
  have e1 : ([Value.int .i64 k, .int .u32 (t : Int)] ++ (bcells f ++ (bcells y ++ [vc, vr]))).take 22 = [.int .i64 k, .int .u32 (t : Int)] ++ bcells f := by
    show _ :: _ :: (bcells f ++ (bcells y ++ [vc, vr])).take 20 = _
    rw [List.take_append_of_le_length (by omega), List.take_of_length_le (by omega)]
    rfl
  have e2 : ([Value.int .i64 k, .int .u32 (t : Int)] ++ (bcells f ++ (bcells y ++ [vc, vr]))).drop (22 + 20) = [vc, vr] := by
    show (bcells f ++ (bcells y ++ [vc, vr])).drop 40 = _
    rw [← List.append_assoc, List.drop_append_of_le_length (by rw [List.length_append]; omega), List.drop_eq_nil_of_le (by rw [List.length_append]; omega), List.nil_append]
  rw [e1, e2]
  simp
end
end Go.Proofs.YtehgpnnfjgmiiaaGreat
end
section
namespace Go.Proofs.YtehgpnnfjgmiiaaGreat
open Go.Shelf Go.RowKit Go.Lib Go.Great
set_option maxRecDepth 100000
set_option maxHeartbeats 1000000
def livM : Msg := ⟨1, 1, zero20, zero20, .slice none 0 0, .slice none 0 0, by omega, by omega, by simp [zero20], by simp [zero20], rfl, rfl⟩
def livB : List UInt8 := [1, 1, 0, 0, 0, 1, 0, 0, 0, 0, 0, 0, 0, 0, 0, 0, 0, 0, 0, 0, 0, 0, 0, 0, 0, 0]
theorem liv_good : goodM 1 zero20 [] [] = true := by decide +kernel
theorem liv_bytes : bytesM 1 1 zero20 zero20 [] [] = livB := by
  unfold bytesM
  rw [liv_good]
  simp only [if_true]
  decide +kernel
theorem run_build28l (W : World) : (Instr.build 28 #[(0, .int .i64 1), (1, .int .u32 1)]).run Tryz.prog W = .ok (.agg (encM livM).toArray) W := by kernel_rfl
theorem wlives_any (w : World) : Calls Tryz.prog 7 #[] w fun e w' => e = .returned (.bool true) ∧ Below w.heap.size w w' := by
  have h8 := encode_any livM [] [] w (conV_nil w) (insV_nil w) (by simp) (by simp)
  have H8 : Hid (Calls Tryz.prog 8 #[.agg (encM livM).toArray] w fun e w' => ∃ g o c, e = .returned (.tuple #[.slice (some ⟨g, o, none⟩) 26 c, .int .i64 0]) ∧ 26 ≤ c ∧ BAt w' w'.heap.size (some ⟨g, o, none⟩) livB ∧ Below w.heap.size w w') := by
    refine Lib.hid (h8.mono ?_)
    rintro e w' ⟨A, c, rfl, hq, hA, hb⟩
    have e1 : bytesM livM.kind livM.txn livM.frm livM.key [] [] = livB := liv_bytes
    have e2 : goodM livM.kind livM.key [] [] = true := liv_good
    rw [e1] at hq hA ⊢
    rw [e2]
    rcases hA with h | ⟨g, o, rfl, h⟩
    · cases h
    · exact ⟨g, o, c, rfl, hq, .inr ⟨g, o, rfl, h⟩, hb⟩
  have H15 : Hid (∀ W, Calls Tryz.prog 15 #[.int .i64 1, .int .i64 5] W fun e w' => e = .returned (.bool true) ∧ w' = W) := Lib.hid (fun W => answers_any 1 5 W)
  have HCV : Hid (∀ (W : World) (g o c : Nat), BAt W W.heap.size (some ⟨g, o, none⟩) livB → (convert 31 9 (.slice (some ⟨g, o, none⟩) 6 c)).run Tryz.prog W = .ok (.string ⟨#[1, 1, 0, 0, 0, 1]⟩) W) := Lib.hid (fun W g o c h => by
    have h6 : BAt W W.heap.size (some ⟨g, o, none⟩) [1, 1, 0, 0, 0, 1] := by
      rcases h with h | ⟨g', o', he, hg, hc⟩
      · cases h
      · injection he with he
        injection he with e1 e2
        subst e1 e2
        exact .inr ⟨_, _, rfl, hg, fun j hj => by
          have h := hc j (by simp [livB]; simp at hj; omega)
          rw [h]
          match j, hj with
          | 0, _ => rfl
          | 1, _ => rfl
          | 2, _ => rfl
          | 3, _ => rfl
          | 4, _ => rfl
          | 5, _ => rfl
          | k + 6, hj => exact absurd hj (by simp)⟩
    exact run_convert_bat (P := Tryz.prog) 31 9 5 c Tryz.underlying31 Tryz.underlying5 Tryz.underlying9 h6)
  have HBU := Lib.hid run_build28l
  generalize (encM livM).toArray = X at *
  clear h8
  go_enter Tryz.func7, Tryz.ntmps7
  go_wp2_with (first
    | ((with_reducible refine wpList_buildV (o := ⟨some 4, _, _, _, _, _⟩) rfl 28 _ rfl _ ?_ _ (HBU.out _) ?_); (simp only [List.map_toArray, List.map_cons, List.map_nil]; rfl))
    | (go_at_call 8; (with_reducible refine H8.out.mono ?_); rintro e w1 ⟨g1, o1, c1, rfl, hc1, h1, hb1⟩; have hcv := HCV.out _ g1 o1 c1 h1)
    | (go_at_call 15; (with_reducible refine (H15.out _).mono ?_); rintro e w2 ⟨rfl, rfl⟩))
  go_ret
  exact ⟨rfl, hb1⟩
end Go.Proofs.YtehgpnnfjgmiiaaGreat
end
section
namespace Go.Proofs.YtehgpnnfjgmiiaaGreat
open Go.Shelf Go.RowKit Go.Lib Go.Great
set_option maxRecDepth 100000
set_option maxHeartbeats 1000000
/-- The message that answers another one. -/
def replyM (m : Msg) (k : Int) (hk : -9223372036854775808 ≤ k ∧ k ≤ 9223372036854775807) (f : List UInt8) (hf : f.length = 20) : Msg := ⟨k, m.txn, f, m.key, .slice none 0 0, .slice none 0 0, hk, m.ht, hf, m.hy, rfl, rfl⟩
theorem reply_any (m : Msg) (k : Int) (f : List UInt8) (hf : f.length = 20) (w : World) : Calls Tryz.prog 10 #[.agg (encM m).toArray, .int .i64 k, .agg (bcells f).toArray] w fun e w' => e = .returned (.agg (encMr k m.txn f m.key (.slice none 0 0) (.slice none 0 0)).toArray) ∧ Below w.heap.size w w' := by
  obtain ⟨W2, hW2⟩ : ∃ W2, W2 = (w.alloc (.cells (encM m).toArray 28)).alloc (.cells (bcells f).toArray 24) := ⟨_, rfl⟩
  obtain ⟨h1, h2, hb⟩ := heap2 w (.cells (encM m).toArray 28) (.cells (bcells f).toArray 24)
  rw [← hW2] at h1 h2 hb
  have sz : W2.heap.size = w.heap.size + 2 := by rw [hW2]; simp
  have h3 : Below (w.heap.size + 2) W2 (W2.alloc (.cells (encM zeroM).toArray 28)) := (Below.refl _ W2).alloc (by omega) _
  have F := fldM_below h1 h3 (by omega)
  have q1 := F.txn
  have HK := Lib.hid F.key
  have HF : Hid ((loadVar 24 ⟨w.heap.size + 1, 0, none⟩).run Tryz.prog (W2.alloc (.cells (encM zeroM).toArray 28)) = .ok (.agg (bcells f).toArray) (W2.alloc (.cells (encM zeroM).toArray 28))) := Lib.hid (run_loadVar_mid _ (w.heap.size + 1) 0 24 (bcells f) _ (row_range ((h3.block _ (by omega)).trans h2)) Tryz.underlying24 rfl (by rw [bcells_length, hf]; exact size23i))
  have HBU := Lib.hid (fun W => run_build28r k m.txn f m.key hf m.hy W)
  have hl := encMr_length (k := k) (t := m.txn) (vc := .slice none 0 0) (vr := .slice none 0 0) hf m.hy
  have ho : ∀ v ∈ encMr k m.txn f m.key (.slice none 0 0) (.slice none 0 0), v.oneCell' = true := encMr_one rfl rfl
  obtain ⟨cs, hcs⟩ : ∃ cs, cs = encMr k m.txn f m.key (.slice none 0 0) (.slice none 0 0) := ⟨_, rfl⟩
  rw [← hcs] at HBU hl ho ⊢
  have HZ := Lib.hid (encM_length zeroM)
  have HL := Lib.hid hl
  have HO := Lib.hid ho
  have HB := Lib.hid (hb.trans (((Below.refl w.heap.size W2).alloc (by omega) (.cells cs.toArray 28))))
  have HRR : Hid ((W2.alloc (.cells cs.toArray 28)).rangeAt (w.heap.size + 2) 0 cs) := Lib.hid (by rw [← sz]; exact row_range (heap_alloc_new W2 (.cells cs.toArray 28)))
  have HW := Lib.hid hW2
  have HSZ := Lib.hid sz
  generalize (encM m).toArray = X at *
  generalize (bcells f).toArray = FX at *
  generalize (bcells m.key).toArray = KX at *
  generalize m.txn = tx at *
  clear h1 h2 hb h3 F hcs hl ho hW2 sz
  go_enter Tryz.func10, Tryz.ntmps10
  go_wp2_with (first
    | (rw [← HW.out]; (with_reducible refine wpList_allocM (o := ⟨some 6, _, _, _, _, _⟩) (w.heap.size + 2) HSZ.out rfl 6 rfl rfl ?_))
    | ((with_reducible refine wpList_loadV (op := ⟨some 10, _, _, _, _, _⟩) rfl 24 (.tmp 5) rfl _ ?_ _ HF.out ?_); rfl)
    | ((with_reducible refine wpList_loadV (op := ⟨some 12, _, _, _, _, _⟩) rfl 24 (.tmp 11) rfl _ ?_ _ HK.out ?_); rfl)
    | ((with_reducible refine wpList_buildV (o := ⟨some 13, _, _, _, _, _⟩) rfl 28 _ rfl _ ?_ _ (HBU.out _) ?_); (simp only [List.map_toArray, List.map_cons, List.map_nil]; rfl))
    | ((with_reducible refine wpList_storeMn (o := ⟨none, _, _, _, _, _⟩) rfl (.tmp 6) (.tmp 13) rfl (w.heap.size + 2) HSZ.out (encM zeroM) cs HZ.out HL.out HO.out ?_ ?_ ?_); rfl; rfl))
  refine bodyPost_ret (results_cell1 (p := 6) (ty := 28) rfl _ _ (w.heap.size + 2) 0 cs _ rfl HRR.out Tryz.underlying28 rfl (by rw [HL.out]; exact size28m)) rfl ?_
  exact ⟨rfl, HB.out⟩
end Go.Proofs.YtehgpnnfjgmiiaaGreat
end
