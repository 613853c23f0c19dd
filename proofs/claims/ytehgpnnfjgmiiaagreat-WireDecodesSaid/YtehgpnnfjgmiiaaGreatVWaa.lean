/- Messages as values; loads of their fields; what a good message is, plain. No condition. A message's cells one by one: builds, allocations, stores. No condition. nextID of the program; what a function that reads leaves of two blocks of its own. No condition. Contract of next of package contact. Conditions: at most 900,000 bytes. -/
import Derived.Test.YtehgpnnfjgmiiaaGreatVOja
import Derived.Test.YtehgpnnfjgmiiaaGreatVObd
import Derived.Test.YtehgpnnfjgmiiaaGreatVNCdc
import Derived.Test.YtehgpnnfjgmiiaaGreatVNCdg
import Derived.Test.YtehgpnnfjgmiiaaGreatVRKCdk
import Derived.Test.YtehgpnnfjgmiiaaGreatVRIip
import Derived.Test.YtehgpnnfjgmiiaaGreatVIiv
import Derived.Test.YtehgpnnfjgmiiaaGreatVObc
import Derived.Test.YtehgpnnfjgmiiaaGreatVROcc
import Derived.Test.YtehgpnnfjgmiiaaGreatVRERefb
import Derived.Test.YtehgpnnfjgmiiaaGreatVREOctc
section
namespace Go.Proofs.YtehgpnnfjgmiiaaGreat
open Go.Shelf Go.RowKit Go.Lib Go.Great
set_option maxRecDepth 100000
set_option maxHeartbeats 1000000
/-- A message: its numbers and ids, and what its two lists are as values. -/
structure Msg where
  kind : Int
  txn : Nat
  frm : List UInt8
  key : List UInt8
  vc : Value
  vr : Value
  hk : -9223372036854775808 ≤ kind ∧ kind ≤ 9223372036854775807
  ht : txn < 4294967296
  hf : frm.length = 20
  hy : key.length = 20
  oc : vc.oneCell' = true
  os : vr.oneCell' = true
def encM (m : Msg) : List Value := [.int .i64 m.kind, .int .u32 (m.txn : Int)] ++ (bcells m.frm ++ (bcells m.key ++ [m.vc, m.vr]))
theorem encM_length (m : Msg) : (encM m).length = 44 := by
  unfold encM
  simp only [List.length_append, bcells_length, m.hf, m.hy, List.length_cons, List.length_nil]
theorem size28m : (Tryz.prog.info? 28).map (·.size) = some 44 := by kernel_rfl
/-- The fields of a message in a block. -/
structure FldM (w : World) (g : Nat) (m : Msg) : Prop where
  kind : w.cell? ⟨g, 0, none⟩ = some (.int .i64 m.kind)
  txn : w.cell? ⟨g, 1, none⟩ = some (.int .u32 (m.txn : Int))
  frm : (loadVar 24 ⟨g, 2, none⟩).run Tryz.prog w = .ok (.agg (bcells m.frm).toArray) w
  key : (loadVar 24 ⟨g, 22, none⟩).run Tryz.prog w = .ok (.agg (bcells m.key).toArray) w
  con : w.cell? ⟨g, 42, none⟩ = some m.vc
  ros : w.cell? ⟨g, 43, none⟩ = some m.vr
  all : (loadVar 28 ⟨g, 0, none⟩).run Tryz.prog w = .ok (.agg (encM m).toArray) w
  frmR : w.rangeAt g 2 (bcells m.frm)
  keyR : w.rangeAt g 22 (bcells m.key)
theorem fldM {w : World} {g : Nat} {t : TypeId} {m : Msg} (h : w.heap[g]? = some (.cells (encM m).toArray t (0, 0))) : FldM w g m := by
  have hr : w.rangeAt g 0 (encM m) := row_range h
  have r1 : w.rangeAt g 2 (bcells m.frm ++ (bcells m.key ++ [m.vc, m.vr])) := by
    have := range_backI (a := [Value.int .i64 m.kind, .int .u32 (m.txn : Int)]) (show w.rangeAt g 0 _ from hr)
    simpa using this
  have r2 : w.rangeAt g 22 (bcells m.key ++ [m.vc, m.vr]) := by
    have := range_backI r1
    rwa [bcells_length, m.hf] at this
  have r3 : w.rangeAt g 42 [m.vc, m.vr] := by
    have := range_backI r2
    rwa [bcells_length, m.hy] at this
  refine ⟨?_, ?_, ?_, ?_, r3 0 _ rfl, r3 1 _ rfl, ?_, range_frontI r1, range_frontI r2⟩
  · have := hr 0 (.int .i64 m.kind) rfl
    simpa using this
  · have := hr 1 (.int .u32 (m.txn : Int)) rfl
    simpa using this
  · exact run_loadVar_mid w g 2 24 (bcells m.frm) _ (range_frontI r1) Tryz.underlying24 rfl (by rw [bcells_length, m.hf]; exact size23i)
  · exact run_loadVar_mid w g 22 24 (bcells m.key) _ (range_frontI r2) Tryz.underlying24 rfl (by rw [bcells_length, m.hy]; exact size23i)
  · exact run_loadVar_mid w g 0 28 (encM m) _ hr Tryz.underlying28 rfl (by rw [encM_length]; exact size28m)
theorem fldM_below {w W : World} {g B : Nat} {t : TypeId} {m : Msg} (h : w.heap[g]? = some (.cells (encM m).toArray t (0, 0))) (hb : Below B w W) (hg : g < B) : FldM W g m := fldM ((hb.block g hg).trans h)
/-- A slice of contacts, and of instances, as a value. -/
def ConV (w : World) (v : Value) (L : List Con) : Prop := ∃ A c, v = .slice A L.length c ∧ CAt w w.heap.size A L ∧ (A = none ∨ ∃ g off, A = some ⟨g, off, none⟩)
def InsV (w : World) (v : Value) (L : List Ins) : Prop := ∃ A c, v = .slice A L.length c ∧ IAt w w.heap.size A L
theorem ConV.below {w w' : World} {v : Value} {L : List Con} (h : ConV w v L) (hb : Below w.heap.size w w') : ConV w' v L := by
  obtain ⟨A, c, rfl, h1, h2⟩ := h
  exact ⟨A, c, rfl, (h1.below hb).more hb.size, h2⟩
theorem InsV.below {w w' : World} {v : Value} {L : List Ins} (h : InsV w v L) (hb : Below w.heap.size w w') : InsV w' v L := by
  obtain ⟨A, c, rfl, h1⟩ := h
  exact ⟨A, c, rfl, (h1.below hb).more hb.size⟩
theorem conV_nil (w : World) : ConV w (.slice none 0 0) [] := ⟨none, 0, rfl, .inl rfl, .inl rfl⟩
theorem insV_nil (w : World) : InsV w (.slice none 0 0) [] := ⟨none, 0, rfl, .inl rfl⟩
/-- A good message, plain. -/
def zero20 : List UInt8 := List.replicate 20 0
def goodM (k : Int) (y : List UInt8) (L : List Con) (R : List Ins) : Bool :=
  if k = 1 ∨ k = 5 then (y == zero20) && (decide (L.length = 0) && decide (R.length = 0))
  else if k = 2 ∨ k = 3 ∨ k = 8 ∨ k = 9 then decide (L.length = 0) && decide (R.length = 0)
  else if k = 6 then goodC (ctsC L) && decide (R.length = 0)
  else if k = 4 ∨ k = 7 then decide (L.length = 0) && (decide (0 < R.length) && goodR R)
  else false
end Go.Proofs.YtehgpnnfjgmiiaaGreat
end
section
namespace Go.Proofs.YtehgpnnfjgmiiaaGreat
open Go.Shelf Go.RowKit Go.Lib Go.Great
set_option maxRecDepth 100000
set_option maxHeartbeats 1000000
/-- A message's cells, of any parts. -/
def encMr (k : Int) (t : Nat) (f y : List UInt8) (vc vr : Value) : List Value := [.int .i64 k, .int .u32 (t : Int)] ++ (bcells f ++ (bcells y ++ [vc, vr]))
theorem encMr_length {k : Int} {t : Nat} {f y : List UInt8} {vc vr : Value} (hf : f.length = 20) (hy : y.length = 20) : (encMr k t f y vc vr).length = 44 := by
  unfold encMr
  simp only [List.length_append, bcells_length, hf, hy, List.length_cons, List.length_nil]
def zeroM : Msg := ⟨0, 0, zero20, zero20, .slice none 0 0, .slice none 0 0, by omega, by omega, by simp [zero20], by simp [zero20], rfl, rfl⟩
theorem zVM (W : World) : (zeroValue 28).run Tryz.prog W = .ok (.agg (encM zeroM).toArray) W := by kernel_rfl
theorem run_build28z (W : World) : (Instr.build 28 #[]).run Tryz.prog W = .ok (.agg (encM zeroM).toArray) W := by kernel_rfl
theorem run_build28k (k : Int) (W : World) : (Instr.build 28 #[(0, .int .i64 k)]).run Tryz.prog W = .ok (.agg (encMr k 0 zero20 zero20 (.slice none 0 0) (.slice none 0 0)).toArray) W := by kernel_rfl
theorem wpList_allocM {w : World} {ops : Array Oper} {rest : List Oper} {o : Oper} {a : Act} {Q : Exit → Act → World → Prop} (n : Nat) (hn : w.heap.size = n) (hgd : o.guard = none) (d : Nat) (hd : o.dst = some d) (ho : o.op = .alloc 28)
    (h : wpList Tryz.prog ops Q rest (a.put (some d) (.pointer (some ⟨n, 0, none⟩))) (w.alloc (.cells (encM zeroM).toArray 28))) : wpList Tryz.prog ops Q (o :: rest) a w :=
  wpList_plain hgd fun _ hK => by
    subst hn
    have hz := fun W => zVM W
    generalize (encM zeroM).toArray = Z at hz h
    unfold Oper.wp execOp
    simp only [ho, Instr.alloc, Sem.run_bind, hz, Result.andThen_ok, Value.cells]
    simp [Oper.upon, hd]
    exact hK _ _ h
theorem encMr_one {k : Int} {t : Nat} {f y : List UInt8} {vc vr : Value} (h1 : vc.oneCell' = true) (h2 : vr.oneCell' = true) : ∀ v ∈ encMr k t f y vc vr, v.oneCell' = true := by
  intro v hv
  unfold encMr at hv
  rcases List.mem_append.1 hv with h | h
  · simp only [List.mem_cons, List.not_mem_nil, or_false] at h
    rcases h with rfl | rfl <;> rfl
  · rcases List.mem_append.1 h with h | h
    · exact bcells_oneI _ v h
    · rcases List.mem_append.1 h with h | h
      · exact bcells_oneI _ v h
      · simp only [List.mem_cons, List.not_mem_nil, or_false] at h
        rcases h with rfl | rfl <;> assumption
theorem wpList_storeM {w : World} {ops : Array Oper} {rest : List Oper} {o : Oper} {a : Act} {Q : Exit → Act → World → Prop} (hgd : o.guard = none) (x y : Operand) (ho : o.op = .store 28 x y) (g : Nat) (cs : List Value) (hl : cs.length = 44) (h1 : ∀ v ∈ cs, v.oneCell' = true) (hx : a.eval x = .pointer (some ⟨g, 0, none⟩)) (hy : a.eval y = .agg cs.toArray)
    (ht : w.there g 0 44) (h : wpList Tryz.prog ops Q rest (a.put o.dst undef) (w.setCells g 0 cs)) : wpList Tryz.prog ops Q (o :: rest) a w := by
  have hsz : cs.toArray.size = 44 := by rw [List.size_toArray, hl]
  refine wpList_store_mid (P := Tryz.prog) hgd 28 x y ho g 0 cs.toArray hx hy (by rw [hsz]; exact ht) (by rw [hsz]; exact size28m) (by
    rw [Array.all_eq_true_iff_forall_mem]
    intro v hv
    exact h1 v (by simpa using hv)) ?_
  exact h
/-- A store into the block made last. -/
theorem wpList_storeMn {w : World} {ops : Array Oper} {rest : List Oper} {o : Oper} {a : Act} {Q : Exit → Act → World → Prop} (hgd : o.guard = none) (x y : Operand) (ho : o.op = .store 28 x y) (n : Nat) (hn : w.heap.size = n) (zs cs : List Value) (hz : zs.length = 44) (hl : cs.length = 44) (h1 : ∀ v ∈ cs, v.oneCell' = true) (hx : a.eval x = .pointer (some ⟨n, 0, none⟩)) (hy : a.eval y = .agg cs.toArray)
    (h : wpList Tryz.prog ops Q rest (a.put o.dst undef) (w.alloc (.cells cs.toArray 28))) : wpList Tryz.prog ops Q (o :: rest) a (w.alloc (.cells zs.toArray 28)) := by
  subst hn
  refine wpList_storeM hgd x y ho w.heap.size cs hl h1 hx hy ?_ ?_
  · have := there_new w 28 zs
    rwa [hz] at this
  · rw [setCells_all w 28 zs cs (by rw [hl, hz])]
    exact h
theorem encM_one (m : Msg) : ∀ v ∈ encM m, v.oneCell' = true := encMr_one m.oc m.os

section
variable {W : World} {q : Nat} {k : Int} {t : Nat} {f y : List UInt8} {vc vr : Value}
theorem mput_k (h : W.heap[q]? = some (.cells (encMr k t f y vc vr).toArray 28 (0, 0))) (k' : Int) : (W.setCell ⟨q, 0, none⟩ (.int .i64 k')).heap[q]? = some (.cells (encMr k' t f y vc vr).toArray 28 (0, 0)) := heap_setCell_same W q 0 _ 28 _ h
theorem mput_t (h : W.heap[q]? = some (.cells (encMr k t f y vc vr).toArray 28 (0, 0))) (t' : Nat) : (W.setCell ⟨q, 1, none⟩ (.int .u32 (t' : Int))).heap[q]? = some (.cells (encMr k t' f y vc vr).toArray 28 (0, 0)) := heap_setCell_same W q 1 _ 28 _ h
theorem encMr_split (hf : f.length = 20) (hy : y.length = 20) : encMr k t f y vc vr = ([.int .i64 k, .int .u32 (t : Int)] ++ bcells f ++ bcells y) ++ [vc, vr] := by unfold encMr; simp
theorem mput_c (hf : f.length = 20) (hy : y.length = 20) (h : W.heap[q]? = some (.cells (encMr k t f y vc vr).toArray 28 (0, 0))) (v : Value) : (W.setCell ⟨q, 42, none⟩ v).heap[q]? = some (.cells (encMr k t f y v vr).toArray 28 (0, 0)) := by
  rw [heap_setCell_same W q 42 _ 28 _ h]
  have hl : ([Value.int .i64 k, .int .u32 (t : Int)] ++ bcells f ++ bcells y).length = 42 := by simp only [List.length_append, bcells_length, hf, hy, List.length_cons, List.length_nil]
  rw [encMr_split hf hy, encMr_split hf hy, List.setIfInBounds_toArray, List.set_append_right _ _ (by omega), hl]
  rfl
theorem mput_r (hf : f.length = 20) (hy : y.length = 20) (h : W.heap[q]? = some (.cells (encMr k t f y vc vr).toArray 28 (0, 0))) (v : Value) : (W.setCell ⟨q, 43, none⟩ v).heap[q]? = some (.cells (encMr k t f y vc v).toArray 28 (0, 0)) := by
  rw [heap_setCell_same W q 43 _ 28 _ h]
  have hl : ([Value.int .i64 k, .int .u32 (t : Int)] ++ bcells f ++ bcells y).length = 42 := by simp only [List.length_append, bcells_length, hf, hy, List.length_cons, List.length_nil]
  rw [encMr_split hf hy, encMr_split hf hy, List.setIfInBounds_toArray, List.set_append_right _ _ (by omega), hl]
  rfl
theorem mput_f (hf : f.length = 20) (hy : y.length = 20) (h : W.heap[q]? = some (.cells (encMr k t f y vc vr).toArray 28 (0, 0))) (f' : List UInt8) (hf' : f'.length = 20) : (W.setCells q 2 (bcells f')).heap[q]? = some (.cells (encMr k t f' y vc vr).toArray 28 (0, 0)) := by
  have hl := encMr_length (k := k) (t := t) (vc := vc) (vr := vr) hf hy
  rw [heap_setCells_row q 28 (bcells f') 2 _ W h (by rw [bcells_length, hf', hl]; omega)]
  congr 3
  unfold encMr
  rw [bcells_length, hf']
  have e1 : ([Value.int .i64 k, .int .u32 (t : Int)] ++ (bcells f ++ (bcells y ++ [vc, vr]))).take 2 = [.int .i64 k, .int .u32 (t : Int)] := rfl
  have e2 : ([Value.int .i64 k, .int .u32 (t : Int)] ++ (bcells f ++ (bcells y ++ [vc, vr]))).drop (2 + 20) = bcells y ++ [vc, vr] := by
    show (bcells f ++ (bcells y ++ [vc, vr])).drop 20 = _
    rw [List.drop_append_of_le_length (by rw [bcells_length, hf]; omega), List.drop_eq_nil_of_le (by rw [bcells_length, hf]; omega), List.nil_append]
  rw [e1, e2, List.append_assoc]
theorem mput_y (hf : f.length = 20) (hy : y.length = 20) (h : W.heap[q]? = some (.cells (encMr k t f y vc vr).toArray 28 (0, 0))) (y' : List UInt8) (hy' : y'.length = 20) : (W.setCells q 22 (bcells y')).heap[q]? = some (.cells (encMr k t f y' vc vr).toArray 28 (0, 0)) := by
  have hl := encMr_length (k := k) (t := t) (vc := vc) (vr := vr) hf hy
  rw [heap_setCells_row q 28 (bcells y') 22 _ W h (by rw [bcells_length, hy', hl]; omega)]
  congr 3
  unfold encMr
  rw [bcells_length, hy']
  have hlf : (bcells f).length = 20 := by rw [bcells_length, hf]
  have hly : (bcells y).length = 20 := by rw [bcells_length, hy]
  have e1 : ([Value.int .i64 k, .int .u32 (t : Int)] ++ (bcells f ++ (bcells y ++ [vc, vr]))).take 22 = [.int .i64 k, .int .u32 (t : Int)] ++ bcells f := by
    show _ :: _ :: (bcells f ++ (bcells y ++ [vc, vr])).take 20 = _
    rw [List.take_append_of_le_length (by omega), List.take_of_length_le (by omega)]
    rfl
  have e2 : ([Value.int .i64 k, .int .u32 (t : Int)] ++ (bcells f ++ (bcells y ++ [vc, vr]))).drop (22 + 20) = [vc, vr] := by
    show (bcells f ++ (bcells y ++ [vc, vr])).drop 40 = _
    rw [← List.append_assoc, List.drop_append_of_le_length (by rw [List.length_append]; omega), List.drop_eq_nil_of_le (by rw [List.length_append]; omega), List.nil_append]
  rw [e1, e2]
  simp
end
end Go.Proofs.YtehgpnnfjgmiiaaGreat
end
section
namespace Go.Proofs.YtehgpnnfjgmiiaaGreat
open Go.Shelf Go.RowKit Go.Lib Go.Great
set_option maxRecDepth 100000
set_option maxHeartbeats 2000000
/-- A reader g beside two blocks of type T: r as it was made (Z), q with the cells cq. -/
structure NXD (T : TypeId) (Z : List Value) (w : World) (g B r q : Nat) (s : St) (cq : List Value) (W : World) : Prop where
  rd : RdrB W g s B
  hr : W.heap[r]? = some (.cells Z.toArray T (0, 0))
  hq : W.heap[q]? = some (.cells cq.toArray T (0, 0))
  gr : w.grownBy W (some g)
  hg : g < w.heap.size
  hB : B ≤ w.heap.size
  rw : w.heap.size ≤ r
  qw : w.heap.size ≤ q
  rq : r ≠ q
section
variable {T : TypeId} {Z : List Value} {w W W' : World} {g B r q : Nat} {s s' : St} {cq cq' : List Value}
theorem NXD.lt (n : NXD T Z w g B r q s cq W) : r < W.heap.size ∧ q < W.heap.size := ⟨(Array.getElem?_eq_some_iff.1 n.hr).1, (Array.getElem?_eq_some_iff.1 n.hq).1⟩
theorem NXD.bel (n : NXD T Z w g B r q s cq W) (hb : Below W.heap.size W W') : NXD T Z w g B r q s cq W' :=
  ⟨n.rd.below hb, (hb.block r n.lt.1).trans n.hr, (hb.block q n.lt.2).trans n.hq, grownBy_trans n.gr (grown_of_bel hb _), n.hg, n.hB, n.rw, n.qw, n.rq⟩
theorem NXD.read (n : NXD T Z w g B r q s cq W) (h : RdrB W' g s' B) (hg : W.grownBy W' (some g)) : NXD T Z w g B r q s' cq W' :=
  ⟨h, (hg.block r n.lt.1 (by intro e; injection e with e; have := n.hg; have := n.rw; omega)).trans n.hr, (hg.block q n.lt.2 (by intro e; injection e with e; have := n.hg; have := n.qw; omega)).trans n.hq, grownBy_trans n.gr hg, n.hg, n.hB, n.rw, n.qw, n.rq⟩
theorem NXD.put (n : NXD T Z w g B r q s cq W) (hq : W'.heap[q]? = some (.cells cq'.toArray T (0, 0))) (hg : W.grownBy W' (some q)) : NXD T Z w g B r q s cq' W' where
  rd := n.rd.keep (hg.block g n.rd.lt (by intro e; injection e with e; have := n.hg; have := n.qw; omega)) hg.size (fun i hi _ => hg.block i (by have := n.rd.lt; have := n.gr.size; have := n.hB; omega) (by intro e; injection e with e; have := n.hB; have := n.qw; omega))
  hr := (hg.block r n.lt.1 (by intro e; injection e with e; have := n.rq; omega)).trans n.hr
  hq := hq
  gr := ⟨hg.os.trans n.gr.os, hg.tape.trans n.gr.tape, hg.output.trans n.gr.output, Nat.le_trans n.gr.size hg.size, fun i hi hne => (hg.block i (Nat.lt_of_lt_of_le hi n.gr.size) (by intro e; injection e with e; have := n.qw; omega)).trans (n.gr.block i hi hne)⟩
  hg := n.hg
  hB := n.hB
  rw := n.rw
  qw := n.qw
  rq := n.rq
theorem NXD.set (n : NXD T Z w g B r q s cq W) {j : Nat} {v : Value} (hq : (W.setCell ⟨q, j, none⟩ v).heap[q]? = some (.cells cq'.toArray T (0, 0))) : NXD T Z w g B r q s cq' (W.setCell ⟨q, j, none⟩ v) :=
  n.put hq (grownBy_setCell (World.grownBy.refl W _) _ _)
theorem NXD.sets (n : NXD T Z w g B r q s cq W) {j : Nat} {vs : List Value} (hq : (W.setCells q j vs).heap[q]? = some (.cells cq'.toArray T (0, 0))) : NXD T Z w g B r q s cq' (W.setCells q j vs) :=
  n.put hq (grown_cells vs j W (World.grownBy.refl W _))
theorem NXD.cell (n : NXD T Z w g B r q s cq W) {j : Nat} {v : Value} (hv : cq[j]? = some v) : W.cell? ⟨q, j, none⟩ = some v ∧ W.frozen? ⟨q, j, none⟩ = false := by
  refine ⟨?_, frozen_of_row _ _ _ _ _ n.hq⟩
  rw [cell_of_row _ _ j _ T (0, 0) n.hq, List.getElem?_toArray]
  exact hv
theorem NXD.take (n : NXD T Z w g B r q s cq W) (k : Int) (hk : k ≤ 9223372036854775807) : Calls Tryz.prog 67 #[.pointer (some ⟨g, 0, none⟩), .int .i64 k] W fun e W' => ∃ A c, e = .returned (.slice A (takeV s k).length c) ∧ NXD T Z w g B r q (takeS s k) cq W' ∧ BAt W' W'.heap.size A (takeV s k) := by
  refine (take_anyB n.rd k hk).mono ?_
  rintro e W' ⟨v, rfl, ho, hr, hg⟩
  obtain ⟨A, c, rfl, hA, _⟩ := own_bat ho
  exact ⟨A, c, rfl, n.read hr hg, hA⟩
theorem NXD.num (n : NXD T Z w g B r q s cq W) (k : Int) (hk : k ≤ 9223372036854775807) : Calls Tryz.prog 40 #[.pointer (some ⟨g, 0, none⟩), .int .i64 k] W fun e W' => e = .returned (.int .u64 (numV s k : Int)) ∧ NXD T Z w g B r q (numS s k) cq W' := by
  refine (num_anyB n.rd k hk).mono ?_
  rintro e W' ⟨rfl, hr, hg⟩
  exact ⟨rfl, n.read hr hg⟩
theorem NXD.fin (n : NXD T Z w g B r q s cq W) (cs : List Value) (hl : cs.length = Z.length) : W.there r 0 Z.length ∧ (W.setCells r 0 cs).rangeAt r 0 cs ∧ RdrB (W.setCells r 0 cs) g s B ∧ w.grownBy (W.setCells r 0 cs) (some g) := by
  have ht : W.there r 0 Z.length := row_there n.hr
  have hgc : W.grownBy (W.setCells r 0 cs) (some r) := grown_cells cs 0 W (World.grownBy.refl W _)
  refine ⟨ht, World.rangeAt_setCells_same W r 0 cs (by rw [hl]; exact ht), ?_, ?_⟩
  · exact n.rd.keep (hgc.block g n.rd.lt (by intro e; injection e with e; have := n.hg; have := n.rw; omega)) hgc.size (fun i hi _ => hgc.block i (by have := n.gr.size; have := n.hB; omega) (by intro e; injection e with e; have := n.hB; have := n.rw; omega))
  · exact ⟨hgc.os.trans n.gr.os, hgc.tape.trans n.gr.tape, hgc.output.trans n.gr.output, Nat.le_trans n.gr.size hgc.size, fun i hi hne => (hgc.block i (Nat.lt_of_lt_of_le hi n.gr.size) (by intro e; injection e with e; have := n.rw; omega)).trans (n.gr.block i hi hne)⟩
end
theorem copy_id (s : St) : splice (bcells zero20) 0 (bcells (takeV s 20)) = bcells (pubV s) := by
  unfold splice pubV
  rcases takeV_20 s with h | h
  · rw [if_pos h, List.take_zero, List.nil_append, bcells_length, h]
    have : (bcells zero20).drop (0 + 20) = [] := List.drop_eq_nil_of_le (by simp [bcells, zero20])
    rw [this, List.append_nil]
  · rw [h]
    rfl
theorem zV24 (W : World) : (zeroValue 24).run Tryz.prog W = .ok (.agg (bcells zero20).toArray) W := by kernel_rfl
theorem wpList_alloc24 {w : World} {ops : Array Oper} {rest : List Oper} {o : Oper} {a : Act} {Q : Exit → Act → World → Prop} (n : Nat) (hn : w.heap.size = n) (hgd : o.guard = none) (d : Nat) (hd : o.dst = some d) (ho : o.op = .alloc 24)
    (h : wpList Tryz.prog ops Q rest (a.put (some d) (.pointer (some ⟨n, 0, none⟩))) (w.alloc (.cells (bcells zero20).toArray 24))) : wpList Tryz.prog ops Q (o :: rest) a w :=
  wpList_plain hgd fun _ hK => by
    subst hn
    have hz := fun W => zV24 W
    generalize (bcells zero20).toArray = Z at hz h
    unfold Oper.wp execOp
    simp only [ho, Instr.alloc, Sem.run_bind, hz, Result.andThen_ok, Value.cells]
    simp [Oper.upon, hd]
    exact hK _ _ h
theorem wpList_store24 {w : World} {ops : Array Oper} {rest : List Oper} {o : Oper} {a : Act} {Q : Exit → Act → World → Prop} (hgd : o.guard = none) (x y : Operand) (ho : o.op = .store 24 x y) (g j : Nat) (xs : List UInt8) (hl : xs.length = 20) (hx : a.eval x = .pointer (some ⟨g, j, none⟩)) (hy : a.eval y = .agg (bcells xs).toArray)
    (ht : w.there g j 20) (h : wpList Tryz.prog ops Q rest (a.put o.dst undef) (w.setCells g j (bcells xs))) : wpList Tryz.prog ops Q (o :: rest) a w := by
  have hsz : (bcells xs).toArray.size = 20 := by rw [List.size_toArray, bcells_length, hl]
  refine wpList_store_mid (P := Tryz.prog) hgd 24 x y ho g j (bcells xs).toArray hx hy (by rw [hsz]; exact ht) (by rw [hsz]; exact size23i) (by
    rw [Array.all_eq_true_iff_forall_mem]
    intro v hv
    exact bcells_oneI xs v (by simpa using hv)) ?_
  exact h
def NidIs (w : World) (g B : Nat) (s : St) (e : Ending) (w' : World) : Prop := e = .returned (.agg (bcells (pubV s)).toArray) ∧ RdrB w' g (takeS s 20) B ∧ w.grownBy w' (some g)
theorem nextid_any {w : World} {g B : Nat} {s : St} (h : RdrB w g s B) (hB : B ≤ w.heap.size) : Calls Tryz.prog 68 #[.func (.func 67) #[.pointer (some ⟨g, 0, none⟩)] #[]] w (NidIs w g B s) := by
  obtain ⟨hr0, hq0, hb0⟩ := heap2 w (.cells (bcells zero20).toArray 24) (.cells (bcells zero20).toArray 24)
  obtain ⟨W0, hW0⟩ : ∃ W0, W0 = (w.alloc (.cells (bcells zero20).toArray 24)).alloc (.cells (bcells zero20).toArray 24) := ⟨_, rfl⟩
  rw [← hW0] at hr0 hq0 hb0
  have n0 : NXD 24 (bcells zero20) w g B w.heap.size (w.heap.size + 1) s (bcells zero20) W0.drew := by
    have hbd : Below w.heap.size w W0.drew := hb0.drew
    exact ⟨h.below hbd, hr0, hq0, grown_of_bel hbd _, h.lt, hB, Nat.le_refl _, by omega, by omega⟩
  obtain ⟨q, hq⟩ : ∃ q, q = w.heap.size + 1 := ⟨_, rfl⟩
  rw [← hq] at n0
  have N0 := Lib.hid n0
  have hp := pubV_length s
  have hcp := copy_id s
  obtain ⟨V1, hV1⟩ : ∃ V, V = takeV s 20 := ⟨_, rfl⟩
  have hv20 := takeV_20 s
  rw [← hV1] at hv20 hcp
  have H1 : Hid (∀ W, NXD 24 (bcells zero20) w g B w.heap.size q s (bcells zero20) W → Calls Tryz.prog 67 #[.pointer (some ⟨g, 0, none⟩), .int .i64 20] W fun e W' => ∃ A c, e = .returned (.slice A V1.length c) ∧ NXD 24 (bcells zero20) w g B w.heap.size q (takeS s 20) (bcells zero20) W' ∧ BAt W' W'.heap.size A V1) := Lib.hid (fun W n => by rw [hV1]; exact n.take 20 (by omega))
  have HV1 : Hid ((bcells V1).length = Nat.min V1.length 20 ∧ ∀ (W' : World) (A : Option Addr), BAt W' W'.heap.size A V1 → 0 < (bcells V1).length → ∃ ad, A = some ad ∧ ∀ j v, (bcells V1)[j]? = some v → W'.cell? (ad.add j) = some v) := by
    refine Lib.hid ⟨?_, fun W' A hA hp => hA.cells hp⟩
    rw [bcells_length]
    rcases hv20 with h | h
    · rw [h]; rfl
    · rw [h]; rfl
  have HV1L : Hid (0 + (bcells V1).length ≤ (bcells zero20).length) := Lib.hid (by
    rw [bcells_length, bcells_length]
    rcases hv20 with h | h
    · rw [h]; simp [zero20]
    · rw [h]; simp)
  have HV1O : Hid (∀ v ∈ bcells V1, v.oneCell' = true) := Lib.hid (bcells_oneI V1)
  have H3 : Hid (∀ w2 w3, NXD 24 (bcells zero20) w g B w.heap.size q (takeS s 20) (bcells zero20) w2 → w3.heap[q]? = some (.cells (splice (bcells zero20) 0 (bcells V1)).toArray 24 (0, 0)) → w2.grownBy w3 (some q) → NXD 24 (bcells zero20) w g B w.heap.size q (takeS s 20) (bcells (pubV s)) w3) := Lib.hid (fun w2 w3 n hq hg => by
    rw [hcp] at hq
    exact n.put hq hg)
  have HZL : Hid ((bcells zero20).length = 20) := Lib.hid (by simp [bcells, zero20])
  have HPL := Lib.hid hp
  have HQ := Lib.hid hq
  have HW := Lib.hid hW0
  have HS1 : Hid ((w.alloc (.cells (bcells zero20).toArray 24)).heap.size = w.heap.size + 1) := Lib.hid (by simp)
  clear n0 hr0 hq0 hb0 h hV1 hv20 hcp hp hq hW0
  obtain ⟨PV, hPV⟩ : ∃ PV, PV = pubV s := ⟨_, rfl⟩
  rw [← hPV] at HPL H3
  have HPV := Lib.hid hPV
  clear hPV
  go_enter Tryz.func68, Tryz.ntmps68
  go_upto_region 2 with (first
    | (with_reducible refine wpList_alloc24 (o := ⟨some 2, _, _, _, _, _⟩) w.heap.size rfl rfl 2 rfl rfl ?_)
    | (with_reducible refine wpList_alloc24 (o := ⟨some 3, _, _, _, _, _⟩) (w.heap.size + 1) (by simp) rfl 3 rfl rfl ?_))
  (try rw [HS1.out])
  (try rw [← HQ.out])
  rw [← HW.out]
  clear HW
  refine wp_region_noPanic ?_
  refine wp_region_held_drew (S := fun _ => True) (by kernel_rfl) trivial (fun hHeld => ?_)
  refine takeH_at 0 4 (v := ?_) rfl rfl (by kernel_rfl) (by kernel_rfl) (by kernel_rfl) (fun _ _ _ h => h) (Or.inl ⟨by rfl, ?_⟩) (by trivial) ?_
  rotate_left
  · (intro wx hSw; (try dsimp only at hSw); go_simp) <;> with_reducible rfl
  simp only [Act.put, List.setIfInBounds_toArray, List.set_cons_zero, List.set_cons_succ]
  refine takeH_at 1 5 (v := ?_) rfl rfl (by kernel_rfl) (by kernel_rfl) (by kernel_rfl) (fun _ _ _ h => h) (Or.inl ⟨by rfl, ?_⟩) (by trivial) ?_
  rotate_left
  · (intro wx hSw; (try dsimp only at hSw); go_simp) <;> with_reducible rfl
  simp only [Act.put, List.setIfInBounds_toArray, List.set_cons_zero, List.set_cons_succ]
  refine wpAnyH_ready (rs := [2]) (by kernel_rfl) (by simp) ?_
  refine AllReadyH.cons rfl (fun K hK => ?_) AllReadyH.nil
  go_simp
  go_wp2_with (go_at_call 67; (with_reducible refine (H1.out _ N0.out).mono ?_); rintro e2 w2 ⟨A2, c2, rfl, n2, hA2⟩)
  refine hK.out _ _ (by trivial) (fun hHeld => ?_)
  clear hK K
  refine wpAnyH_ready (rs := [3]) (by kernel_rfl) (by simp) ?_
  refine AllReadyH.cons rfl (fun K hK => ?_) AllReadyH.nil
  refine step_copy_row rfl 7 rfl (.tmp 4) (.tmp 6) 31 31 rfl 5 Tryz.underlying31 size5c (some ⟨q, 0, none⟩) _ 20 20 V1.length c2 rfl rfl q 0 (bcells zero20) 24 n2.hq (bcells V1) (HV1.out.1) (fun hp => ⟨rfl, HV1.out.2 _ _ hA2 hp⟩) HV1L.out HV1O.out ?_
  intro w3 hq3 hg3
  refine hK.out _ _ (by trivial) (fun hHeld => ?_)
  clear hK K
  refine wpAnyH_done (by kernel_rfl) ?_ _
  refine NoPanic.normal ?_
  simp only [Act.put, List.setIfInBounds_toArray, List.set_cons_zero, List.set_cons_succ]
  have n3 := H3.out _ _ n2 hq3 hg3
  clear n2 hq3 hg3 H1 H3 N0 HV1 HV1L HV1O hA2
  obtain ⟨h91, h92, h93, h94⟩ := n3.fin (bcells PV) (by rw [bcells_length, HPL.out, HZL.out])
  rw [HZL.out] at h91
  have HLD : Hid ((loadVar 24 ⟨q, 0, none⟩).run Tryz.prog w3 = .ok (.agg (bcells PV).toArray) w3) := Lib.hid (run_loadVar_mid w3 q 0 24 (bcells PV) _ (row_range n3.hq) Tryz.underlying24 rfl (by rw [bcells_length, HPL.out]; exact size23i))
  have H91 := Lib.hid h91
  have H92 := Lib.hid h92
  have H93 := Lib.hid (And.intro h93 h94)
  clear h91 h92 h93 h94 n3
  go_wp2_with (first
    | ((with_reducible refine wpList_loadV (op := ⟨some 8, _, _, _, _, _⟩) rfl 24 (.tmp 3) rfl ⟨q, 0, none⟩ ?_ _ HLD.out ?_); rfl)
    | ((with_reducible refine wpList_store24 (o := ⟨none, _, _, _, _, _⟩) rfl (.tmp 2) (.tmp 8) rfl w.heap.size 0 PV HPL.out ?_ ?_ H91.out ?_); rfl; rfl))
  refine bodyPost_ret (v := .agg (bcells PV).toArray) ?_ rfl ?_
  · exact results_cell1 (p := 2) (ty := 24) rfl _ _ w.heap.size 0 (bcells PV) _ rfl H92.out Tryz.underlying24 rfl (by rw [bcells_length, HPL.out]; exact size23i)
  · exact ⟨by rw [HPV.out], H93.out.1, H93.out.2⟩
end Go.Proofs.YtehgpnnfjgmiiaaGreat
end
section
namespace Go.Proofs.YtehgpnnfjgmiiaaGreat
open Go.Shelf Go.RowKit Go.Lib Go.Sort Go.Great
set_option maxRecDepth 100000
set_option maxHeartbeats 1000000
/-- What next tells. -/
def nxOk (s : St) : Prop := (takeV s 20).length = 20 ∧ (takeV (takeS s 20) 6).length = 6 ∧ getN ((takeV (takeS s 20) 6).take 4) ≠ 0 ∧ getN (((takeV (takeS s 20) 6).drop 4).take 2) ≠ 0
instance (s : St) : Decidable (nxOk s) := by unfold nxOk; exact inferInstance
def nxC (s : St) : Con := if h : nxOk s then ⟨(takeV s 20, getN ((takeV (takeS s 20) 6).take 4), getN (((takeV (takeS s 20) 6).drop 4).take 2)), ⟨h.1, getN_lt' _ 4 (by rw [List.length_take]; omega), getN_lt' _ 2 (by rw [List.length_take]; omega)⟩⟩ else default
def nxS (s : St) : St := takeS (takeS s 20) 6
theorem takeV_len (s : St) (n : Nat) : (takeV s n).length = n ∨ takeV s n = [] := by
  unfold takeV
  split
  · rename_i h
    left
    have := h.2.2
    rw [List.length_take]
    simp only [Int.toNat_natCast]
    omega
  · exact .inr rfl
end Go.Proofs.YtehgpnnfjgmiiaaGreat
end
