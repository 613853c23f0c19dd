/- Bytes, List and Without of the reference. Conditions: at most 10,000 contacts. While an instance is read: the worlds; the copy of the publisher. Conditions: at most 900,000 bytes. The walk of the statement ContactBack: it answers true. Conditions: the bytes ahead and behind are fewer than 2^47 each. Rows of instances in memory: what a row of one's own is; a clone; a row that grows. Conditions: at most 10,000 instances where cloned. bytes and Cmp of the reference. No condition. byPublisher of the program, before of the reference. No condition. -/
import Derived.Test.YtehgpnnfjgmiiaaGreatProg
import Derived.Test.YtehgpnnfjgmiiaaGreatVJPWords
import Derived.RegionTactic
import Derived.RegionCalls
import Derived.WalkKit
import Derived.Deep.RegionHeld3
import Derived.Deep.QuietTactic
import Derived.BigQuiet
import Derived.Test.YtehgpnnfjgmiiaaGreatVKCdi
import Derived.Test.YtehgpnnfjgmiiaaGreatVIie
import Derived.Test.YtehgpnnfjgmiiaaGreatVIia
import Derived.Lib.ConvBytes
import Derived.Test.YtehgpnnfjgmiiaaGreatVJLcd
import Derived.Test.YtehgpnnfjgmiiaaGreatVJLra
import Derived.Shelf.Abstract
import Derived.Sort.Grow
import Derived.Lib.SlBytesConst
import Derived.LoopTactic
import Derived.Stop.BytesEq
import Derived.Deep.AppendSrc
import Derived.Laws.ResultCell
import Derived.Shelf.SlicesE.Clone
import Derived.Shelf.SlGeneric
section
namespace Go.Proofs.YtehgpnnfjgmiiaaGreat
open Go.Shelf Go.RowKit Go.Lib Go.Sort Go.Great
set_option maxRecDepth 100000
set_option maxHeartbeats 1000000
theorem step_appB {ops : Array Oper} {o : Oper} {a : Act} {w : World} {K : Act → World → Prop} {Q : Exit → Act → World → Prop} {E : Prop} (hgd : o.guard = none) (d : Nat) (hd : o.dst = some d) (s x : Operand)
    (ho : o.op = .call { callee := .builtin .append, args := #[s, x], argTypes := #[31, 31] })
    (base : Nat) (v : Value) (L : List UInt8) (hs : a.eval s = v) (hown : w.ownsRow base 5 1 v L.length (bcells L)) (y : Value) (M : List UInt8) (hx : a.eval x = y) (hr : Src Tryz.prog 1 31 y M.length (bcells M) w) (h63 : L.length + M.length ≤ 10000000) (hbase : base ≤ w.heap.size)
    (h : ∀ v' w', w'.ownsRow base 5 1 v' (L ++ M).length (bcells (L ++ M)) → w.grownBy w' v.ownBlock → K (a.put (some d) v') w') :
    if Region.wanted o (yielded ops a.tmps) = true then Oper.wp Tryz.prog o a w K Q else E := by
  have hw : Region.wanted o (yielded ops a.tmps) = true := by simp [Region.wanted, hgd]
  rw [if_pos hw]
  obtain ⟨i0, hi, hz0, hz1, hz2⟩ := info5b
  obtain ⟨v', w', hrun, h2, h3, _⟩ := run_append_srcK w base 31 31 o.type 5 i0 _ 1 1 undBs hi hz0 hz1 hz2 rfl v L.length (bcells L) hown y M.length (bcells M) hr (by simp only [maxLen]; omega) (by omega) hbase
  unfold Oper.wp execOp
  simp only [ho, resolve, invoke, builtin, Sem.run_bind, Sem.run_pure, Result.andThen_ok, List.map_toArray, List.map_cons, List.map_nil, hs, hx, hrun]
  show K (a.put o.dst _) _
  rw [hd]
  refine h v' w' ?_ h3
  rw [List.length_append, bcells_app]
  exact h2
theorem below_ownB {B : Nat} {W0 w w' : World} {ob : Option Nat} (hb : Below B W0 w) (hBw : B ≤ w.heap.size) (hg : w.grownBy w' ob) (ho : ∀ k, ob = some k → B ≤ k) : Below B W0 w' :=
  ⟨hg.os.trans hb.os, hg.tape.trans hb.tape, hg.output.trans hb.output, Nat.le_trans hb.size hg.size, fun i hi => (hg.block i (by omega) (by intro e; have := ho i (by first | exact e | exact e.symm); omega)).trans (hb.block i hi)⟩
end Go.Proofs.YtehgpnnfjgmiiaaGreat
end
section
namespace Go.Proofs.YtehgpnnfjgmiiaaGreat
set_option maxRecDepth 100000
open Go.Shelf Go.RowKit Go.Lib Go.Great
set_option maxRecDepth 1000000
set_option maxHeartbeats 2000000
theorem own_bat {base n : Nat} {v : Value} {xs : List UInt8} {W : World} (h : W.ownsRow base 5 1 v n (bcells xs)) : ∃ A c, v = .slice A xs.length c ∧ BAt W W.heap.size A xs ∧ (∀ g off, A = some ⟨g, off, none⟩ → base ≤ g) := by
  have hl := h.1
  rw [show (bcells xs).length = xs.length from by simp [bcells], Nat.mul_one] at hl
  rcases h.2 with ⟨rfl, h0⟩ | ⟨g, cap, cur, rfl, hb, hg, hc, _⟩
  · have hL : xs = [] := List.eq_nil_of_length_eq_zero (by omega)
    subst hL
    exact ⟨none, 0, rfl, .inl rfl, fun _ _ e => by cases e⟩
  · refine ⟨some ⟨g, 0, none⟩, cap, by rw [hl], .inr ⟨g, 0, rfl, (Array.getElem?_eq_some_iff.1 hg).1, fun j hj => ?_⟩, fun g' off e => by injection e with e; injection e with e1 e2; omega⟩
    have := h.cells (g := g) rfl j (.int .u8 (xs[j].toNat : Int)) (by simp [bcells, List.getElem?_map, List.getElem?_eq_getElem hj])
    rwa [Addr.add_mid] at this
theorem below_cellsE {B b : Nat} {a : World} (hb : B ≤ b) : ∀ (vs : List Value) (o : Nat) (w : World), Below B a w → Below B a (w.setCells b o vs)
  | [], _, _, h => h
  | _ :: vs, o, w, h => below_cellsE hb vs (o + 1) _ (h.setCell (p := ⟨b, o, none⟩) hb _)
section
variable {w W W' : World} {g B r q : Nat} {s s' : St} {cq cq' : List Value}
end
end Go.Proofs.YtehgpnnfjgmiiaaGreat
end
section
namespace Go.Proofs.YtehgpnnfjgmiiaaGreat
open Go.Shelf Go.RowKit Go.Lib Go.Sort Go.Great
set_option maxRecDepth 100000
set_option maxHeartbeats 2000000
section
variable {w W W' : World} {g : Nat} {s s' : St}
end
end Go.Proofs.YtehgpnnfjgmiiaaGreat
end
section
namespace Go.Proofs.YtehgpnnfjgmiiaaGreat
open Go.Shelf Go.RowKit Go.Lib Go.Sort Go.Great
set_option maxRecDepth 100000
set_option maxHeartbeats 1000000
section
variable {α : Type} {enc : α → List Value} {k : Nat}
/-- Elements as cells. -/
def flatE (enc : α → List Value) (l : List α) : List Value := l.flatMap enc
theorem flatE_length (hk : ∀ x, (enc x).length = k) (l : List α) : (flatE enc l).length = l.length * k := by
  induction l with
  | nil => simp [flatE]
  | cons x l ih =>
    have e : flatE enc (x :: l) = enc x ++ flatE enc l := rfl
    rw [e, List.length_append, ih, hk, List.length_cons, Nat.add_mul, Nat.one_mul]
    omega
theorem flatE_get (hk : ∀ x, (enc x).length = k) (hk0 : 0 < k) : ∀ (l : List α) (j : Nat) (x : α) (c : Nat), l[j]? = some x → c < k → (flatE enc l)[j * k + c]? = (enc x)[c]? := by
  intro l
  induction l with
  | nil => intro j x c h; simp at h
  | cons y l ih =>
    intro j x c h hc
    cases j with
    | zero =>
      simp only [List.getElem?_cons_zero, Option.some.injEq] at h
      subst h
      unfold flatE
      rw [List.flatMap_cons, Nat.zero_mul, Nat.zero_add, List.getElem?_append_left (by rw [hk]; exact hc)]
    | succ j =>
      rw [List.getElem?_cons_succ] at h
      unfold flatE
      rw [List.flatMap_cons, List.getElem?_append_right (by rw [hk, Nat.add_mul, Nat.one_mul]; omega), hk, show (j + 1) * k + c - k = j * k + c by rw [Nat.add_mul, Nat.one_mul]; omega]
      exact ih j x c h hc
end
theorem rangeAt_below {w w' : World} {g o : Nat} {cs : List Value} (h : w.rangeAt g o cs) (hb : w'.heap[g]? = w.heap[g]?) : w'.rangeAt g o cs := fun j v hv => by
  rw [World.cell?_of_block (w := w) (w' := w') (a := ⟨g, o + j, none⟩) hb]
  exact h j v hv
/-- The address leads to the instances L, in a block below B. -/
def IAt (w : World) (B : Nat) (A : Option Addr) (L : List Ins) : Prop := L = [] ∨ ∃ g off, A = some ⟨g, off, none⟩ ∧ g < B ∧ w.rangeAt g off (flatE encI L)
theorem IAt.below {w w' : World} {B : Nat} {A : Option Addr} {L : List Ins} (h : IAt w B A L) (hb : Below B w w') : IAt w' B A L := by
  rcases h with h | ⟨g, off, e, hg, hr⟩
  · exact .inl h
  · exact .inr ⟨g, off, e, hg, rangeAt_below hr (hb.block g hg)⟩
theorem IAt.more {w : World} {B B' : Nat} {A : Option Addr} {L : List Ins} (h : IAt w B A L) (hB : B ≤ B') : IAt w B' A L := by
  rcases h with h | ⟨g, off, e, hg, hr⟩
  · exact .inl h
  · exact .inr ⟨g, off, e, by omega, hr⟩
theorem flatE_one (L : List Ins) : ∀ u ∈ flatE encI L, u.oneCell' = true := by
  intro u hu
  obtain ⟨c, _, h⟩ := List.mem_flatMap.1 hu
  exact encI_one c u h
/-- t is a slice of e, an instance's type. -/
structure InsT (t e : TypeId) : Prop where
  und : Tryz.prog.underlying t = some (.slice e)
  inf : (Tryz.prog.info? e).map (fun i => (i.zero, i.size, i.bytes)) = some (some (.agg (encI default).toArray), 28, 72)
theorem InsT.info {t e : TypeId} (h : InsT t e) : ∃ i0, Tryz.prog.info? e = some i0 ∧ i0.zero = some (.agg (encI default).toArray) ∧ i0.size = 28 ∧ i0.bytes = 72 := by
  have h := h.inf
  cases hi : Tryz.prog.info? e with
  | none => rw [hi] at h; cases h
  | some i =>
    rw [hi] at h
    simp only [Option.map_some, Option.some.injEq, Prod.mk.injEq] at h
    exact ⟨i, rfl, h.1, h.2.1, h.2.2⟩
theorem fold_setI (k : Nat) (l : List Value) (n : Nat) (A : Array Value) (h : n + l.length ≤ A.size) :
    ((l.zipIdx n).foldl (fun (cs : Array Value) (p : Value × Nat) => cs.setIfInBounds (0 * k + p.2) p.1) A).toList = A.toList.take n ++ l ++ A.toList.drop (n + l.length) := by
  induction l generalizing n A with
  | nil => simp
  | cons c l ih =>
    rw [List.zipIdx_cons, List.foldl_cons, ih]
    · simp only [Nat.zero_mul, Nat.zero_add, Array.toList_setIfInBounds, List.length_cons]
      simp only [List.length_cons] at h
      apply List.ext_getElem?
      intro j
      simp only [List.append_assoc]
      by_cases h1 : j < n
      · rw [List.getElem?_append_left (by simp; omega), List.getElem?_append_left (by simp; omega)]
        simp [List.getElem?_take, h1, show j < n + 1 by omega, List.getElem?_set, show n ≠ j by omega]
      · by_cases h2 : j = n
        · subst h2
          rw [List.getElem?_append_left (by simp; omega), List.getElem?_append_right (by simp; omega)]
          simp [List.getElem?_take, List.getElem?_set, show min j A.size = j by omega, show j < A.size by omega]
        · obtain ⟨q, rfl⟩ : ∃ q, j = n + 1 + q := ⟨j - (n + 1), by omega⟩
          have hm1 : min (n + 1) A.size = n + 1 := by omega
          have hm2 : min n A.size = n := by omega
          rw [List.getElem?_append_right (by rw [List.length_take, List.length_set, Array.length_toList, hm1]; omega), List.getElem?_append_right (l₁ := List.take n A.toList) (by rw [List.length_take, Array.length_toList, hm2]; omega)]
          simp only [List.length_take, List.length_set, Array.length_toList, hm1, hm2]
          rw [show n + 1 + q - (n + 1) = q by omega, show n + 1 + q - n = q + 1 by omega, List.cons_append, List.getElem?_cons_succ]
          by_cases h3 : q < l.length
          · rw [List.getElem?_append_left h3, List.getElem?_append_left h3]
          · rw [List.getElem?_append_right (by omega), List.getElem?_append_right (by omega), List.getElem?_drop, List.getElem?_drop, List.getElem?_set_ne (by omega)]
            congr 1
            omega
    · simp only [List.length_cons] at h
      simp only [Array.size_setIfInBounds]
      omega

/-- A new row of one instance. -/
theorem run_build_oneI {t e : TypeId} (hT : InsT t e) (x : Ins) (w : World) : (Instr.buildSlice t 1 #[(0, .agg (encI x).toArray)]).run Tryz.prog w = .ok (.slice (some ⟨w.heap.size, 0, none⟩) 1 1) (w.alloc (.cells (encI x).toArray e)) := by
  obtain ⟨i0, hi, hz0, hz1, hz2⟩ := hT.info
  obtain ⟨Z, hZ⟩ : ∃ Z, Z = (encI default).toArray := ⟨_, rfl⟩
  rw [← hZ] at hz0
  clear hZ
  have hf := fold_setI 28 (encI x) 0 ((Array.range 28).map (Z[· % Z.size]!)) (by rw [encI_length]; simp)
  have hl := encI_length x
  have hA : (List.foldl (fun (cs : Array Value) (p : Value × Nat) => cs.setIfInBounds (0 * 28 + p.2) p.1) ((Array.range 28).map (Z[· % Z.size]!)) (encI x).zipIdx) = (encI x).toArray := by
    apply Array.ext'
    rw [hf]
    simp only [List.take_zero, List.nil_append, Nat.zero_add, hl]
    rw [List.drop_eq_nil_of_le (by simp)]
    simp
  simp only [Nat.zero_mul, Nat.zero_add] at hA
  generalize encI x = cs at hA hl ⊢
  simp [Instr.buildSlice, run_underlying hT.und, sizeOf, typeInfo, zeroValue, hi, hz0, hz1, Value.cells, Instr.fill, hl, newRow]
  rw [hA]
theorem wp_build_oneI {t e : TypeId} (hT : InsT t e) (x : Ins) {w : World} {o : Oper} {a : Act} {K : Act → World → Prop} {Q : Exit → Act → World → Prop} (y : Operand) (ho : o.op = .buildSlice t 1 #[(0, y)]) (hy : a.eval y = .agg (encI x).toArray)
    (h : K (a.put o.dst (.slice (some ⟨w.heap.size, 0, none⟩) 1 1)) (w.alloc (.cells (encI x).toArray e))) : o.wp Tryz.prog a w K Q := by
  unfold Oper.wp execOp
  simp only [ho, List.map_toArray, List.map_cons, List.map_nil, hy, Sem.run_bind, run_build_oneI hT, Result.andThen_ok, Sem.run_pure]
  exact h
theorem wpList_build_oneI {t e : TypeId} (hT : InsT t e) (x : Ins) {w : World} {ops : Array Oper} {rest : List Oper} {o : Oper} {a : Act} {Q : Exit → Act → World → Prop} (hgd : o.guard = none) (y : Operand) (ho : o.op = .buildSlice t 1 #[(0, y)]) (hy : a.eval y = .agg (encI x).toArray)
    (h : wpList Tryz.prog ops Q rest (a.put o.dst (.slice (some ⟨w.heap.size, 0, none⟩) 1 1)) (w.alloc (.cells (encI x).toArray e))) : wpList Tryz.prog ops Q (o :: rest) a w :=
  wpList_plain hgd fun _ hK => wp_build_oneI hT x y ho hy (hK _ _ h)
theorem wpList_append_ins {t e : TypeId} (hT : InsT t e) {w : World} {ops : Array Oper} {rest : List Oper} {o : Oper} {a : Act} {Q : Exit → Act → World → Prop} (hgd : o.guard = none) (s x : Operand)
    (ho : o.op = .call { callee := .builtin .append, args := #[s, x], argTypes := #[t, t] })
    (base : Nat) (v : Value) (L M : List Ins) (hs : a.eval s = v) (hown : w.ownsRow base e 28 v L.length (flatE encI L))
    (y : Value) (hx : a.eval x = y) (hr : Src Tryz.prog 28 t y M.length (flatE encI M) w) (h63 : L.length + M.length ≤ 1000000) (hbase : base ≤ w.heap.size)
    (h : ∀ v' w', w'.ownsRow base e 28 v' (L ++ M).length (flatE encI (L ++ M)) → w.grownBy w' v.ownBlock → wpList Tryz.prog ops Q rest (a.put o.dst v') w') : wpList Tryz.prog ops Q (o :: rest) a w :=
  wpList_plain hgd fun _ hK => by
    obtain ⟨i0, hi, hz0, hz1, hz2⟩ := hT.info
    obtain ⟨v', w', hrun, h2, h3, _⟩ := run_append_srcK w base t t o.type e i0 _ 28 72 hT.und hi hz0 hz1 hz2 (by simp [Value.cells, encI_length]) v L.length (flatE encI L) hown y M.length (flatE encI M) hr (by simp only [maxLen]; omega) (by omega) hbase
    unfold Oper.wp execOp
    simp only [ho, resolve, invoke, builtin, Sem.run_bind, Sem.run_pure, Result.andThen_ok, List.map_toArray, List.map_cons, List.map_nil, hs, hx, hrun]
    have e1 : flatE encI L ++ flatE encI M = flatE encI (L ++ M) := by unfold flatE; rw [List.flatMap_append]
    rw [e1, ← List.length_append] at h2
    exact hK _ _ (h v' w' h2 h3)
end Go.Proofs.YtehgpnnfjgmiiaaGreat
end
section
namespace Go.Proofs.YtehgpnnfjgmiiaaGreat
open Go.Shelf Go.RowKit Go.Lib Go.Great
set_option maxRecDepth 100000
set_option maxHeartbeats 2000000
theorem still_convV {P : Program} {ops : Array Oper} {rest : List Oper} {o : Oper} {a : Act} {w : World} {Q : Act → Prop} (hg : o.guard = none) (s t : TypeId) (x : Operand) (ho : o.op = .convert s t x) (u v : Value)
    (hx : a.eval x = u) (hr : (convert s t u).run P w = .ok v w) (h : wpStill P ops w Q rest (a.put o.dst v)) : wpStill P ops w Q (o :: rest) a :=
  wpStill_step fun K hK => by
    have hw : Region.wanted o (yielded ops a.tmps) = true := by simp [Region.wanted, hg]
    rw [if_pos hw]
    unfold Oper.still execOp
    simp only [ho, hx, Sem.run_bind, hr, Result.andThen_ok, Sem.run_pure]
    exact ⟨rfl, hK _ h⟩
theorem less_cmp : ∀ a b : List UInt8, (Op.bytesLess a b = true ↔ compareBytes a b = -1) ∧ (a = b ↔ compareBytes a b = 0) ∧ (compareBytes a b = -1 ∨ compareBytes a b = 0 ∨ compareBytes a b = 1)
  | [], [] => by simp [Op.bytesLess, compareBytes]
  | [], _ :: _ => by simp [Op.bytesLess, compareBytes]
  | _ :: _, [] => by simp [Op.bytesLess, compareBytes]
  | x :: a, y :: b => by
    obtain ⟨h1, h2, h3⟩ := less_cmp a b
    by_cases hxy : x < y
    · have hne : x ≠ y := fun e => by subst e; exact UInt8.lt_irrefl x hxy
      simp [Op.bytesLess, compareBytes, hxy, hne]
    · by_cases hyx : y < x
      · have hne : x ≠ y := fun e => by subst e; exact UInt8.lt_irrefl x hyx
        simp [Op.bytesLess, compareBytes, hxy, hyx, hne]
      · have he : x = y := by
          apply UInt8.toNat_inj.1
          rw [UInt8.lt_iff_toNat_lt] at hxy hyx
          omega
        subst he
        simp only [Op.bytesLess, compareBytes, hxy, if_false]
        simp [h1, h2, h3]
end Go.Proofs.YtehgpnnfjgmiiaaGreat
end
section
namespace Go.Proofs.YtehgpnnfjgmiiaaGreat
open Go.Shelf Go.RowKit Go.Lib Go.Great
set_option maxRecDepth 100000
set_option maxHeartbeats 2000000
def cmpP (x y : Ins) : Int := compareBytes x.pub y.pub
theorem byp_any (x y : Ins) (w : World) : Calls Tryz.prog 58 #[.agg (encI x).toArray, .agg (encI y).toArray] w fun e w' => e = .returned (.int .i64 (cmpP x y)) ∧ Below w.heap.size w w' := by
  obtain ⟨h1, h2, hb⟩ := heap2 w (.cells (encI x).toArray 79) (.cells (encI y).toArray 79)
  obtain ⟨W0, hW0⟩ : ∃ W0, W0 = (w.alloc (.cells (encI x).toArray 79)).alloc (.cells (encI y).toArray 79) := ⟨_, rfl⟩
  have HW0 := Lib.hid hW0
  rw [← hW0] at h1 h2
  obtain ⟨W1, hW1⟩ : ∃ W1, W1 = { W0 with drawn := W0.drawn + 1 } := ⟨_, rfl⟩
  have HW1 := Lib.hid hW1
  have hbd : Below W0.heap.size W0 W1 := by rw [hW1]; exact ⟨rfl, rfl, rfl, Nat.le_refl _, fun _ _ => rfl⟩
  have hs1 : w.heap.size < W1.heap.size := by rw [hW1]; exact (Array.getElem?_eq_some_iff.1 h1).1
  have hs2 : w.heap.size + 1 < W1.heap.size := by rw [hW1]; exact (Array.getElem?_eq_some_iff.1 h2).1
  have P1 : BAt W1 W1.heap.size (some ⟨w.heap.size, 0, none⟩) x.pub := .inr ⟨_, 0, rfl, hs1, fun j hj => (range_frontI (show W1.rangeAt w.heap.size 0 (encI x) from row_range (by rw [hW1]; exact h1))) j _ (bcells_get x.pub j hj)⟩
  have P2 : BAt W1 W1.heap.size (some ⟨w.heap.size + 1, 0, none⟩) y.pub := .inr ⟨_, 0, rfl, hs2, fun j hj => (range_frontI (show W1.rangeAt (w.heap.size + 1) 0 (encI y) from row_range (by rw [hW1]; exact h2))) j _ (bcells_get y.pub j hj)⟩
  have HP := Lib.hid (bcmp_any _ _ 20 20 20 20 x.pub y.pub W1 x.hp y.hp P1 P2)
  have HBE : Hid (Below w.heap.size w W1) := Lib.hid (by
      have hb0 : Below w.heap.size w W0 := by rw [hW0]; exact hb
      exact hb0.trans (hbd.mono hb0.size))
  change Hid (Calls Tryz.prog 85 _ _ fun e w' => e = .returned (.int .i64 (cmpP x y)) ∧ w' = W1) at HP
  generalize (encI x).toArray = X at *
  generalize (encI y).toArray = Y at *
  generalize cmpP x y = r at *
  clear h1 h2 hb hbd P1 P2 hs1 hs2 hW1 hW0
  go_enter Tryz.func58, Tryz.ntmps58
  go_upto_region 1 with (fail)
  rw [← HW0.out]
  refine region_tail 5 W1 HW1.out (by kernel_rfl) (by kernel_rfl) ?_
  simp only [List.take_succ_cons, List.take_zero, List.drop_succ_cons, List.drop_zero]
  repeat (first
    | still_step
    | still_call (HP.out))
  refine wpStill_nil ?_
  go_wp2
  go_ret
  exact ⟨rfl, HBE.out⟩
theorem cmpP_less (x y : Ins) : Op.bytesLess x.pub y.pub = decide (cmpP x y < 0) := by
  obtain ⟨h1, h2, h3⟩ := less_cmp x.pub y.pub
  unfold cmpP
  cases h : Op.bytesLess x.pub y.pub with
  | true => rw [h1.1 h]; rfl
  | false =>
    rcases h3 with e | e | e
    · rw [h1.2 e] at h; cases h
    · rw [e]; rfl
    · rw [e]; rfl
theorem before_any (x y : Ins) (w : World) : Calls Tryz.prog 62 #[.agg (encI x).toArray, .agg (encI y).toArray] w fun e w' => e = .returned (.bool (decide (cmpP x y < 0))) ∧ Below w.heap.size w w' := by
  obtain ⟨h1, h2, hb⟩ := heap2 w (.cells (encI x).toArray 79) (.cells (encI y).toArray 79)
  obtain ⟨W0, hW0⟩ : ∃ W0, W0 = (w.alloc (.cells (encI x).toArray 79)).alloc (.cells (encI y).toArray 79) := ⟨_, rfl⟩
  have HW0 := Lib.hid hW0
  rw [← hW0] at h1 h2
  obtain ⟨W1, hW1⟩ : ∃ W1, W1 = { W0 with drawn := W0.drawn + 1 } := ⟨_, rfl⟩
  have HW1 := Lib.hid hW1
  have hbd : Below W0.heap.size W0 W1 := by rw [hW1]; exact ⟨rfl, rfl, rfl, Nat.le_refl _, fun _ _ => rfl⟩
  have hs1 : w.heap.size < W1.heap.size := by rw [hW1]; exact (Array.getElem?_eq_some_iff.1 h1).1
  have hs2 : w.heap.size + 1 < W1.heap.size := by rw [hW1]; exact (Array.getElem?_eq_some_iff.1 h2).1
  have P1 : BAt W1 W1.heap.size (some ⟨w.heap.size, 0, none⟩) x.pub := .inr ⟨_, 0, rfl, hs1, fun j hj => (range_frontI (show W1.rangeAt w.heap.size 0 (encI x) from row_range (by rw [hW1]; exact h1))) j _ (bcells_get x.pub j hj)⟩
  have P2 : BAt W1 W1.heap.size (some ⟨w.heap.size + 1, 0, none⟩) y.pub := .inr ⟨_, 0, rfl, hs2, fun j hj => (range_frontI (show W1.rangeAt (w.heap.size + 1) 0 (encI y) from row_range (by rw [hW1]; exact h2))) j _ (bcells_get y.pub j hj)⟩
  have hC1 := run_convert_bat (P := Tryz.prog) 31 9 5 20 Tryz.underlying31 Tryz.underlying5 Tryz.underlying9 P1
  have hC2 := run_convert_bat (P := Tryz.prog) 31 9 5 20 Tryz.underlying31 Tryz.underlying5 Tryz.underlying9 P2
  rw [x.hp] at hC1
  rw [y.hp] at hC2
  have HC1 := Lib.hid hC1
  have HC2 := Lib.hid hC2
  have HBE : Hid (Below w.heap.size w W1) := Lib.hid (by
      have hb0 : Below w.heap.size w W0 := by rw [hW0]; exact hb
      exact hb0.trans (hbd.mono hb0.size))
  have HL : Op.bytesLess (bstr x.pub).toList (bstr y.pub).toList = decide (cmpP x y < 0) := by rw [bstr_list, bstr_list]; exact cmpP_less x y
  generalize (encI x).toArray = X at *
  generalize (encI y).toArray = Y at *
  generalize cmpP x y = r at *
  generalize bstr x.pub = T1 at *
  generalize bstr y.pub = T2 at *
  clear h1 h2 hb hbd P1 P2 hs1 hs2 hW1 hW0 hC1 hC2
  go_enter Tryz.func62, Tryz.ntmps62
  go_upto_region 1 with (fail)
  rw [← HW0.out]
  refine region_tail 7 W1 HW1.out (by kernel_rfl) (by kernel_rfl) ?_
  simp only [List.take_succ_cons, List.take_zero, List.drop_succ_cons, List.drop_zero]
  repeat (first
    | ((with_reducible refine still_convV (o := ⟨some 7, _, _, _, _, _⟩) rfl 31 9 (.tmp 6) rfl _ _ ?_ HC1.out ?_); rfl; simp only [Act.put, List.setIfInBounds_toArray, List.set_cons_zero, List.set_cons_succ])
    | ((with_reducible refine still_convV (o := ⟨some 10, _, _, _, _, _⟩) rfl 31 9 (.tmp 9) rfl _ _ ?_ HC2.out ?_); rfl; simp only [Act.put, List.setIfInBounds_toArray, List.set_cons_zero, List.set_cons_succ])
    | still_step)
  refine wpStill_nil ?_
  go_wp2
  go_ret
  exact ⟨by rw [← HL]; rfl, HBE.out⟩
end Go.Proofs.YtehgpnnfjgmiiaaGreat
end
