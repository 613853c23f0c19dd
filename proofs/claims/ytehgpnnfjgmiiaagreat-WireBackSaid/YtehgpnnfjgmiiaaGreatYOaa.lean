/- Rows of instances in memory: what a row of one's own is; a clone; a row that grows. Conditions: at most 10,000 instances where cloned. bytes and Cmp of the reference. No condition. byPublisher of the program, before of the reference. No condition. Good of the program: rosters. Conditions: at most 10,000 instances, targets of at most 100,000 bytes. Get of the program. Conditions: a length that an int holds. -/
import Derived.Test.YtehgpnnfjgmiiaaGreatProg
import Derived.Test.YtehgpnnfjgmiiaaGreatYJVwt
import Derived.Test.YtehgpnnfjgmiiaaGreatYJPWords
import Derived.RegionTactic
import Derived.RegionCalls
import Derived.WalkKit
import Derived.Deep.RegionHeld3
import Derived.Deep.QuietTactic
import Derived.BigQuiet
import Derived.Test.YtehgpnnfjgmiiaaGreatYKCdi
import Derived.Test.YtehgpnnfjgmiiaaGreatYJLcd
import Derived.Shelf.Abstract
import Derived.Sort.Grow
import Derived.Lib.SlBytesConst
import Derived.LoopTactic
import Derived.Stop.BytesEq
import Derived.Deep.AppendSrc
import Derived.Lib.ConvBytes
import Derived.Laws.ResultCell
import Derived.Shelf.SlicesE.Clone
import Derived.Shelf.SlGeneric
import Derived.RangeFuncBox
import Derived.RangeFuncFrom
import Derived.RangeFuncLeaves
section
namespace Go.Proofs.YtehgpnnfjgmiiaaGreat
open Go.Shelf Go.RowKit Go.Lib Go.Sort Go.Great
set_option maxRecDepth 100000
set_option maxHeartbeats 1000000
section
variable {α : Type} {enc : α → List Value} {k : Nat}
/-- Elements as cells. -/
def flatE (enc : α → List Value) (l : List α) : List Value := l.flatMap enc
theorem flatE_length (hk : ∀ x, (enc x).length = k) (l : List α) : (flatE enc l).length = l.length * k := by
  induction l with
  | nil => simp [flatE]
  | cons x l ih =>
    have e : flatE enc (x :: l) = enc x ++ flatE enc l := rfl
    rw [e, List.length_append, ih, hk, List.length_cons, Nat.add_mul, Nat.one_mul]
    omega
theorem flatE_get (hk : ∀ x, (enc x).length = k) (hk0 : 0 < k) : ∀ (l : List α) (j : Nat) (x : α) (c : Nat), l[j]? = some x → c < k → (flatE enc l)[j * k + c]? = (enc x)[c]? := by
  intro l
  induction l with
  | nil => intro j x c h; simp at h
  | cons y l ih =>
    intro j x c h hc
    cases j with
    | zero =>
      simp only [List.getElem?_cons_zero, Option.some.injEq] at h
      subst h
      unfold flatE
      rw [List.flatMap_cons, Nat.zero_mul, Nat.zero_add, List.getElem?_append_left (by rw [hk]; exact hc)]
    | succ j =>
      rw [List.getElem?_cons_succ] at h
      unfold flatE
      rw [List.flatMap_cons, List.getElem?_append_right (by rw [hk, Nat.add_mul, Nat.one_mul]; omega), hk, show (j + 1) * k + c - k = j * k + c by rw [Nat.add_mul, Nat.one_mul]; omega]
      exact ih j x c h hc
end
theorem rangeAt_below {w w' : World} {g o : Nat} {cs : List Value} (h : w.rangeAt g o cs) (hb : w'.heap[g]? = w.heap[g]?) : w'.rangeAt g o cs := fun j v hv => by
  rw [World.cell?_of_block (w := w) (w' := w') (a := ⟨g, o + j, none⟩) hb]
  exact h j v hv
/-- The address leads to the instances L, in a block below B. -/
def IAt (w : World) (B : Nat) (A : Option Addr) (L : List Ins) : Prop := L = [] ∨ ∃ g off, A = some ⟨g, off, none⟩ ∧ g < B ∧ w.rangeAt g off (flatE encI L)
theorem IAt.below {w w' : World} {B : Nat} {A : Option Addr} {L : List Ins} (h : IAt w B A L) (hb : Below B w w') : IAt w' B A L := by
  rcases h with h | ⟨g, off, e, hg, hr⟩
  · exact .inl h
  · exact .inr ⟨g, off, e, hg, rangeAt_below hr (hb.block g hg)⟩
theorem IAt.more {w : World} {B B' : Nat} {A : Option Addr} {L : List Ins} (h : IAt w B A L) (hB : B ≤ B') : IAt w B' A L := by
  rcases h with h | ⟨g, off, e, hg, hr⟩
  · exact .inl h
  · exact .inr ⟨g, off, e, by omega, hr⟩
theorem flatE_one (L : List Ins) : ∀ u ∈ flatE encI L, u.oneCell' = true := by
  intro u hu
  obtain ⟨c, _, h⟩ := List.mem_flatMap.1 hu
  exact encI_one c u h
/-- t is a slice of e, an instance's type. -/
structure InsT (t e : TypeId) : Prop where
  und : Tryz.prog.underlying t = some (.slice e)
  inf : (Tryz.prog.info? e).map (fun i => (i.zero, i.size, i.bytes)) = some (some (.agg (encI default).toArray), 28, 72)
theorem InsT.info {t e : TypeId} (h : InsT t e) : ∃ i0, Tryz.prog.info? e = some i0 ∧ i0.zero = some (.agg (encI default).toArray) ∧ i0.size = 28 ∧ i0.bytes = 72 := by
  have h := h.inf
  cases hi : Tryz.prog.info? e with
  | none => rw [hi] at h; cases h
  | some i =>
    rw [hi] at h
    simp only [Option.map_some, Option.some.injEq, Prod.mk.injEq] at h
    exact ⟨i, rfl, h.1, h.2.1, h.2.2⟩
theorem fold_setI (k : Nat) (l : List Value) (n : Nat) (A : Array Value) (h : n + l.length ≤ A.size) :
    ((l.zipIdx n).foldl (fun (cs : Array Value) (p : Value × Nat) => cs.setIfInBounds (0 * k + p.2) p.1) A).toList = A.toList.take n ++ l ++ A.toList.drop (n + l.length) := by
  induction l generalizing n A with
  | nil => simp
  | cons c l ih =>
    rw [List.zipIdx_cons, List.foldl_cons, ih]
    · simp only [Nat.zero_mul, Nat.zero_add, Array.toList_setIfInBounds, List.length_cons]
      simp only [List.length_cons] at h
      apply List.ext_getElem?
      intro j
      simp only [List.append_assoc]
      by_cases h1 : j < n
      · rw [List.getElem?_append_left (by simp; omega), List.getElem?_append_left (by simp; omega)]
        simp [List.getElem?_take, h1, show j < n + 1 by omega, List.getElem?_set, show n ≠ j by omega]
      · by_cases h2 : j = n
        · subst h2
          rw [List.getElem?_append_left (by simp; omega), List.getElem?_append_right (by simp; omega)]
          simp [List.getElem?_take, List.getElem?_set, show min j A.size = j by omega, show j < A.size by omega]
        · obtain ⟨q, rfl⟩ : ∃ q, j = n + 1 + q := ⟨j - (n + 1), by omega⟩
          have hm1 : min (n + 1) A.size = n + 1 := by omega
          have hm2 : min n A.size = n := by omega
          rw [List.getElem?_append_right (by rw [List.length_take, List.length_set, Array.length_toList, hm1]; omega), List.getElem?_append_right (l₁ := List.take n A.toList) (by rw [List.length_take, Array.length_toList, hm2]; omega)]
          simp only [List.length_take, List.length_set, Array.length_toList, hm1, hm2]
          rw [show n + 1 + q - (n + 1) = q by omega, show n + 1 + q - n = q + 1 by omega, List.cons_append, List.getElem?_cons_succ]
          by_cases h3 : q < l.length
          · rw [List.getElem?_append_left h3, List.getElem?_append_left h3]
          · rw [List.getElem?_append_right (by omega), List.getElem?_append_right (by omega), List.getElem?_drop, List.getElem?_drop, List.getElem?_set_ne (by omega)]
            congr 1
            omega
    · simp only [List.length_cons] at h
      simp only [Array.size_setIfInBounds]
      omega

/-- A new row of one instance. -/
theorem run_build_oneI {t e : TypeId} (hT : InsT t e) (x : Ins) (w : World) : (Instr.buildSlice t 1 #[(0, .agg (encI x).toArray)]).run Tryz.prog w = .ok (.slice (some ⟨w.heap.size, 0, none⟩) 1 1) (w.alloc (.cells (encI x).toArray e)) := by
  obtain ⟨i0, hi, hz0, hz1, hz2⟩ := hT.info
  obtain ⟨Z, hZ⟩ : ∃ Z, Z = (encI default).toArray := ⟨_, rfl⟩
  rw [← hZ] at hz0
  clear hZ
  have hf := fold_setI 28 (encI x) 0 ((Array.range 28).map (Z[· % Z.size]!)) (by rw [encI_length]; simp)
  have hl := encI_length x
  have hA : (List.foldl (fun (cs : Array Value) (p : Value × Nat) => cs.setIfInBounds (0 * 28 + p.2) p.1) ((Array.range 28).map (Z[· % Z.size]!)) (encI x).zipIdx) = (encI x).toArray := by
    apply Array.ext'
    rw [hf]
    simp only [List.take_zero, List.nil_append, Nat.zero_add, hl]
    rw [List.drop_eq_nil_of_le (by simp)]
    simp
  simp only [Nat.zero_mul, Nat.zero_add] at hA
  generalize encI x = cs at hA hl ⊢
  simp [Instr.buildSlice, run_underlying hT.und, sizeOf, typeInfo, zeroValue, hi, hz0, hz1, Value.cells, Instr.fill, hl, newRow]
  rw [hA]
theorem wp_build_oneI {t e : TypeId} (hT : InsT t e) (x : Ins) {w : World} {o : Oper} {a : Act} {K : Act → World → Prop} {Q : Exit → Act → World → Prop} (y : Operand) (ho : o.op = .buildSlice t 1 #[(0, y)]) (hy : a.eval y = .agg (encI x).toArray)
    (h : K (a.put o.dst (.slice (some ⟨w.heap.size, 0, none⟩) 1 1)) (w.alloc (.cells (encI x).toArray e))) : o.wp Tryz.prog a w K Q := by
  unfold Oper.wp execOp
  simp only [ho, List.map_toArray, List.map_cons, List.map_nil, hy, Sem.run_bind, run_build_oneI hT, Result.andThen_ok, Sem.run_pure]
  exact h
theorem wpList_build_oneI {t e : TypeId} (hT : InsT t e) (x : Ins) {w : World} {ops : Array Oper} {rest : List Oper} {o : Oper} {a : Act} {Q : Exit → Act → World → Prop} (hgd : o.guard = none) (y : Operand) (ho : o.op = .buildSlice t 1 #[(0, y)]) (hy : a.eval y = .agg (encI x).toArray)
    (h : wpList Tryz.prog ops Q rest (a.put o.dst (.slice (some ⟨w.heap.size, 0, none⟩) 1 1)) (w.alloc (.cells (encI x).toArray e))) : wpList Tryz.prog ops Q (o :: rest) a w :=
  wpList_plain hgd fun _ hK => wp_build_oneI hT x y ho hy (hK _ _ h)
theorem wpList_append_ins {t e : TypeId} (hT : InsT t e) {w : World} {ops : Array Oper} {rest : List Oper} {o : Oper} {a : Act} {Q : Exit → Act → World → Prop} (hgd : o.guard = none) (s x : Operand)
    (ho : o.op = .call { callee := .builtin .append, args := #[s, x], argTypes := #[t, t] })
    (base : Nat) (v : Value) (L M : List Ins) (hs : a.eval s = v) (hown : w.ownsRow base e 28 v L.length (flatE encI L))
    (y : Value) (hx : a.eval x = y) (hr : Src Tryz.prog 28 t y M.length (flatE encI M) w) (h63 : L.length + M.length ≤ 1000000) (hbase : base ≤ w.heap.size)
    (h : ∀ v' w', w'.ownsRow base e 28 v' (L ++ M).length (flatE encI (L ++ M)) → w.grownBy w' v.ownBlock → wpList Tryz.prog ops Q rest (a.put o.dst v') w') : wpList Tryz.prog ops Q (o :: rest) a w :=
  wpList_plain hgd fun _ hK => by
    obtain ⟨i0, hi, hz0, hz1, hz2⟩ := hT.info
    obtain ⟨v', w', hrun, h2, h3, _⟩ := run_append_srcK w base t t o.type e i0 _ 28 72 hT.und hi hz0 hz1 hz2 (by simp [Value.cells, encI_length]) v L.length (flatE encI L) hown y M.length (flatE encI M) hr (by simp only [maxLen]; omega) (by omega) hbase
    unfold Oper.wp execOp
    simp only [ho, resolve, invoke, builtin, Sem.run_bind, Sem.run_pure, Result.andThen_ok, List.map_toArray, List.map_cons, List.map_nil, hs, hx, hrun]
    have e1 : flatE encI L ++ flatE encI M = flatE encI (L ++ M) := by unfold flatE; rw [List.flatMap_append]
    rw [e1, ← List.length_append] at h2
    exact hK _ _ (h v' w' h2 h3)
end Go.Proofs.YtehgpnnfjgmiiaaGreat
end
section
namespace Go.Proofs.YtehgpnnfjgmiiaaGreat
open Go.Shelf Go.RowKit Go.Lib Go.Great
set_option maxRecDepth 100000
set_option maxHeartbeats 2000000
end Go.Proofs.YtehgpnnfjgmiiaaGreat
end
section
namespace Go.Proofs.YtehgpnnfjgmiiaaGreat
open Go.Shelf Go.RowKit Go.Lib Go.Great
set_option maxRecDepth 100000
set_option maxHeartbeats 2000000
def cmpP (x y : Ins) : Int := compareBytes x.pub y.pub
theorem byp_any (x y : Ins) (w : World) : Calls Tryz.prog 58 #[.agg (encI x).toArray, .agg (encI y).toArray] w fun e w' => e = .returned (.int .i64 (cmpP x y)) ∧ Below w.heap.size w w' := by
  obtain ⟨h1, h2, hb⟩ := heap2 w (.cells (encI x).toArray 79) (.cells (encI y).toArray 79)
  obtain ⟨W0, hW0⟩ : ∃ W0, W0 = (w.alloc (.cells (encI x).toArray 79)).alloc (.cells (encI y).toArray 79) := ⟨_, rfl⟩
  have HW0 := Lib.hid hW0
  rw [← hW0] at h1 h2
  obtain ⟨W1, hW1⟩ : ∃ W1, W1 = { W0 with drawn := W0.drawn + 1 } := ⟨_, rfl⟩
  have HW1 := Lib.hid hW1
  have hbd : Below W0.heap.size W0 W1 := by rw [hW1]; exact ⟨rfl, rfl, rfl, Nat.le_refl _, fun _ _ => rfl⟩
  have hs1 : w.heap.size < W1.heap.size := by rw [hW1]; exact (Array.getElem?_eq_some_iff.1 h1).1
  have hs2 : w.heap.size + 1 < W1.heap.size := by rw [hW1]; exact (Array.getElem?_eq_some_iff.1 h2).1
  have P1 : BAt W1 W1.heap.size (some ⟨w.heap.size, 0, none⟩) x.pub := .inr ⟨_, 0, rfl, hs1, fun j hj => (range_frontI (show W1.rangeAt w.heap.size 0 (encI x) from row_range (by rw [hW1]; exact h1))) j _ (bcells_get x.pub j hj)⟩
  have P2 : BAt W1 W1.heap.size (some ⟨w.heap.size + 1, 0, none⟩) y.pub := .inr ⟨_, 0, rfl, hs2, fun j hj => (range_frontI (show W1.rangeAt (w.heap.size + 1) 0 (encI y) from row_range (by rw [hW1]; exact h2))) j _ (bcells_get y.pub j hj)⟩
  have HP := Lib.hid (bcmp_any _ _ 20 20 20 20 x.pub y.pub W1 x.hp y.hp P1 P2)
  have HBE : Hid (Below w.heap.size w W1) := Lib.hid (by
      have hb0 : Below w.heap.size w W0 := by rw [hW0]; exact hb
      exact hb0.trans (hbd.mono hb0.size))
  change Hid (Calls Tryz.prog 85 _ _ fun e w' => e = .returned (.int .i64 (cmpP x y)) ∧ w' = W1) at HP
  generalize (encI x).toArray = X at *
  generalize (encI y).toArray = Y at *
  generalize cmpP x y = r at *
  clear h1 h2 hb hbd P1 P2 hs1 hs2 hW1 hW0
  go_enter Tryz.func58, Tryz.ntmps58
  go_upto_region 1 with (fail)
  rw [← HW0.out]
  refine region_tail 5 W1 HW1.out (by kernel_rfl) (by kernel_rfl) ?_
  simp only [List.take_succ_cons, List.take_zero, List.drop_succ_cons, List.drop_zero]
  repeat (first
    | still_step
    | still_call (HP.out))
  refine wpStill_nil ?_
  go_wp2
  go_ret
  exact ⟨rfl, HBE.out⟩
end Go.Proofs.YtehgpnnfjgmiiaaGreat
end
section
namespace Go.Proofs.YtehgpnnfjgmiiaaGreat
open Go.Shelf Go.RowKit Go.Lib Go.Great
set_option maxRecDepth 100000
set_option maxHeartbeats 2000000
instance : Inhabited Ins := ⟨zeroI⟩
/-- What is asked of the one at a place. -/
def okAt (L : List Ins) (k : Nat) : Bool := goodI L[k]! && (decide (k = 0) || decide (cmpP L[k - 1]! L[k]! < 0))
/-- A roster is good. -/
def goodR (L : List Ins) : Bool := decide (L.length ≤ 16) && (List.range L.length).all (okAt L)
theorem goodR_iff (L : List Ins) : goodR L = true ↔ L.length ≤ 16 ∧ ∀ k, k < L.length → okAt L k = true := by
  unfold goodR
  rw [Bool.and_eq_true, decide_eq_true_eq, List.all_eq_true]
  simp only [List.mem_range]
theorem row_at {w : World} {g off k : Nat} {L : List Ins} (h : w.rangeAt g off (flatE encI L)) (hk : k < L.length) : w.rangeAt g (off + k * 28) (encI L[k]!) := by
  intro j v hv
  have hj : j < 28 := by
    have := (List.getElem?_eq_some_iff.1 hv).1
    rwa [encI_length] at this
  have e := flatE_get encI_length (by omega) L k _ j (List.getElem?_eq_getElem hk) hj
  rw [getElem!_pos L k hk] at hv
  rw [hv] at e
  rw [Nat.add_assoc]
  exact h _ v e
theorem row_load {w W : World} {B g off : Nat} {L : List Ins} (h : w.rangeAt g off (flatE encI L)) (hg : g < B) (hb : Below B w W) {k : Nat} (hk : k < L.length) : (loadVar 79 ⟨g, off + k * 28, none⟩).run Tryz.prog W = .ok (.agg (encI L[k]!).toArray) W :=
  load28 (row_at (rangeAt_below h (hb.block g hg)) hk)
theorem gd_long (A : Option Addr) (n c : Nat) (w : World) (hn : 16 < n) : Calls Tryz.prog 33 #[.slice A n c] w fun e w' => e = .returned (.bool false) ∧ w' = w := by
  have hn' : (n : Int) > 16 := by omega
  go_enter Tryz.func33, Tryz.ntmps33
  go_wp2
  go_ret
  exact ⟨rfl, rfl⟩
theorem gd_none (A : Option Addr) (c : Nat) (w : World) : Calls Tryz.prog 33 #[.slice A 0 c] w fun e w' => e = .returned (.bool true) ∧ w' = w := by
  go_enter Tryz.func33, Tryz.ntmps33
  go_wp2
  go_loopg [10] 0 (fun _ s wr => s = .int .i64 0 ∧ wr = w)
  case atStart => exact ⟨rfl, rfl⟩
  case round =>
    obtain ⟨rfl, rfl⟩ := hrel
    go_wp2
    go_ret
    exact ⟨rfl, rfl⟩
theorem gd_some (b off c : Nat) (L : List Ins) (w : World) (hL : L.length ≤ 16) (ht : ∀ k, k < L.length → L[k]!.tgt.length ≤ 100000) (hb : b < w.heap.size) (hr : w.rangeAt b off (flatE encI L)) :
    Calls Tryz.prog 33 #[.slice (some ⟨b, off, none⟩) L.length c] w fun e w' => e = .returned (.bool (goodR L)) ∧ Below w.heap.size w w' := by
  have HLD : Hid (∀ k, k < L.length → ∀ W, Below w.heap.size w W → (loadVar 79 ⟨b, off + k * 28, none⟩).run Tryz.prog W = .ok (.agg (encI L[k]!).toArray) W) := Lib.hid (fun k hk W hW => row_load hr hb hW hk)
  have HGD : Hid (∀ k, k < L.length → ∀ W, Calls Tryz.prog 57 #[.agg (encI L[k]!).toArray] W fun e w' => e = .returned (.bool (goodI L[k]!)) ∧ Below W.heap.size W w') := Lib.hid (fun k hk W => igood_any _ (ht k hk) W)
  have HBP : Hid (∀ (i j : Nat) (W : World), Calls Tryz.prog 58 #[.agg (encI L[i]!).toArray, .agg (encI L[j]!).toArray] W fun e w' => e = .returned (.int .i64 (cmpP L[i]! L[j]!)) ∧ Below W.heap.size W w') := Lib.hid (fun i j W => byp_any _ _ W)
  have HT : Hid ((∀ k, k < L.length → okAt L k = true) → goodR L = true) := Lib.hid (fun h => (goodR_iff L).2 ⟨hL, h⟩)
  have HF : Hid (∀ k, k < L.length → okAt L k = false → goodR L = false) := Lib.hid (fun k hk h => by
    cases hg : goodR L with
    | false => rfl
    | true => rw [((goodR_iff L).1 hg).2 k hk] at h; cases h)
  have HO : Hid (∀ k, okAt L k = (goodI L[k]! && (decide (k = 0) || decide (cmpP L[k - 1]! L[k]! < 0)))) := Lib.hid (fun k => rfl)
  generalize goodR L = r at *
  generalize hn : L.length = n at *
  have hlen : ¬ (n : Int) > 16 := by omega
  clear hr ht
  go_enter Tryz.func33, Tryz.ntmps33
  go_wp2
  go_loopw [10] (fun i wr => ∃ k : Nat, i = .int .i64 (k : Int) ∧ k ≤ n ∧ (∀ j, j < k → okAt L j = true) ∧ Below w.heap.size w wr) (fun i _ => n - (RowKit.intOf i).toNat)
  case atStart => exact ⟨0, rfl, by omega, fun j hj => by omega, Below.refl _ _⟩
  case round =>
    obtain ⟨k, rfl, hk, hF, hbr⟩ := hrel
    have HD := Lib.hid hF
    clear hF
    by_cases hlt : k < n
    · have hlt' : (k : Int) < (n : Int) := by omega
      have hs0 := Lib.hid hbr.size
      have hbn : Below w.heap.size w (wr.alloc (.cells (encI L[k]!).toArray 79)) := hbr.alloc hbr.size _
      have HBN := Lib.hid hbn
      have hnew := heap_alloc_new wr (.cells (encI L[k]!).toArray 79)
      have HQ4 : Hid (∀ q : Kept (wr.alloc (.cells (encI L[k]!).toArray 79)).heap.size (wr.alloc (.cells (encI L[k]!).toArray 79)), (loadVar 79 ⟨wr.heap.size, 0, none⟩).run Tryz.prog q.val = .ok (.agg (encI L[k]!).toArray) q.val) := Lib.hid (fun q =>
        load28 (row_range (by rw [q.property.block _ (Array.getElem?_eq_some_iff.1 hnew).1]; exact hnew)))
      have hld := HLD.out k hlt wr hbr
      have HGK := Lib.hid (HGD.out k hlt)
      obtain ⟨Y, hY⟩ : ∃ Y : Ins, Y = L[k]! := ⟨_, rfl⟩
      have HY := Lib.hid hY
      have hok := HO.out k
      rw [← hY] at hnew hok hbn hld
      rw [← HY.out] at HQ4 HGK HBN
      have HLDV := Lib.hid hld
      have HW2 : Hid (∃ W2, W2 = wr.alloc (.cells (encI Y).toArray 79)) := Lib.hid ⟨_, rfl⟩
      clear hY hld hbn hnew
      cases hgk : goodI Y with
      | false =>
        rw [hgk] at hok HGK
        have HRF : Hid (r = false) := Lib.hid (HF.out k hlt (by rw [hok]; rfl))
        clear HT HF HO HD HLD HGD HBP hbr hok hgk
        go_upto_region 6 with (first
          | ((with_reducible refine wpList_loadV (op := ⟨some 14, _, _, _, _, _⟩) rfl 79 (.tmp 13) rfl _ ?_ _ HLDV.out ?_); rfl)
          | (with_reducible refine wpList_alloc28 (o := ⟨some 4, _, _, _, _, _⟩) wr.heap.size rfl rfl 4 rfl rfl ?_)
          | ((with_reducible refine wpList_store28n (o := ⟨none, _, _, _, _, _⟩) rfl (.tmp 4) (.tmp 14) rfl wr.heap.size rfl zeroI Y ?_ ?_ ?_); rfl; rfl))
        generalize (encI Y).toArray = X at *
        generalize wr.alloc (.cells X 79) = W2 at *
        simp only [Act.put, List.setIfInBounds_toArray, List.set_cons_zero, List.set_cons_succ]
        refine wp_region_kept W2.heap.size W2 (Below.refl _ _) (by kernel_rfl) (by kernel_rfl) ?_
        repeat (first
          | (go_big_quiet_want; (with_reducible refine quiet_loadV 79 (.tmp 4) rfl _ ?_ _ HQ4.out ?_); rfl; simp only [Act.put, List.setIfInBounds_toArray, List.set_cons_zero, List.set_cons_succ]; go_big_quiet_on)
          | go_big_quiet_step (first | (go_at_call 57; with_reducible exact kept_of (Nat.le_refl _) HGK.out _)))
        refine wpQuiet_nil ?_
        rintro wk ⟨⟨_, hwk⟩, rfl⟩
        go_wp2
        go_ret
        exact ⟨by rw [HRF.out]; rfl, HBN.out.trans (hwk.mono HBN.out.size)⟩
      | true =>
        rw [hgk] at hok HGK
        rw [Bool.true_and] at hok
        rcases Nat.eq_zero_or_pos k with rfl | hpos
        · have HRN : Hid (∃ k' : Nat, (RowKit.intOf (.int .i64 (((0 : Nat) : Int) + 1)) : Int) = (k' : Int)) := Lib.hid ⟨1, rfl⟩
          have HNX : Hid (∀ wx, Below w.heap.size w wx → ∃ k : Nat, Value.int .i64 1 = .int .i64 (k : Int) ∧ k ≤ n ∧ (∀ j, j < k → okAt L j = true) ∧ Below w.heap.size w wx) := Lib.hid (fun wx hx => ⟨1, rfl, by omega, fun j hj => by
            obtain rfl : j = 0 := by omega
            rw [hok]; rfl, hx⟩)
          clear HT HF HO HD HLD HGD HBP hbr hok hgk HRN
          go_upto_region 6 with (first
            | ((with_reducible refine wpList_loadV (op := ⟨some 14, _, _, _, _, _⟩) rfl 79 (.tmp 13) rfl _ ?_ _ HLDV.out ?_); rfl)
            | (with_reducible refine wpList_alloc28 (o := ⟨some 4, _, _, _, _, _⟩) wr.heap.size rfl rfl 4 rfl rfl ?_)
            | ((with_reducible refine wpList_store28n (o := ⟨none, _, _, _, _, _⟩) rfl (.tmp 4) (.tmp 14) rfl wr.heap.size rfl zeroI Y ?_ ?_ ?_); rfl; rfl))
          generalize (encI Y).toArray = X at *
          generalize wr.alloc (.cells X 79) = W2 at *
          simp only [Act.put, List.setIfInBounds_toArray, List.set_cons_zero, List.set_cons_succ]
          refine wp_region_kept W2.heap.size W2 (Below.refl _ _) (by kernel_rfl) (by kernel_rfl) ?_
          repeat (first
            | (go_big_quiet_want; (with_reducible refine quiet_loadV 79 (.tmp 4) rfl _ ?_ _ HQ4.out ?_); rfl; simp only [Act.put, List.setIfInBounds_toArray, List.set_cons_zero, List.set_cons_succ]; go_big_quiet_on)
            | go_big_quiet_step (first | (go_at_call 57; with_reducible exact kept_of (Nat.le_refl _) HGK.out _)))
          refine wpQuiet_nil ?_
          rintro wk ⟨⟨_, hwk⟩, rfl⟩
          have HBW := Lib.hid (HNX.out _ (HBN.out.trans (hwk.mono HBN.out.size)))
          clear hwk
          go_wp2
          go_roundw
          case rel => exact HBW.out
          case measure => simp [RowKit.intOf]; omega
        · obtain ⟨m, rfl⟩ : ∃ m, k = m + 1 := ⟨k - 1, by omega⟩
          have hlm : m < n := by omega
          have HQP : Hid (∀ q : Kept (wr.alloc (.cells (encI Y).toArray 79)).heap.size (wr.alloc (.cells (encI Y).toArray 79)), (loadVar 79 ⟨b, off + m * 28, none⟩).run Tryz.prog q.val = .ok (.agg (encI L[m]!).toArray) q.val) := Lib.hid (fun q =>
            HLD.out m hlm _ (HBN.out.trans (q.property.mono HBN.out.size)))
          have HCP := Lib.hid (HBP.out m (m + 1))
          rw [← HY.out] at HCP
          rw [show decide (m + 1 = 0) = false from decide_eq_false (by omega), Bool.false_or, Nat.add_sub_cancel] at hok
          obtain ⟨q, hq⟩ : ∃ q, q = cmpP L[m]! Y := ⟨_, rfl⟩
          rw [← hq] at hok HCP
          have hge : (q : Int) ≥ 0 ↔ okAt L (m + 1) = false := by
            rw [hok, decide_eq_false_iff_not]; omega
          have HNX : Hid (okAt L (m + 1) = true → ∀ wx, Below w.heap.size w wx → ∃ k : Nat, Value.int .i64 ((m : Int) + 1 + 1) = .int .i64 (k : Int) ∧ k ≤ n ∧ (∀ j, j < k → okAt L j = true) ∧ Below w.heap.size w wx) := Lib.hid (fun h wx hx => ⟨m + 1 + 1, by simp, by omega, fun j hj => by
            by_cases e : j = m + 1
            · subst e; exact h
            · exact HD.out j (by omega), hx⟩)
          have HRF := Lib.hid (HF.out (m + 1) hlt)
          cases hc : okAt L (m + 1) with
          | false =>
            have hge' := hge.2 hc
            have HRR : Hid (r = false) := Lib.hid (HRF.out hc)
            clear HT HF HO HD HLD HGD HBP hbr hok hgk hge hc HNX HRF hq
            go_upto_region 6 with (first
              | ((with_reducible refine wpList_loadV (op := ⟨some 14, _, _, _, _, _⟩) rfl 79 (.tmp 13) rfl _ ?_ _ HLDV.out ?_); rfl)
              | (with_reducible refine wpList_alloc28 (o := ⟨some 4, _, _, _, _, _⟩) wr.heap.size rfl rfl 4 rfl rfl ?_)
              | ((with_reducible refine wpList_store28n (o := ⟨none, _, _, _, _, _⟩) rfl (.tmp 4) (.tmp 14) rfl wr.heap.size rfl zeroI Y ?_ ?_ ?_); rfl; rfl))
            generalize (encI Y).toArray = X at *
            generalize (encI L[m]!).toArray = Z at *
            generalize wr.alloc (.cells X 79) = W2 at *
            simp only [Act.put, List.setIfInBounds_toArray, List.set_cons_zero, List.set_cons_succ]
            refine wp_region_kept W2.heap.size W2 (Below.refl _ _) (by kernel_rfl) (by kernel_rfl) ?_
            repeat (first
              | (go_big_quiet_want; (with_reducible refine quiet_loadV 79 (.tmp 4) rfl _ ?_ _ HQ4.out ?_); rfl; simp only [Act.put, List.setIfInBounds_toArray, List.set_cons_zero, List.set_cons_succ]; go_big_quiet_on)
              | (go_big_quiet_want; (with_reducible refine quiet_loadV 79 (.tmp 25) rfl _ ?_ _ HQP.out ?_); rfl; simp only [Act.put, List.setIfInBounds_toArray, List.set_cons_zero, List.set_cons_succ]; go_big_quiet_on)
              | go_big_quiet_step (first | (go_at_call 57; with_reducible exact kept_of (Nat.le_refl _) HGK.out _) | (go_at_call 58; with_reducible exact kept_of (Nat.le_refl _) HCP.out _)))
            refine wpQuiet_nil ?_
            rintro wk ⟨⟨_, hwk⟩, rfl⟩
            go_wp2
            go_ret
            exact ⟨by rw [HRR.out]; rfl, HBN.out.trans (hwk.mono HBN.out.size)⟩
          | true =>
            have hge' : ¬ q ≥ 0 := fun h => by rw [hge.1 h] at hc; cases hc
            have HNY := Lib.hid (HNX.out hc)
            clear HT HF HO HD HLD HGD HBP hbr hok hgk hge hc HNX HRF hq
            go_upto_region 6 with (first
              | ((with_reducible refine wpList_loadV (op := ⟨some 14, _, _, _, _, _⟩) rfl 79 (.tmp 13) rfl _ ?_ _ HLDV.out ?_); rfl)
              | (with_reducible refine wpList_alloc28 (o := ⟨some 4, _, _, _, _, _⟩) wr.heap.size rfl rfl 4 rfl rfl ?_)
              | ((with_reducible refine wpList_store28n (o := ⟨none, _, _, _, _, _⟩) rfl (.tmp 4) (.tmp 14) rfl wr.heap.size rfl zeroI Y ?_ ?_ ?_); rfl; rfl))
            generalize (encI Y).toArray = X at *
            generalize (encI L[m]!).toArray = Z at *
            generalize wr.alloc (.cells X 79) = W2 at *
            simp only [Act.put, List.setIfInBounds_toArray, List.set_cons_zero, List.set_cons_succ]
            refine wp_region_kept W2.heap.size W2 (Below.refl _ _) (by kernel_rfl) (by kernel_rfl) ?_
            repeat (first
              | (go_big_quiet_want; (with_reducible refine quiet_loadV 79 (.tmp 4) rfl _ ?_ _ HQ4.out ?_); rfl; simp only [Act.put, List.setIfInBounds_toArray, List.set_cons_zero, List.set_cons_succ]; go_big_quiet_on)
              | (go_big_quiet_want; (with_reducible refine quiet_loadV 79 (.tmp 25) rfl _ ?_ _ HQP.out ?_); rfl; simp only [Act.put, List.setIfInBounds_toArray, List.set_cons_zero, List.set_cons_succ]; go_big_quiet_on)
              | go_big_quiet_step (first | (go_at_call 57; with_reducible exact kept_of (Nat.le_refl _) HGK.out _) | (go_at_call 58; with_reducible exact kept_of (Nat.le_refl _) HCP.out _)))
            refine wpQuiet_nil ?_
            rintro wk ⟨⟨_, hwk⟩, rfl⟩
            have HBW := Lib.hid (HNY.out _ (HBN.out.trans (hwk.mono HBN.out.size)))
            clear hwk
            go_wp2
            go_roundw
            case rel => exact HBW.out
            case measure => simp [RowKit.intOf]; omega
    · have hlt' : ¬ (k : Int) < (n : Int) := by omega
      have HRT : Hid (r = true) := Lib.hid (HT.out (fun j hj => HD.out j (by omega)))
      have HBR := Lib.hid hbr
      clear HT HF HO HD HLD HGD HBP hbr
      go_wp2
      go_ret
      exact ⟨by rw [HRT.out]; rfl, HBR.out⟩
theorem goodR_long {L : List Ins} (h : 16 < L.length) : goodR L = false := by
  cases hg : goodR L with
  | false => rfl
  | true => have := ((goodR_iff L).1 hg).1; omega
/-- Good of the program. -/
theorem gd_any (A : Option Addr) (c : Nat) (L : List Ins) (w : World) (ht : ∀ x ∈ L, x.tgt.length ≤ 100000) (hA : IAt w w.heap.size A L) :
    Calls Tryz.prog 33 #[.slice A L.length c] w fun e w' => e = .returned (.bool (goodR L)) ∧ Below w.heap.size w w' := by
  by_cases hl : 16 < L.length
  · rw [goodR_long hl]
    refine (gd_long A L.length c w hl).mono ?_
    rintro e w' ⟨rfl, rfl⟩
    exact ⟨rfl, Below.refl _ _⟩
  · rcases hA with rfl | ⟨g, off, rfl, hg, hr⟩
    · refine (gd_none A c w).mono ?_
      rintro e w' ⟨rfl, rfl⟩
      exact ⟨rfl, Below.refl _ _⟩
    · exact gd_some g off c L w (by omega) (fun k hk => ht _ (by rw [getElem!_pos L k hk]; exact List.getElem_mem hk)) hg hr
end Go.Proofs.YtehgpnnfjgmiiaaGreat
end
section
namespace Go.Proofs.YtehgpnnfjgmiiaaGreat
open Go.Shelf Go.RowKit Go.Lib Go.Great
set_option maxRecDepth 100000
set_option maxHeartbeats 400000
end Go.Proofs.YtehgpnnfjgmiiaaGreat
end
