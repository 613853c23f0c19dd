/- Rows of instances in memory: what a row of one's own is; a clone; a row that grows. Conditions: at most 10,000 instances where cloned. bytes and Cmp of the reference. No condition. byPublisher of the program, before of the reference. No condition. -/
import Derived.Test.YtkceipkgebgigaaGreatProg
import Derived.Test.YtkceipkgebgigaaGreatXIil
import Derived.Deep.AppendSrc
import Derived.Shelf.SlicesE.Clone
import Derived.Test.YtkceipkgebgigaaGreatXIig
section
namespace Go.Proofs.YtkceipkgebgigaaGreat
open Go.Shelf Go.RowKit Go.Lib Go.Sort Go.Great
set_option maxRecDepth 100000
set_option maxHeartbeats 1000000
section
variable {α : Type} {enc : α → List Value} {k : Nat}
/-- Elements as cells. -/
def flatE (enc : α → List Value) (l : List α) : List Value := l.flatMap enc
theorem flatE_length (hk : ∀ x, (enc x).length = k) (l : List α) : (flatE enc l).length = l.length * k := by
  induction l with
  | nil => simp [flatE]
  | cons x l ih =>
    have e : flatE enc (x :: l) = enc x ++ flatE enc l := rfl
    rw [e, List.length_append, ih, hk, List.length_cons, Nat.add_mul, Nat.one_mul]
    omega
theorem flatE_get (hk : ∀ x, (enc x).length = k) (hk0 : 0 < k) : ∀ (l : List α) (j : Nat) (x : α) (c : Nat), l[j]? = some x → c < k → (flatE enc l)[j * k + c]? = (enc x)[c]? := by
  intro l
  induction l with
  | nil => intro j x c h; simp at h
  | cons y l ih =>
    intro j x c h hc
    cases j with
    | zero =>
      simp only [List.getElem?_cons_zero, Option.some.injEq] at h
      subst h
      unfold flatE
      rw [List.flatMap_cons, Nat.zero_mul, Nat.zero_add, List.getElem?_append_left (by rw [hk]; exact hc)]
    | succ j =>
      rw [List.getElem?_cons_succ] at h
      unfold flatE
      rw [List.flatMap_cons, List.getElem?_append_right (by rw [hk, Nat.add_mul, Nat.one_mul]; omega), hk, show (j + 1) * k + c - k = j * k + c by rw [Nat.add_mul, Nat.one_mul]; omega]
      exact ih j x c h hc
end
theorem rangeAt_below {w w' : World} {g o : Nat} {cs : List Value} (h : w.rangeAt g o cs) (hb : w'.heap[g]? = w.heap[g]?) : w'.rangeAt g o cs := fun j v hv => by
  rw [World.cell?_of_block (w := w) (w' := w') (a := ⟨g, o + j, none⟩) hb]
  exact h j v hv
/-- The address leads to the instances L, in a block below B. -/
def IAt (w : World) (B : Nat) (A : Option Addr) (L : List Ins) : Prop := L = [] ∨ ∃ g off, A = some ⟨g, off, none⟩ ∧ g < B ∧ w.rangeAt g off (flatE encI L)
theorem IAt.below {w w' : World} {B : Nat} {A : Option Addr} {L : List Ins} (h : IAt w B A L) (hb : Below B w w') : IAt w' B A L := by
  rcases h with h | ⟨g, off, e, hg, hr⟩
  · exact .inl h
  · exact .inr ⟨g, off, e, hg, rangeAt_below hr (hb.block g hg)⟩
theorem IAt.more {w : World} {B B' : Nat} {A : Option Addr} {L : List Ins} (h : IAt w B A L) (hB : B ≤ B') : IAt w B' A L := by
  rcases h with h | ⟨g, off, e, hg, hr⟩
  · exact .inl h
  · exact .inr ⟨g, off, e, by omega, hr⟩
/-- What a row of instances of its own is. -/
theorem own_formI {w : World} {base n : Nat} {v : Value} {L : List Ins} (h : w.ownsRow base 29 28 v n (flatE encI L)) : ∃ A c, v = .slice A n c ∧ n = L.length ∧ n ≤ c ∧ c ≤ maxLen ∧ ((A = none ∧ L = [] ∧ c = 0) ∨ ∃ g, A = some ⟨g, 0, none⟩ ∧ base ≤ g ∧ g < w.heap.size ∧ w.rangeAt g 0 (flatE encI L)) := by
  have hl := h.1
  rw [flatE_length encI_length] at hl
  have hn : n = L.length := by omega
  rcases h.2 with ⟨rfl, h0⟩ | ⟨g, cap, cur, rfl, hb, hg, hc, hm, hs, ht⟩
  · exact ⟨none, 0, by rw [h0], hn, by omega, by simp [maxLen], .inl ⟨rfl, List.eq_nil_of_length_eq_zero (by omega), rfl⟩⟩
  · refine ⟨some ⟨g, 0, none⟩, cap, rfl, hn, hc, hm, .inr ⟨g, rfl, hb, (Array.getElem?_eq_some_iff.1 hg).1, fun j u hu => ?_⟩⟩
    rw [Nat.zero_add, cell_of_row w g j _ 29 (0, 0) hg]
    rw [← ht, List.getElem?_take] at hu
    split at hu
    · simpa using hu
    · cases hu
theorem info28i : ∃ i0, Tryz.prog.info? 29 = some i0 ∧ i0.zero = some (.agg (encI default).toArray) ∧ i0.size = 28 ∧ i0.bytes = 72 := by
  have h : (Tryz.prog.info? 29).map (fun i => (i.zero, i.size, i.bytes)) = some (some (.agg (encI default).toArray), 28, 72) := by kernel_rfl
  cases hi : Tryz.prog.info? 29 with
  | none => rw [hi] at h; cases h
  | some i =>
    rw [hi] at h
    simp only [Option.map_some, Option.some.injEq, Prod.mk.injEq] at h
    exact ⟨i, rfl, h.1, h.2.1, h.2.2⟩
theorem flatE_one (L : List Ins) : ∀ u ∈ flatE encI L, u.oneCell' = true := by
  intro u hu
  obtain ⟨c, _, h⟩ := List.mem_flatMap.1 hu
  exact encI_one c u h
/-- Clone at whatever row of instances. -/
theorem iclone_any (A : Option Addr) (c : Nat) (L : List Ins) (w : World) (hL : L.length ≤ 10000) (hA : IAt w w.heap.size A L) (hA2 : A = none ∨ ∃ g off, A = some ⟨g, off, none⟩) :
    Calls Tryz.prog 22 #[.slice A L.length c] w fun e w' => ∃ v, e = .returned v ∧ w'.ownsRow w.heap.size 29 28 v L.length (flatE encI L) ∧ Below w.heap.size w w' := by
  rcases hA2 with rfl | ⟨g, off, rfl⟩
  · obtain rfl : L = [] := by
      rcases hA with e | ⟨g, off, e, _⟩
      · exact e
      · cases e
    refine (AnyE.slices_Clone_nil Tryz.iclone _ _ _).mono ?_
    rintro e w' ⟨rfl, rfl⟩
    exact ⟨_, rfl, ⟨by simp [flatE], .inl ⟨rfl, rfl⟩⟩, Below.refl _ _⟩
  · obtain ⟨i0, hi, hz0, hz1, hz2⟩ := info28i
    refine (AnyE.slices_Clone Tryz.iclone i0 _ 28 72 hi hz0 hz1 hz2 (by simp [Value.cells, encI_length]) (by omega) (fun w => by kernel_rfl) g off L.length c (flatE encI L) w (flatE_length encI_length L) (by simp only [maxLen]; omega) (by omega) (fun j u hu => ?_) (flatE_one L)).mono ?_
    · rcases hA with rfl | ⟨g', off', e, _, hr⟩
      · simp [flatE] at hu
      · injection e with e
        injection e with e1 e2
        subst e1 e2
        exact hr j u hu
    · rintro e w' ⟨v', rfl, ho, _, hb⟩
      exact ⟨v', rfl, ho, hb⟩
/-- t is a slice of e, an instance's type. -/
structure InsT (t e : TypeId) : Prop where
  und : Tryz.prog.underlying t = some (.slice e)
  inf : (Tryz.prog.info? e).map (fun i => (i.zero, i.size, i.bytes)) = some (some (.agg (encI default).toArray), 28, 72)
theorem InsT.info {t e : TypeId} (h : InsT t e) : ∃ i0, Tryz.prog.info? e = some i0 ∧ i0.zero = some (.agg (encI default).toArray) ∧ i0.size = 28 ∧ i0.bytes = 72 := by
  have h := h.inf
  cases hi : Tryz.prog.info? e with
  | none => rw [hi] at h; cases h
  | some i =>
    rw [hi] at h
    simp only [Option.map_some, Option.some.injEq, Prod.mk.injEq] at h
    exact ⟨i, rfl, h.1, h.2.1, h.2.2⟩
theorem insT : InsT 22 29 := ⟨Tryz.underlying22, by kernel_rfl⟩
theorem fold_setI (k : Nat) (l : List Value) (n : Nat) (A : Array Value) (h : n + l.length ≤ A.size) :
    ((l.zipIdx n).foldl (fun (cs : Array Value) (p : Value × Nat) => cs.setIfInBounds (0 * k + p.2) p.1) A).toList = A.toList.take n ++ l ++ A.toList.drop (n + l.length) := by
  induction l generalizing n A with
  | nil => simp
  | cons c l ih =>
    rw [List.zipIdx_cons, List.foldl_cons, ih]
    · simp only [Nat.zero_mul, Nat.zero_add, Array.toList_setIfInBounds, List.length_cons]
      simp only [List.length_cons] at h
      apply List.ext_getElem?
      intro j
      simp only [List.append_assoc]
      by_cases h1 : j < n
      · rw [List.getElem?_append_left (by simp; omega), List.getElem?_append_left (by simp; omega)]
        simp [List.getElem?_take, h1, show j < n + 1 by omega, List.getElem?_set, show n ≠ j by omega]
      · by_cases h2 : j = n
        · subst h2
          rw [List.getElem?_append_left (by simp; omega), List.getElem?_append_right (by simp; omega)]
          simp [List.getElem?_take, List.getElem?_set, show min j A.size = j by omega, show j < A.size by omega]
        · obtain ⟨q, rfl⟩ : ∃ q, j = n + 1 + q := ⟨j - (n + 1), by omega⟩
          have hm1 : min (n + 1) A.size = n + 1 := by omega
          have hm2 : min n A.size = n := by omega
          rw [List.getElem?_append_right (by rw [List.length_take, List.length_set, Array.length_toList, hm1]; omega), List.getElem?_append_right (l₁ := List.take n A.toList) (by rw [List.length_take, Array.length_toList, hm2]; omega)]
          simp only [List.length_take, List.length_set, Array.length_toList, hm1, hm2]
          rw [show n + 1 + q - (n + 1) = q by omega, show n + 1 + q - n = q + 1 by omega, List.cons_append, List.getElem?_cons_succ]
          by_cases h3 : q < l.length
          · rw [List.getElem?_append_left h3, List.getElem?_append_left h3]
          · rw [List.getElem?_append_right (by omega), List.getElem?_append_right (by omega), List.getElem?_drop, List.getElem?_drop, List.getElem?_set_ne (by omega)]
            congr 1
            omega
    · simp only [List.length_cons] at h
      simp only [Array.size_setIfInBounds]
      omega

/-- A new row of one instance. -/
theorem run_build_oneI {t e : TypeId} (hT : InsT t e) (x : Ins) (w : World) : (Instr.buildSlice t 1 #[(0, .agg (encI x).toArray)]).run Tryz.prog w = .ok (.slice (some ⟨w.heap.size, 0, none⟩) 1 1) (w.alloc (.cells (encI x).toArray e)) := by
  obtain ⟨i0, hi, hz0, hz1, hz2⟩ := hT.info
  obtain ⟨Z, hZ⟩ : ∃ Z, Z = (encI default).toArray := ⟨_, rfl⟩
  rw [← hZ] at hz0
  clear hZ
  have hf := fold_setI 28 (encI x) 0 ((Array.range 28).map (Z[· % Z.size]!)) (by rw [encI_length]; simp)
  have hl := encI_length x
  have hA : (List.foldl (fun (cs : Array Value) (p : Value × Nat) => cs.setIfInBounds (0 * 28 + p.2) p.1) ((Array.range 28).map (Z[· % Z.size]!)) (encI x).zipIdx) = (encI x).toArray := by
    apply Array.ext'
    rw [hf]
    simp only [List.take_zero, List.nil_append, Nat.zero_add, hl]
    rw [List.drop_eq_nil_of_le (by simp)]
    simp
  simp only [Nat.zero_mul, Nat.zero_add] at hA
  generalize encI x = cs at hA hl ⊢
  simp [Instr.buildSlice, run_underlying hT.und, sizeOf, typeInfo, zeroValue, hi, hz0, hz1, Value.cells, Instr.fill, hl, newRow]
  rw [hA]
/-- A new row of none. -/
theorem run_build_noneI {t e : TypeId} (hT : InsT t e) (w : World) : (Instr.buildSlice t 0 #[]).run Tryz.prog w = .ok (.slice (some ⟨w.heap.size, 0, none⟩) 0 0) (w.alloc (.cells #[] e)) := by
  obtain ⟨i0, hi, hz0, hz1, hz2⟩ := hT.info
  simp [Instr.buildSlice, run_underlying hT.und, sizeOf, typeInfo, hi, hz1, Instr.fill, newRow]
  congr 2
  exact Array.eq_empty_of_size_eq_zero (by simp)
theorem wp_build_oneI {t e : TypeId} (hT : InsT t e) (x : Ins) {w : World} {o : Oper} {a : Act} {K : Act → World → Prop} {Q : Exit → Act → World → Prop} (y : Operand) (ho : o.op = .buildSlice t 1 #[(0, y)]) (hy : a.eval y = .agg (encI x).toArray)
    (h : K (a.put o.dst (.slice (some ⟨w.heap.size, 0, none⟩) 1 1)) (w.alloc (.cells (encI x).toArray e))) : o.wp Tryz.prog a w K Q := by
  unfold Oper.wp execOp
  simp only [ho, List.map_toArray, List.map_cons, List.map_nil, hy, Sem.run_bind, run_build_oneI hT, Result.andThen_ok, Sem.run_pure]
  exact h
theorem wpList_build_oneI {t e : TypeId} (hT : InsT t e) (x : Ins) {w : World} {ops : Array Oper} {rest : List Oper} {o : Oper} {a : Act} {Q : Exit → Act → World → Prop} (hgd : o.guard = none) (y : Operand) (ho : o.op = .buildSlice t 1 #[(0, y)]) (hy : a.eval y = .agg (encI x).toArray)
    (h : wpList Tryz.prog ops Q rest (a.put o.dst (.slice (some ⟨w.heap.size, 0, none⟩) 1 1)) (w.alloc (.cells (encI x).toArray e))) : wpList Tryz.prog ops Q (o :: rest) a w :=
  wpList_plain hgd fun _ hK => wp_build_oneI hT x y ho hy (hK _ _ h)
theorem wpList_append_ins {t e : TypeId} (hT : InsT t e) {w : World} {ops : Array Oper} {rest : List Oper} {o : Oper} {a : Act} {Q : Exit → Act → World → Prop} (hgd : o.guard = none) (s x : Operand)
    (ho : o.op = .call { callee := .builtin .append, args := #[s, x], argTypes := #[t, t] })
    (base : Nat) (v : Value) (L M : List Ins) (hs : a.eval s = v) (hown : w.ownsRow base e 28 v L.length (flatE encI L))
    (y : Value) (hx : a.eval x = y) (hr : Src Tryz.prog 28 t y M.length (flatE encI M) w) (h63 : L.length + M.length ≤ 1000000) (hbase : base ≤ w.heap.size)
    (h : ∀ v' w', w'.ownsRow base e 28 v' (L ++ M).length (flatE encI (L ++ M)) → w.grownBy w' v.ownBlock → wpList Tryz.prog ops Q rest (a.put o.dst v') w') : wpList Tryz.prog ops Q (o :: rest) a w :=
  wpList_plain hgd fun _ hK => by
    obtain ⟨i0, hi, hz0, hz1, hz2⟩ := hT.info
    obtain ⟨v', w', hrun, h2, h3, _⟩ := run_append_srcK w base t t o.type e i0 _ 28 72 hT.und hi hz0 hz1 hz2 (by simp [Value.cells, encI_length]) v L.length (flatE encI L) hown y M.length (flatE encI M) hr (by simp only [maxLen]; omega) (by omega) hbase
    unfold Oper.wp execOp
    simp only [ho, resolve, invoke, builtin, Sem.run_bind, Sem.run_pure, Result.andThen_ok, List.map_toArray, List.map_cons, List.map_nil, hs, hx, hrun]
    have e1 : flatE encI L ++ flatE encI M = flatE encI (L ++ M) := by unfold flatE; rw [List.flatMap_append]
    rw [e1, ← List.length_append] at h2
    exact hK _ _ (h v' w' h2 h3)
end Go.Proofs.YtkceipkgebgigaaGreat
end
section
namespace Go.Proofs.YtkceipkgebgigaaGreat
open Go.Shelf Go.RowKit Go.Lib Go.Great
set_option maxRecDepth 100000
set_option maxHeartbeats 2000000
theorem still_convV {P : Program} {ops : Array Oper} {rest : List Oper} {o : Oper} {a : Act} {w : World} {Q : Act → Prop} (hg : o.guard = none) (s t : TypeId) (x : Operand) (ho : o.op = .convert s t x) (u v : Value)
    (hx : a.eval x = u) (hr : (convert s t u).run P w = .ok v w) (h : wpStill P ops w Q rest (a.put o.dst v)) : wpStill P ops w Q (o :: rest) a :=
  wpStill_step fun K hK => by
    have hw : Region.wanted o (yielded ops a.tmps) = true := by simp [Region.wanted, hg]
    rw [if_pos hw]
    unfold Oper.still execOp
    simp only [ho, hx, Sem.run_bind, hr, Result.andThen_ok, Sem.run_pure]
    exact ⟨rfl, hK _ h⟩
theorem less_cmp : ∀ a b : List UInt8, (Op.bytesLess a b = true ↔ compareBytes a b = -1) ∧ (a = b ↔ compareBytes a b = 0) ∧ (compareBytes a b = -1 ∨ compareBytes a b = 0 ∨ compareBytes a b = 1)
  | [], [] => by simp [Op.bytesLess, compareBytes]
  | [], _ :: _ => by simp [Op.bytesLess, compareBytes]
  | _ :: _, [] => by simp [Op.bytesLess, compareBytes]
  | x :: a, y :: b => by
    obtain ⟨h1, h2, h3⟩ := less_cmp a b
    by_cases hxy : x < y
    · have hne : x ≠ y := fun e => by subst e; exact UInt8.lt_irrefl x hxy
      simp [Op.bytesLess, compareBytes, hxy, hne]
    · by_cases hyx : y < x
      · have hne : x ≠ y := fun e => by subst e; exact UInt8.lt_irrefl x hyx
        simp [Op.bytesLess, compareBytes, hxy, hyx, hne]
      · have he : x = y := by
          apply UInt8.toNat_inj.1
          rw [UInt8.lt_iff_toNat_lt] at hxy hyx
          omega
        subst he
        simp only [Op.bytesLess, compareBytes, hxy, if_false]
        simp [h1, h2, h3]
theorem rbytes_lt (x y : ByteArray) (hl : Op.bytesLess x.toList y.toList = true) (w : World) : Calls Tryz.prog 64 #[.string x, .string y] w fun e w' => e = .returned (.int .i64 (-1)) ∧ w' = w := by
  have HL := Lib.hid hl
  go_enter Tryz.func64, Tryz.ntmps64
  go_wp2
  go_ret
  exact ⟨rfl, rfl⟩
theorem rbytes_eq (x y : ByteArray) (hl : Op.bytesLess x.toList y.toList = false) (he : (x.toList == y.toList) = true) (w : World) : Calls Tryz.prog 64 #[.string x, .string y] w fun e w' => e = .returned (.int .i64 0) ∧ w' = w := by
  go_enter Tryz.func64, Tryz.ntmps64
  go_wp2
  go_ret
  exact ⟨rfl, rfl⟩
theorem rbytes_gt (x y : ByteArray) (hl : Op.bytesLess x.toList y.toList = false) (he : (x.toList == y.toList) = false) (w : World) : Calls Tryz.prog 64 #[.string x, .string y] w fun e w' => e = .returned (.int .i64 1) ∧ w' = w := by
  go_enter Tryz.func64, Tryz.ntmps64
  go_wp2
  go_ret
  exact ⟨rfl, rfl⟩
theorem rbytes_any (a b : List UInt8) (w : World) : Calls Tryz.prog 64 #[.string (bstr a), .string (bstr b)] w fun e w' => e = .returned (.int .i64 (compareBytes a b)) ∧ w' = w := by
  obtain ⟨h1, h2, h3⟩ := less_cmp a b
  by_cases hl : Op.bytesLess a b = true
  · rw [h1.1 hl]
    exact rbytes_lt _ _ (by rw [bstr_list, bstr_list]; exact hl) w
  · have hl' : Op.bytesLess a b = false := by simpa using hl
    by_cases he : a = b
    · rw [h2.1 he]
      exact rbytes_eq _ _ (by rw [bstr_list, bstr_list]; exact hl') (by rw [bstr_list, bstr_list]; simpa using he) w
    · rw [show compareBytes a b = 1 from by rcases h3 with h | h | h; exact absurd (h1.2 h) hl; exact absurd (h2.2 h) he; exact h]
      exact rbytes_gt _ _ (by rw [bstr_list, bstr_list]; exact hl') (by rw [bstr_list, bstr_list]; simpa using he) w
theorem rcmp_any (x y : Ins) (w : World) : Calls Tryz.prog 30 #[.agg (encI x).toArray, .agg (encI y).toArray] w fun e w' => e = .returned (.int .i64 (cmpI x y)) ∧ Below w.heap.size w w' := by
  obtain ⟨h1, h2, hb⟩ := heap2 w (.cells (encI x).toArray 29) (.cells (encI y).toArray 29)
  obtain ⟨W0, hW0⟩ : ∃ W0, W0 = (w.alloc (.cells (encI x).toArray 29)).alloc (.cells (encI y).toArray 29) := ⟨_, rfl⟩
  have HW0 := Lib.hid hW0
  rw [← hW0] at h1 h2
  obtain ⟨W1, hW1⟩ : ∃ W1, W1 = { W0 with drawn := W0.drawn + 1 } := ⟨_, rfl⟩
  have HW1 := Lib.hid hW1
  have hbd : Below W0.heap.size W0 W1 := by rw [hW1]; exact ⟨rfl, rfl, rfl, Nat.le_refl _, fun _ _ => rfl⟩
  have G1 := fldB (show W1.heap[w.heap.size]? = _ by rw [hW1]; exact h1)
  have G2 := fldB (show W1.heap[w.heap.size + 1]? = _ by rw [hW1]; exact h2)
  have k0 := G1.seq
  have k1 := G1.gone
  have k2 := G1.born
  have k3 := G1.life
  have k5 := G1.pri
  have k6 := G1.wei
  have k7 := G1.port
  have k8 := G1.tgt
  have l0 := G2.seq
  have l1 := G2.gone
  have l2 := G2.born
  have l3 := G2.life
  have l5 := G2.pri
  have l6 := G2.wei
  have l7 := G2.port
  have l8 := G2.tgt
  have hs1 : w.heap.size < W1.heap.size := by rw [hW1]; exact (Array.getElem?_eq_some_iff.1 h1).1
  have hs2 : w.heap.size + 1 < W1.heap.size := by rw [hW1]; exact (Array.getElem?_eq_some_iff.1 h2).1
  have P1 : BAt W1 W1.heap.size (some ⟨w.heap.size, 0, none⟩) x.pub := .inr ⟨_, 0, rfl, hs1, fun j hj => (range_frontI (show W1.rangeAt w.heap.size 0 (encI x) from row_range (by rw [hW1]; exact h1))) j _ (bcells_get x.pub j hj)⟩
  have P2 : BAt W1 W1.heap.size (some ⟨w.heap.size + 1, 0, none⟩) y.pub := .inr ⟨_, 0, rfl, hs2, fun j hj => (range_frontI (show W1.rangeAt (w.heap.size + 1) 0 (encI y) from row_range (by rw [hW1]; exact h2))) j _ (bcells_get y.pub j hj)⟩
  have hC1 := run_convert_bat (P := Tryz.prog) 34 9 5 20 Tryz.underlying34 Tryz.underlying5 Tryz.underlying9 P1
  have hC2 := run_convert_bat (P := Tryz.prog) 34 9 5 20 Tryz.underlying34 Tryz.underlying5 Tryz.underlying9 P2
  rw [x.hp] at hC1
  rw [y.hp] at hC2
  have HC1 := Lib.hid hC1
  have HC2 := Lib.hid hC2
  have HP := Lib.hid (rbytes_any x.pub y.pub W1)
  have HS := Lib.hid (rbytes_any x.tgt y.tgt W1)
  have HFl := Lib.hid (fun b => bit_any b W1)
  have H64 := Lib.hid (fun a b => rcmp64 a b W1)
  have hm0 : ∀ a : Nat, a < 4294967296 → a % 18446744073709551616 = a := fun a h => by omega
  have z1 := hm0 _ x.hl
  have z2 := hm0 _ y.hl
  have z3 := hm0 _ (Nat.lt_trans x.h1 (by omega))
  have z4 := hm0 _ (Nat.lt_trans y.h1 (by omega))
  have z5 := hm0 _ (Nat.lt_trans x.h2 (by omega))
  have z6 := hm0 _ (Nat.lt_trans y.h2 (by omega))
  have z7 := hm0 _ (Nat.lt_trans x.h3 (by omega))
  have z8 := hm0 _ (Nat.lt_trans y.h3 (by omega))
  have HCL : Hid (∀ j, j < 9 → (W1.alloc (.cells #[.int .i64 (cmpN x.seq y.seq), .int .i64 (cmpN (flagN x.gone) (flagN y.gone)), .int .i64 (cmpN x.born y.born), .int .i64 (cmpN x.life y.life), .int .i64 (compareBytes x.pub y.pub), .int .i64 (cmpN x.pri y.pri), .int .i64 (cmpN x.wei y.wei), .int .i64 (cmpN x.port y.port), .int .i64 (compareBytes x.tgt y.tgt)] 3)).cell? ⟨W1.heap.size, j, none⟩ = some (.int .i64 (listI x y)[j]!)) := Lib.hid (fun j hj => by
    rw [cell_of_row _ _ j _ 3 (0, 0) (heap_alloc_new W1 _)]
    have : j = 0 ∨ j = 1 ∨ j = 2 ∨ j = 3 ∨ j = 4 ∨ j = 5 ∨ j = 6 ∨ j = 7 ∨ j = 8 := by omega
    rcases this with rfl | rfl | rfl | rfl | rfl | rfl | rfl | rfl | rfl <;> rfl)
  have HLL : Hid ((listI x y).length = 9) := Lib.hid rfl
  have HR : Hid (cmpI x y = firstZ (listI x y)) := Lib.hid rfl
  have HBE : Hid (∀ o, Below w.heap.size w (W1.alloc o)) := Lib.hid (fun o => by
    have hb0 : Below w.heap.size w W0 := by rw [hW0]; exact hb
    have hb1 := hb0.trans (hbd.mono hb0.size)
    exact hb1.alloc hb1.size o)
  generalize (encI x).toArray = X at *
  generalize (encI y).toArray = Y at *
  generalize cmpI x y = r at *
  generalize listI x y = L at *
  generalize compareBytes x.pub y.pub = cp at *
  generalize compareBytes x.tgt y.tgt = ct at *
  generalize bstr x.pub = S1 at *
  generalize bstr y.pub = S2 at *
  generalize bstr x.tgt = T1 at *
  generalize bstr y.tgt = T2 at *
  generalize x.seq = x0 at *
  generalize x.gone = x1 at *
  generalize x.born = x2 at *
  generalize x.life = x3 at *
  generalize x.pri = x5 at *
  generalize x.wei = x6 at *
  generalize x.port = x7 at *
  generalize y.seq = y0 at *
  generalize y.gone = y1 at *
  generalize y.born = y2 at *
  generalize y.life = y3 at *
  generalize y.pri = y5 at *
  generalize y.wei = y6 at *
  generalize y.port = y7 at *
  clear h1 h2 hb G1 G2 hbd P1 P2 hs1 hs2 hm0 hC1 hC2
  clear hW1 hW0
  go_enter Tryz.func30, Tryz.ntmps30
  go_upto_region 1 with fail
  rw [← HW0.out]
  refine region_tail 57 W1 HW1.out (by kernel_rfl) (by kernel_rfl) ?_
  simp only [List.take_succ_cons, List.take_zero, List.drop_succ_cons, List.drop_zero]
  repeat (first
    | ((with_reducible refine still_convV (o := ⟨some 33, _, _, _, _, _⟩) rfl 34 9 (.tmp 32) rfl _ _ ?_ HC1.out ?_); rfl; simp only [Act.put, List.setIfInBounds_toArray, List.set_cons_zero, List.set_cons_succ])
    | ((with_reducible refine still_convV (o := ⟨some 36, _, _, _, _, _⟩) rfl 34 9 (.tmp 35) rfl _ _ ?_ HC2.out ?_); rfl; simp only [Act.put, List.setIfInBounds_toArray, List.set_cons_zero, List.set_cons_succ])
    | still_step
    | ((refine wpStill_step (fun K hK => ?_)); go_simp; (with_reducible refine ⟨_, HP.out, hK _ ?_⟩); clear hK K)
    | ((refine wpStill_step (fun K hK => ?_)); go_simp; (with_reducible refine ⟨_, HS.out, hK _ ?_⟩); clear hK K)
    | still_call (H64.out _ _)
    | still_call (HFl.out _))
  refine wpStill_nil ?_
  clear HP HS H64 HFl HC1 HC2 k0 k1 k2 k3 k5 k6 k7 k8 l0 l1 l2 l3 l5 l6 l7 l8 z1 z2 z3 z4 z5 z6 z7 z8
  generalize cmpN x0 y0 = c0 at *
  generalize cmpN (flagN x1) (flagN y1) = c1 at *
  generalize cmpN x2 y2 = c2 at *
  generalize cmpN x3 y3 = c3 at *
  generalize cmpN x5 y5 = c5 at *
  generalize cmpN x6 y6 = c6 at *
  generalize cmpN x7 y7 = c7 at *
  have R0 : Hid (OrR L (W1.alloc (.cells #[.int .i64 c0, .int .i64 c1, .int .i64 c2, .int .i64 c3, .int .i64 cp, .int .i64 c5, .int .i64 c6, .int .i64 c7, .int .i64 ct] 3)) (.int .i64 0) (W1.alloc (.cells #[.int .i64 c0, .int .i64 c1, .int .i64 c2, .int .i64 c3, .int .i64 cp, .int .i64 c5, .int .i64 c6, .int .i64 c7, .int .i64 ct] 3))) := Lib.hid ⟨0, rfl, by omega, fun j h1 => absurd h1 (by omega), rfl⟩
  go_upto_region 3 with (first
    | ((with_reducible refine wpList_bslice9 (o := ⟨some 64, _, _, _, _, _⟩) rfl _ rfl _ _ _ _ _ _ _ _ _ ?_ ?_); (simp only [List.map_toArray, List.map_cons, List.map_nil]; rfl)))
  have HBF := Lib.hid (HBE.out (.cells #[.int .i64 c0, .int .i64 c1, .int .i64 c2, .int .i64 c3, .int .i64 cp, .int .i64 c5, .int .i64 c6, .int .i64 c7, .int .i64 ct] 3))
  generalize W1.alloc (.cells #[.int .i64 c0, .int .i64 c1, .int .i64 c2, .int .i64 c3, .int .i64 cp, .int .i64 c5, .int .i64 c6, .int .i64 c7, .int .i64 ct] 3) = W2 at *
  generalize W1.heap.size = g at *
  go_loopw [6] (OrR L W2) (fun i _ => 9 - (RowKit.intOf i).toNat)
  case atStart => exact R0.out
  case round =>
    obtain ⟨k, rfl, hk, hF, rfl⟩ := hrel
    rw [HLL.out] at hk
    clear R0
    have HF := Lib.hid hF
    clear hF
    by_cases hlt : k < 9
    · have hlt' : (k : Int) < 9 := by omega
      have hcell := HCL.out k hlt
      by_cases hz : L[k]! = 0
      · have HNX : Hid (OrR L wr (.int .i64 ((k : Int) + 1)) wr) := Lib.hid ⟨k + 1, by simp, by rw [HLL.out]; omega, fun j h2 => by
          by_cases e : j = k
          · subst e; exact hz
          · exact HF.out j (by omega), rfl⟩
        rw [hz] at hcell
        clear HF HCL hz
        go_wp2
        go_roundw
        case rel => exact HNX.out
        case measure => simp [RowKit.intOf]; omega
      · have HRT : Hid (L[k]! = r) := Lib.hid (by
          rw [HR.out, firstZ_skip L k HF.out]
          have hkl : k < L.length := by rw [HLL.out]; exact hlt
          rw [List.drop_eq_getElem_cons hkl, firstZ, if_neg (by rw [getElem!_pos L k hkl] at hz; exact hz), getElem!_pos L k hkl])
        generalize L[k]! = x at *
        have hz2 : (x == 0) = false := by rw [beq_eq_false_iff_ne]; exact hz
        clear HF HCL HR
        go_wp2
        go_ret
        exact ⟨by rw [HRT.out]; rfl, HBF.out⟩
    · have hlt' : ¬ (k : Int) < 9 := by omega
      have HRT : Hid (r = 0) := Lib.hid (by
        rw [HR.out, firstZ_skip L k HF.out, List.drop_of_length_le (by rw [HLL.out]; omega)]
        rfl)
      clear HF HCL HR
      go_wp2
      go_ret
      exact ⟨by rw [HRT.out]; rfl, HBF.out⟩
end Go.Proofs.YtkceipkgebgigaaGreat
end
section
namespace Go.Proofs.YtkceipkgebgigaaGreat
open Go.Shelf Go.RowKit Go.Lib Go.Great
set_option maxRecDepth 100000
set_option maxHeartbeats 2000000
def cmpP (x y : Ins) : Int := compareBytes x.pub y.pub
theorem byp_any (x y : Ins) (w : World) : Calls Tryz.prog 25 #[.agg (encI x).toArray, .agg (encI y).toArray] w fun e w' => e = .returned (.int .i64 (cmpP x y)) ∧ Below w.heap.size w w' := by
  obtain ⟨h1, h2, hb⟩ := heap2 w (.cells (encI x).toArray 29) (.cells (encI y).toArray 29)
  obtain ⟨W0, hW0⟩ : ∃ W0, W0 = (w.alloc (.cells (encI x).toArray 29)).alloc (.cells (encI y).toArray 29) := ⟨_, rfl⟩
  have HW0 := Lib.hid hW0
  rw [← hW0] at h1 h2
  obtain ⟨W1, hW1⟩ : ∃ W1, W1 = { W0 with drawn := W0.drawn + 1 } := ⟨_, rfl⟩
  have HW1 := Lib.hid hW1
  have hbd : Below W0.heap.size W0 W1 := by rw [hW1]; exact ⟨rfl, rfl, rfl, Nat.le_refl _, fun _ _ => rfl⟩
  have hs1 : w.heap.size < W1.heap.size := by rw [hW1]; exact (Array.getElem?_eq_some_iff.1 h1).1
  have hs2 : w.heap.size + 1 < W1.heap.size := by rw [hW1]; exact (Array.getElem?_eq_some_iff.1 h2).1
  have P1 : BAt W1 W1.heap.size (some ⟨w.heap.size, 0, none⟩) x.pub := .inr ⟨_, 0, rfl, hs1, fun j hj => (range_frontI (show W1.rangeAt w.heap.size 0 (encI x) from row_range (by rw [hW1]; exact h1))) j _ (bcells_get x.pub j hj)⟩
  have P2 : BAt W1 W1.heap.size (some ⟨w.heap.size + 1, 0, none⟩) y.pub := .inr ⟨_, 0, rfl, hs2, fun j hj => (range_frontI (show W1.rangeAt (w.heap.size + 1) 0 (encI y) from row_range (by rw [hW1]; exact h2))) j _ (bcells_get y.pub j hj)⟩
  have HP := Lib.hid (bcmp_any _ _ 20 20 20 20 x.pub y.pub W1 x.hp y.hp P1 P2)
  have HBE : Hid (Below w.heap.size w W1) := Lib.hid (by
      have hb0 : Below w.heap.size w W0 := by rw [hW0]; exact hb
      exact hb0.trans (hbd.mono hb0.size))
  change Hid (Calls Tryz.prog 49 _ _ fun e w' => e = .returned (.int .i64 (cmpP x y)) ∧ w' = W1) at HP
  generalize (encI x).toArray = X at *
  generalize (encI y).toArray = Y at *
  generalize cmpP x y = r at *
  clear h1 h2 hb hbd P1 P2 hs1 hs2 hW1 hW0
  go_enter Tryz.func25, Tryz.ntmps25
  go_upto_region 1 with (fail)
  rw [← HW0.out]
  refine region_tail 5 W1 HW1.out (by kernel_rfl) (by kernel_rfl) ?_
  simp only [List.take_succ_cons, List.take_zero, List.drop_succ_cons, List.drop_zero]
  repeat (first
    | still_step
    | still_call (HP.out))
  refine wpStill_nil ?_
  go_wp2
  go_ret
  exact ⟨rfl, HBE.out⟩
theorem cmpP_less (x y : Ins) : Op.bytesLess x.pub y.pub = decide (cmpP x y < 0) := by
  obtain ⟨h1, h2, h3⟩ := less_cmp x.pub y.pub
  unfold cmpP
  cases h : Op.bytesLess x.pub y.pub with
  | true => rw [h1.1 h]; rfl
  | false =>
    rcases h3 with e | e | e
    · rw [h1.2 e] at h; cases h
    · rw [e]; rfl
    · rw [e]; rfl
theorem before_any (x y : Ins) (w : World) : Calls Tryz.prog 38 #[.agg (encI x).toArray, .agg (encI y).toArray] w fun e w' => e = .returned (.bool (decide (cmpP x y < 0))) ∧ Below w.heap.size w w' := by
  obtain ⟨h1, h2, hb⟩ := heap2 w (.cells (encI x).toArray 29) (.cells (encI y).toArray 29)
  obtain ⟨W0, hW0⟩ : ∃ W0, W0 = (w.alloc (.cells (encI x).toArray 29)).alloc (.cells (encI y).toArray 29) := ⟨_, rfl⟩
  have HW0 := Lib.hid hW0
  rw [← hW0] at h1 h2
  obtain ⟨W1, hW1⟩ : ∃ W1, W1 = { W0 with drawn := W0.drawn + 1 } := ⟨_, rfl⟩
  have HW1 := Lib.hid hW1
  have hbd : Below W0.heap.size W0 W1 := by rw [hW1]; exact ⟨rfl, rfl, rfl, Nat.le_refl _, fun _ _ => rfl⟩
  have hs1 : w.heap.size < W1.heap.size := by rw [hW1]; exact (Array.getElem?_eq_some_iff.1 h1).1
  have hs2 : w.heap.size + 1 < W1.heap.size := by rw [hW1]; exact (Array.getElem?_eq_some_iff.1 h2).1
  have P1 : BAt W1 W1.heap.size (some ⟨w.heap.size, 0, none⟩) x.pub := .inr ⟨_, 0, rfl, hs1, fun j hj => (range_frontI (show W1.rangeAt w.heap.size 0 (encI x) from row_range (by rw [hW1]; exact h1))) j _ (bcells_get x.pub j hj)⟩
  have P2 : BAt W1 W1.heap.size (some ⟨w.heap.size + 1, 0, none⟩) y.pub := .inr ⟨_, 0, rfl, hs2, fun j hj => (range_frontI (show W1.rangeAt (w.heap.size + 1) 0 (encI y) from row_range (by rw [hW1]; exact h2))) j _ (bcells_get y.pub j hj)⟩
  have hC1 := run_convert_bat (P := Tryz.prog) 34 9 5 20 Tryz.underlying34 Tryz.underlying5 Tryz.underlying9 P1
  have hC2 := run_convert_bat (P := Tryz.prog) 34 9 5 20 Tryz.underlying34 Tryz.underlying5 Tryz.underlying9 P2
  rw [x.hp] at hC1
  rw [y.hp] at hC2
  have HC1 := Lib.hid hC1
  have HC2 := Lib.hid hC2
  have HBE : Hid (Below w.heap.size w W1) := Lib.hid (by
      have hb0 : Below w.heap.size w W0 := by rw [hW0]; exact hb
      exact hb0.trans (hbd.mono hb0.size))
  have HL : Op.bytesLess (bstr x.pub).toList (bstr y.pub).toList = decide (cmpP x y < 0) := by rw [bstr_list, bstr_list]; exact cmpP_less x y
  generalize (encI x).toArray = X at *
  generalize (encI y).toArray = Y at *
  generalize cmpP x y = r at *
  generalize bstr x.pub = T1 at *
  generalize bstr y.pub = T2 at *
  clear h1 h2 hb hbd P1 P2 hs1 hs2 hW1 hW0 hC1 hC2
  go_enter Tryz.func38, Tryz.ntmps38
  go_upto_region 1 with (fail)
  rw [← HW0.out]
  refine region_tail 7 W1 HW1.out (by kernel_rfl) (by kernel_rfl) ?_
  simp only [List.take_succ_cons, List.take_zero, List.drop_succ_cons, List.drop_zero]
  repeat (first
    | ((with_reducible refine still_convV (o := ⟨some 7, _, _, _, _, _⟩) rfl 34 9 (.tmp 6) rfl _ _ ?_ HC1.out ?_); rfl; simp only [Act.put, List.setIfInBounds_toArray, List.set_cons_zero, List.set_cons_succ])
    | ((with_reducible refine still_convV (o := ⟨some 10, _, _, _, _, _⟩) rfl 34 9 (.tmp 9) rfl _ _ ?_ HC2.out ?_); rfl; simp only [Act.put, List.setIfInBounds_toArray, List.set_cons_zero, List.set_cons_succ])
    | still_step)
  refine wpStill_nil ?_
  go_wp2
  go_ret
  exact ⟨by rw [← HL]; rfl, HBE.out⟩
end Go.Proofs.YtkceipkgebgigaaGreat
end
