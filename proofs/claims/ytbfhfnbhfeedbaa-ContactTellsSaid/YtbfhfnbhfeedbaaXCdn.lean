/- Rows of contacts that grow: one is made, one is added. Conditions: at most 1,000,000 contacts. One, Plain and Same of the statements on contacts. Conditions: at most 10,000 contacts. -/
import Derived.Test.YtbfhfnbhfeedbaaXCdk
import Derived.Test.YtbfhfnbhfeedbaaXCra
section
namespace Go.Proofs.Ytbfhfnbhfeedbaa
open Go.Shelf Go.RowKit Go.Lib Go.Sort Go.Great
set_option maxRecDepth 100000
set_option maxHeartbeats 1000000
/-- t is a slice of e, a contact's type. -/
structure ConT (t e : TypeId) : Prop where
  und : Try.prog.underlying t = some (.slice e)
  inf : (Try.prog.info? e).map (fun i => (i.zero, i.size, i.bytes)) = some (some (.agg (encC default).toArray), 22, 28)
theorem ConT.info {t e : TypeId} (h : ConT t e) : ∃ i0, Try.prog.info? e = some i0 ∧ i0.zero = some (.agg (encC default).toArray) ∧ i0.size = 22 ∧ i0.bytes = 28 := by
  have h := h.inf
  cases hi : Try.prog.info? e with
  | none => rw [hi] at h; cases h
  | some i =>
    rw [hi] at h
    simp only [Option.map_some, Option.some.injEq, Prod.mk.injEq] at h
    exact ⟨i, rfl, h.1, h.2.1, h.2.2⟩
theorem conP : ConT 61 60 := ⟨Try.underlying61, by kernel_rfl⟩
theorem conR : ConT 62 73 := ⟨Try.underlying62, by kernel_rfl⟩
theorem fold_setC (k : Nat) (l : List Value) (n : Nat) (A : Array Value) (h : n + l.length ≤ A.size) :
    ((l.zipIdx n).foldl (fun (cs : Array Value) (p : Value × Nat) => cs.setIfInBounds (0 * k + p.2) p.1) A).toList = A.toList.take n ++ l ++ A.toList.drop (n + l.length) := by
  induction l generalizing n A with
  | nil => simp
  | cons c l ih =>
    rw [List.zipIdx_cons, List.foldl_cons, ih]
    · simp only [Nat.zero_mul, Nat.zero_add, Array.toList_setIfInBounds, List.length_cons]
      simp only [List.length_cons] at h
      apply List.ext_getElem?
      intro j
      simp only [List.append_assoc]
      by_cases h1 : j < n
      · rw [List.getElem?_append_left (by simp; omega), List.getElem?_append_left (by simp; omega)]
        simp [List.getElem?_take, h1, show j < n + 1 by omega, List.getElem?_set, show n ≠ j by omega]
      · by_cases h2 : j = n
        · subst h2
          rw [List.getElem?_append_left (by simp; omega), List.getElem?_append_right (by simp; omega)]
          simp [List.getElem?_take, List.getElem?_set, show min j A.size = j by omega, show j < A.size by omega]
        · obtain ⟨q, rfl⟩ : ∃ q, j = n + 1 + q := ⟨j - (n + 1), by omega⟩
          have hm1 : min (n + 1) A.size = n + 1 := by omega
          have hm2 : min n A.size = n := by omega
          rw [List.getElem?_append_right (by rw [List.length_take, List.length_set, Array.length_toList, hm1]; omega), List.getElem?_append_right (l₁ := List.take n A.toList) (by rw [List.length_take, Array.length_toList, hm2]; omega)]
          simp only [List.length_take, List.length_set, Array.length_toList, hm1, hm2]
          rw [show n + 1 + q - (n + 1) = q by omega, show n + 1 + q - n = q + 1 by omega, List.cons_append, List.getElem?_cons_succ]
          by_cases h3 : q < l.length
          · rw [List.getElem?_append_left h3, List.getElem?_append_left h3]
          · rw [List.getElem?_append_right (by omega), List.getElem?_append_right (by omega), List.getElem?_drop, List.getElem?_drop, List.getElem?_set_ne (by omega)]
            congr 1
            omega
    · simp only [List.length_cons] at h
      simp only [Array.size_setIfInBounds]
      omega

/-- A new row of one contact. -/
theorem run_build_oneC {t e : TypeId} (hT : ConT t e) (x : Con) (w : World) : (Instr.buildSlice t 1 #[(0, .agg (encC x).toArray)]).run Try.prog w = .ok (.slice (some ⟨w.heap.size, 0, none⟩) 1 1) (w.alloc (.cells (encC x).toArray e)) := by
  obtain ⟨i0, hi, hz0, hz1, hz2⟩ := hT.info
  obtain ⟨Z, hZ⟩ : ∃ Z, Z = (encC default).toArray := ⟨_, rfl⟩
  rw [← hZ] at hz0
  clear hZ
  have hf := fold_setC 22 (encC x) 0 ((Array.range 22).map (Z[· % Z.size]!)) (by rw [encC_length]; simp)
  have hl := encC_length x
  have hA : (List.foldl (fun (cs : Array Value) (p : Value × Nat) => cs.setIfInBounds (0 * 22 + p.2) p.1) ((Array.range 22).map (Z[· % Z.size]!)) (encC x).zipIdx) = (encC x).toArray := by
    apply Array.ext'
    rw [hf]
    simp only [List.take_zero, List.nil_append, Nat.zero_add, hl]
    rw [List.drop_eq_nil_of_le (by simp)]
    simp
  simp only [Nat.zero_mul, Nat.zero_add] at hA
  generalize encC x = cs at hA hl ⊢
  simp [Instr.buildSlice, run_underlying hT.und, sizeOf, typeInfo, zeroValue, hi, hz0, hz1, Value.cells, Instr.fill, hl, newRow]
  rw [hA]
/-- A new row of none. -/
theorem run_build_noneC {t e : TypeId} (hT : ConT t e) (w : World) : (Instr.buildSlice t 0 #[]).run Try.prog w = .ok (.slice (some ⟨w.heap.size, 0, none⟩) 0 0) (w.alloc (.cells #[] e)) := by
  obtain ⟨i0, hi, hz0, hz1, hz2⟩ := hT.info
  simp [Instr.buildSlice, run_underlying hT.und, sizeOf, typeInfo, hi, hz1, Instr.fill, newRow]
  congr 2
  exact Array.eq_empty_of_size_eq_zero (by simp)
theorem src_newC {t e : TypeId} (hT : ConT t e) (x : Con) (w : World) : Src Try.prog 22 t (.slice (some ⟨w.heap.size, 0, none⟩) 1 1) 1 (flatE encC [x]) (w.alloc (.cells (encC x).toArray e)) := by
  refine Src.ofSlice _ hT.und _ 1 1 (flatE encC [x]) (by rw [flatE_length encC_length]; rfl) (fun j u hu => ?_) (flatE_one _)
  rw [Addr.add_mid]
  have e1 : flatE encC [x] = encC x := by unfold flatE; simp
  rw [e1] at hu
  exact row_range (heap_alloc_new w (.cells (encC x).toArray e)) j u hu
theorem wp_build_oneC {t e : TypeId} (hT : ConT t e) (x : Con) {w : World} {o : Oper} {a : Act} {K : Act → World → Prop} {Q : Exit → Act → World → Prop} (y : Operand) (ho : o.op = .buildSlice t 1 #[(0, y)]) (hy : a.eval y = .agg (encC x).toArray)
    (h : K (a.put o.dst (.slice (some ⟨w.heap.size, 0, none⟩) 1 1)) (w.alloc (.cells (encC x).toArray e))) : o.wp Try.prog a w K Q := by
  unfold Oper.wp execOp
  simp only [ho, List.map_toArray, List.map_cons, List.map_nil, hy, Sem.run_bind, run_build_oneC hT, Result.andThen_ok, Sem.run_pure]
  exact h
theorem wpList_build_oneC {t e : TypeId} (hT : ConT t e) (x : Con) {w : World} {ops : Array Oper} {rest : List Oper} {o : Oper} {a : Act} {Q : Exit → Act → World → Prop} (hgd : o.guard = none) (y : Operand) (ho : o.op = .buildSlice t 1 #[(0, y)]) (hy : a.eval y = .agg (encC x).toArray)
    (h : wpList Try.prog ops Q rest (a.put o.dst (.slice (some ⟨w.heap.size, 0, none⟩) 1 1)) (w.alloc (.cells (encC x).toArray e))) : wpList Try.prog ops Q (o :: rest) a w :=
  wpList_plain hgd fun _ hK => wp_build_oneC hT x y ho hy (hK _ _ h)
theorem wpList_append_con {t e : TypeId} (hT : ConT t e) {w : World} {ops : Array Oper} {rest : List Oper} {o : Oper} {a : Act} {Q : Exit → Act → World → Prop} (hgd : o.guard = none) (s x : Operand)
    (ho : o.op = .call { callee := .builtin .append, args := #[s, x], argTypes := #[t, t] })
    (base : Nat) (v : Value) (L M : List Con) (hs : a.eval s = v) (hown : w.ownsRow base e 22 v L.length (flatE encC L))
    (y : Value) (hx : a.eval x = y) (hr : Src Try.prog 22 t y M.length (flatE encC M) w) (h63 : L.length + M.length ≤ 1000000) (hbase : base ≤ w.heap.size)
    (h : ∀ v' w', w'.ownsRow base e 22 v' (L ++ M).length (flatE encC (L ++ M)) → w.grownBy w' v.ownBlock → wpList Try.prog ops Q rest (a.put o.dst v') w') : wpList Try.prog ops Q (o :: rest) a w :=
  wpList_plain hgd fun _ hK => by
    obtain ⟨i0, hi, hz0, hz1, hz2⟩ := hT.info
    obtain ⟨v', w', hrun, h2, h3, _⟩ := run_append_srcK w base t t o.type e i0 _ 22 28 hT.und hi hz0 hz1 hz2 (by simp [Value.cells, encC_length]) v L.length (flatE encC L) hown y M.length (flatE encC M) hr (by simp only [maxLen]; omega) (by omega) hbase
    unfold Oper.wp execOp
    simp only [ho, resolve, invoke, builtin, Sem.run_bind, Sem.run_pure, Result.andThen_ok, List.map_toArray, List.map_cons, List.map_nil, hs, hx, hrun]
    have e1 : flatE encC L ++ flatE encC M = flatE encC (L ++ M) := by unfold flatE; rw [List.flatMap_append]
    rw [e1, ← List.length_append] at h2
    exact hK _ _ (h v' w' h2 h3)
end Go.Proofs.Ytbfhfnbhfeedbaa
end
section
namespace Go.Proofs.Ytbfhfnbhfeedbaa
open Go.Shelf Go.RowKit Go.Lib Go.Sort Go.Great
set_option maxRecDepth 100000
set_option maxHeartbeats 1000000
theorem wpList_alloc73 {w : World} {A : Obj} {ops : Array Oper} {rest : List Oper} {o : Oper} {a : Act} {Q : Exit → Act → World → Prop} (hgd : o.guard = none) (d : Nat) (hd : o.dst = some d) (ho : o.op = .alloc 73)
    (h : wpList Try.prog ops Q rest (a.put (some d) (.pointer (some ⟨w.heap.size + 1, 0, none⟩))) ((w.alloc A).alloc (.cells (encC default).toArray 73))) : wpList Try.prog ops Q (o :: rest) a (w.alloc A) :=
  wpList_plain hgd fun _ hK => by
    have es : w.heap.size + 1 = (w.alloc A).heap.size := by simp
    rw [es] at h
    have hz := fun W => zV73 W
    generalize (encC default).toArray = Z at hz h
    unfold Oper.wp execOp
    simp only [ho, Instr.alloc, Sem.run_bind, hz, Result.andThen_ok, Value.cells]
    simp [Oper.upon, hd]
    exact hK _ _ h
theorem wpList_store73 {w : World} {A : Obj} {ops : Array Oper} {rest : List Oper} {o : Oper} {a : Act} {Q : Exit → Act → World → Prop} (hgd : o.guard = none) (x y : Operand) (ho : o.op = .store 73 x y) (z c : Con) (hx : a.eval x = .pointer (some ⟨w.heap.size + 1, 0, none⟩)) (hy : a.eval y = .agg (encC c).toArray)
    (h : wpList Try.prog ops Q rest (a.put o.dst undef) ((w.alloc A).alloc (.cells (encC c).toArray 73))) : wpList Try.prog ops Q (o :: rest) a ((w.alloc A).alloc (.cells (encC z).toArray 73)) := by
  have hsz : (encC c).toArray.size = 22 := by rw [List.size_toArray, encC_length]
  have hs1 : w.heap.size + 1 = (w.alloc A).heap.size := by simp
  rw [hs1] at hx
  refine wpList_store_mid (P := Try.prog) hgd 73 x y ho (w.alloc A).heap.size 0 (encC c).toArray hx hy ?_ (by rw [hsz]; exact size73) ?_ ?_
  · have := there_new (w.alloc A) 73 (encC z)
    rw [encC_length] at this
    rw [hsz]
    exact this
  · rw [Array.all_eq_true_iff_forall_mem]
    intro v hv
    exact encC_one c v (by simpa using hv)
  · rw [show (encC c).toArray.toList = encC c from rfl, setCells_all (w.alloc A) 73 (encC z) (encC c) (by rw [encC_length, encC_length])]
    exact h
theorem run_build73 (c : Con) (W : World) : (Instr.build 73 #[(0, .agg (encID (idC c)).toArray), (1, .agg (adr c.1.2.1 c.1.2.2))]).run Try.prog W = .ok (.agg (encC c).toArray) W := by
  obtain ⟨⟨xs, h, p⟩, hid, hh, hp⟩ := c
  simp only at hid
  obtain ⟨x0, xs, rfl⟩ := List.exists_cons_of_length_eq_add_one (show xs.length = 19 + 1 by simpa using hid)
  obtain ⟨x1, xs, rfl⟩ := List.exists_cons_of_length_eq_add_one (show xs.length = 18 + 1 by simpa using hid)
  obtain ⟨x2, xs, rfl⟩ := List.exists_cons_of_length_eq_add_one (show xs.length = 17 + 1 by simpa using hid)
  obtain ⟨x3, xs, rfl⟩ := List.exists_cons_of_length_eq_add_one (show xs.length = 16 + 1 by simpa using hid)
  obtain ⟨x4, xs, rfl⟩ := List.exists_cons_of_length_eq_add_one (show xs.length = 15 + 1 by simpa using hid)
  obtain ⟨x5, xs, rfl⟩ := List.exists_cons_of_length_eq_add_one (show xs.length = 14 + 1 by simpa using hid)
  obtain ⟨x6, xs, rfl⟩ := List.exists_cons_of_length_eq_add_one (show xs.length = 13 + 1 by simpa using hid)
  obtain ⟨x7, xs, rfl⟩ := List.exists_cons_of_length_eq_add_one (show xs.length = 12 + 1 by simpa using hid)
  obtain ⟨x8, xs, rfl⟩ := List.exists_cons_of_length_eq_add_one (show xs.length = 11 + 1 by simpa using hid)
  obtain ⟨x9, xs, rfl⟩ := List.exists_cons_of_length_eq_add_one (show xs.length = 10 + 1 by simpa using hid)
  obtain ⟨x10, xs, rfl⟩ := List.exists_cons_of_length_eq_add_one (show xs.length = 9 + 1 by simpa using hid)
  obtain ⟨x11, xs, rfl⟩ := List.exists_cons_of_length_eq_add_one (show xs.length = 8 + 1 by simpa using hid)
  obtain ⟨x12, xs, rfl⟩ := List.exists_cons_of_length_eq_add_one (show xs.length = 7 + 1 by simpa using hid)
  obtain ⟨x13, xs, rfl⟩ := List.exists_cons_of_length_eq_add_one (show xs.length = 6 + 1 by simpa using hid)
  obtain ⟨x14, xs, rfl⟩ := List.exists_cons_of_length_eq_add_one (show xs.length = 5 + 1 by simpa using hid)
  obtain ⟨x15, xs, rfl⟩ := List.exists_cons_of_length_eq_add_one (show xs.length = 4 + 1 by simpa using hid)
  obtain ⟨x16, xs, rfl⟩ := List.exists_cons_of_length_eq_add_one (show xs.length = 3 + 1 by simpa using hid)
  obtain ⟨x17, xs, rfl⟩ := List.exists_cons_of_length_eq_add_one (show xs.length = 2 + 1 by simpa using hid)
  obtain ⟨x18, xs, rfl⟩ := List.exists_cons_of_length_eq_add_one (show xs.length = 1 + 1 by simpa using hid)
  obtain ⟨x19, xs, rfl⟩ := List.exists_cons_of_length_eq_add_one (show xs.length = 0 + 1 by simpa using hid)
  obtain rfl := List.eq_nil_of_length_eq_zero (show xs.length = 0 by simpa using hid)
  kernel_rfl
theorem one_any (c : Con) (w : World) : Calls Try.prog 34 #[.agg (encC c).toArray] w fun e w' => e = .returned (.agg (encC c).toArray) ∧ Below w.heap.size w w' := by
  obtain ⟨h1, h2, hb⟩ := heap2 w (.cells (encC c).toArray 60) (.cells (encC default).toArray 73)
  have HK1 := Lib.hid (range_load26 (range_idC (row_range h1)))
  have HK2 := Lib.hid (load58 (range_adr (row_range h1)))
  rw [Nat.zero_add] at HK2
  have HBU := Lib.hid (fun W => run_build73 c W)
  obtain ⟨_, k2, kb⟩ := heap2 w (.cells (encC c).toArray 60) (.cells (encC c).toArray 73)
  have HR := Lib.hid (row_range k2)
  have HB := Lib.hid kb
  obtain ⟨X, hX⟩ : ∃ X, X = (encC c).toArray := ⟨_, rfl⟩
  have HX := Lib.hid hX
  have hl := encC_length c
  rw [← hX] at HK1 HK2 HBU HB ⊢
  generalize (encID (idC c)).toArray = IX at HK1 HBU
  generalize adr c.1.2.1 c.1.2.2 = AD at HK2 HBU
  clear h1 h2 hb k2 kb hX
  go_enter Try.func34, Try.ntmps34
  go_wp2_with (first
    | (with_reducible refine wpList_alloc73 (o := ⟨some 2, _, _, _, _, _⟩) rfl 2 rfl rfl ?_)
    | ((with_reducible refine wpList_loadV (op := ⟨some 4, _, _, _, _, _⟩) rfl 55 (.tmp 3) rfl _ ?_ _ HK1.out ?_); rfl)
    | ((with_reducible refine wpList_loadV (op := ⟨some 6, _, _, _, _, _⟩) rfl 58 (.tmp 5) rfl _ ?_ _ HK2.out ?_); rfl)
    | ((with_reducible refine wpList_buildV (o := ⟨some 7, _, _, _, _, _⟩) rfl 73 _ rfl _ ?_ _ (HBU.out _) ?_); (simp only [List.map_toArray, List.map_cons, List.map_nil]; rfl))
    | ((with_reducible refine wpList_store73 (o := ⟨none, _, _, _, _, _⟩) rfl (.tmp 2) (.tmp 7) rfl default c ?_ ?_ ?_); rfl; (rw [← HX.out]; rfl)))
  have hB := HB.out
  rw [HX.out] at hB ⊢
  refine bodyPost_ret (v := .agg (encC c).toArray) ?_ rfl ?_
  · exact results_cell1 (p := 2) (ty := 73) rfl _ _ (w.heap.size + 1) 0 (encC c) _ rfl HR.out Try.underlying73 rfl (by rw [hl]; exact size73)
  · exact ⟨rfl, hB⟩
theorem own_belC {base e size n : Nat} {v : Value} {xs : List Value} {w w' : World} (h : w.ownsRow base e size v n xs) (hb : Below w.heap.size w w') : w'.ownsRow base e size v n xs :=
  h.kept (grown_of_bel hb none) (by cases v.ownBlock <;> simp)
/-- What Plain leaves, as it goes. -/
def PlRel (w : World) (L : List Con) (s3 s8 : Value) (wr : World) : Prop := ∃ j : Nat, j ≤ L.length ∧ s8 = .int .i64 (j : Int) ∧ wr.ownsRow w.heap.size 73 22 s3 (L.take j).length (flatE encC (L.take j)) ∧ Below w.heap.size w wr
theorem plain_any (A : Option Addr) (c : Nat) (L : List Con) (w : World) (hL : L.length ≤ 10000) (hA : CAt w w.heap.size A L) :
    Calls Try.prog 29 #[.slice A L.length c] w fun e w' => ∃ v, e = .returned v ∧ w'.ownsRow w.heap.size 73 22 v L.length (flatE encC L) ∧ Below w.heap.size w w' := by
  have HA := Lib.hid hA
  have R0 : Hid (PlRel w L (.slice none 0 0) (.int .i64 0) w) := Lib.hid ⟨0, by omega, rfl, World.ownsRow_nil w _ 73 22, Below.refl _ _⟩
  have HEND : Hid (∀ (s3 : Value) (wr : World), wr.ownsRow w.heap.size 73 22 s3 (L.take L.length).length (flatE encC (L.take L.length)) → wr.ownsRow w.heap.size 73 22 s3 L.length (flatE encC L)) := Lib.hid (fun s3 wr h => by rwa [List.take_length] at h)
  obtain ⟨n, hn⟩ : ∃ n, n = L.length := ⟨_, rfl⟩
  have HN := Lib.hid hn
  rw [← hn] at hL HEND ⊢
  clear hA hn
  go_enter Try.func29, Try.ntmps29
  go_upto_region 3 with fail
  go_loopw [3, 8] (PlRel w L) (fun _ i _ => n - (RowKit.intOf i).toNat)
  case atStart => exact R0.out
  case round =>
    obtain ⟨j, hj, rfl, ho, hb⟩ := hrel
    clear R0
    have HO := Lib.hid ho
    have HB := Lib.hid hb
    by_cases hlt : j < n
    · have hjL : j < L.length := by have := HN.out; omega
      obtain ⟨x, hx⟩ : ∃ x, x = L[j] := ⟨_, rfl⟩
      obtain ⟨g, off, rfl, hg, hr⟩ := (HA.out.below hb).some_ (by omega)
      have HLD := Lib.hid (load60 (range_elem hr j hjL))
      rw [← hx] at HLD
      have HLX := Lib.hid (load60 (row_range (heap_alloc_new wr (.cells (encC x).toArray 60))))
      have hb1 : Below wr.heap.size wr (wr.alloc (.cells (encC x).toArray 60)) := (Below.refl _ wr).alloc (Nat.le_refl _) _
      have H1 : Hid (Calls Try.prog 34 #[.agg (encC x).toArray] (wr.alloc (.cells (encC x).toArray 60)) fun e w2 => e = .returned (.agg (encC x).toArray) ∧ Below w.heap.size w w2 ∧ (w2.alloc (.cells (encC x).toArray 73)).ownsRow w.heap.size 73 22 u3 (L.take j).length (flatE encC (L.take j)) ∧ Below w.heap.size w (w2.alloc (.cells (encC x).toArray 73)) ∧ w.heap.size ≤ (w2.alloc (.cells (encC x).toArray 73)).heap.size) := by
        refine Lib.hid ((one_any x _).mono ?_)
        rintro e w2 ⟨rfl, hb2⟩
        have h12 := hb1.trans (hb2.mono hb1.size)
        have h3 : Below w2.heap.size w2 (w2.alloc (.cells (encC x).toArray 73)) := (Below.refl _ w2).alloc (Nat.le_refl _) _
        have hw2 := hb.trans (h12.mono hb.size)
        have hw3 := hw2.trans (h3.mono hw2.size)
        exact ⟨rfl, hw2, own_belC (own_belC ho h12) h3, hw3, hw3.size⟩
      have HS : Hid (∀ (w2 : World) (v' : Value) (w' : World), Below w.heap.size w (w2.alloc (.cells (encC x).toArray 73)) → w'.ownsRow w.heap.size 73 22 v' (L.take j ++ [x]).length (flatE encC (L.take j ++ [x])) → (w2.alloc (.cells (encC x).toArray 73)).grownBy w' u3.ownBlock → PlRel w L v' (.int .i64 ((j : Int) + 1)) w') := by
        refine Lib.hid (fun w2 v' w' h1 h2 h3 => ⟨j + 1, by omega, by go_num, by rw [List.take_succ_eq_append_getElem hjL, ← hx]; exact h2, below_own h1 h3 (fun q hq => (ho.lt q hq).1)⟩)
      have HLE : Hid ((L.take j).length + [x].length ≤ 1000000) := Lib.hid (by rw [List.length_take]; simp; omega)
      clear hr hg hb ho hjL hx hb1
      go_wp2_with (first
        | ((with_reducible refine wpList_loadV (op := ⟨some 11, _, _, _, _, _⟩) rfl 60 (.tmp 10) rfl _ ?_ _ HLD.out ?_); rfl)
        | (with_reducible refine wpList_alloc60 (o := ⟨some 5, _, _, _, _, _⟩) rfl 5 rfl rfl ?_)
        | ((with_reducible refine wpList_store60 (o := ⟨none, _, _, _, _, _⟩) rfl (.tmp 5) (.tmp 11) rfl default x ?_ ?_ ?_); rfl; rfl)
        | ((with_reducible refine wpList_loadV (op := ⟨some 13, _, _, _, _, _⟩) rfl 60 (.tmp 5) rfl _ ?_ _ HLX.out ?_); rfl)
        | (go_at_call 34; (with_reducible refine H1.out.mono ?_); rintro e2 w2 ⟨rfl, hb2, ho2, hb3, hsz⟩)
        | ((with_reducible refine wpList_build_oneC conR x (o := ⟨some 15, _, _, _, _, _⟩) rfl (.tmp 14) rfl ?_ ?_); rfl)
        | (refine wpList_append_con conR rfl (.tmp 12) (.tmp 15) rfl w.heap.size _ (L.take j) [x] rfl ho2 _ rfl (src_newC conR x w2) HLE.out hsz ?_; intro v5 w5 ho5 hg5))
      go_roundw
      case rel => exact HS.out _ _ _ hb3 ho5 hg5
      case measure => simp [RowKit.intOf]; omega
    · obtain rfl : j = n := by have := HN.out; omega
      have HF := Lib.hid (HEND.out _ _ ho)
      clear ho hb HO
      go_wp2
      go_ret
      exact ⟨_, rfl, HF.out, HB.out⟩
def SmRel (W : World) (n : Nat) (i : Value) (wr : World) : Prop := ∃ j : Nat, j ≤ n ∧ i = .int .i64 (j : Int) ∧ Below W.heap.size W wr
theorem csame_at (A1 A3 : Option Addr) (c1 c3 : Nat) (L : List Con) (w : World) (hL : L.length ≤ 10000) (hA1 : CAt w w.heap.size A1 L) (hA3 : CAt w w.heap.size A3 L) :
    Calls Try.prog 37 #[.slice A1 L.length c1, .slice A3 L.length c3] w fun e w' => e = .returned (.bool true) ∧ Below w.heap.size w w' := by
  have HA1 := Lib.hid hA1
  have HA3 := Lib.hid hA3
  obtain ⟨n, hn⟩ : ∃ n, n = L.length := ⟨_, rfl⟩
  have HN := Lib.hid hn
  rw [← hn] at hL ⊢
  have R0 : Hid (SmRel w n (.int .i64 0) w) := Lib.hid ⟨0, by omega, rfl, Below.refl _ _⟩
  clear hA1 hA3 hn
  go_enter Try.func37, Try.ntmps37
  go_upto_region 4 with fail
  go_loopw [14] (SmRel w n) (fun i _ => n - (RowKit.intOf i).toNat)
  case atStart => exact R0.out
  case round =>
    obtain ⟨j, hj, rfl, hb⟩ := hrel
    clear R0
    have HBR := Lib.hid hb
    by_cases hlt : j < n
    · have hjL : j < L.length := by have := HN.out; omega
      obtain ⟨x, hx⟩ : ∃ x, x = L[j] := ⟨_, rfl⟩
      obtain ⟨g, off, rfl, hg, hr⟩ := (HA1.out.below hb).some_ (by omega)
      obtain ⟨g3, off3, rfl, hg3, hr3⟩ := (HA3.out.below hb).some_ (by omega)
      have hr' := range_elem hr j hjL
      have hr3' := range_elem hr3 j hjL
      rw [← hx] at hr' hr3'
      have HL := Lib.hid (load60 hr')
      have hn1 := heap_alloc_new wr (.cells (encC x).toArray 60)
      have hb1 : Below wr.heap.size wr (wr.alloc (.cells (encC x).toArray 60)) := (Below.refl _ wr).alloc (Nat.le_refl _) _
      obtain ⟨W5, hW5⟩ : ∃ W5, W5 = wr.alloc (.cells (encC x).toArray 60) := ⟨_, rfl⟩
      rw [← hW5] at hn1 hb1
      have hg5 := (Array.getElem?_eq_some_iff.1 hn1).1
      have hg3r : g3 < wr.heap.size := Nat.lt_of_lt_of_le hg3 hb.size
      have HL5 : Hid (∀ n : Kept W5.heap.size W5, (loadVar 60 ⟨wr.heap.size, 0, none⟩).run Try.prog n.val = .ok (.agg (encC x).toArray) n.val) := Lib.hid (fun n => load60 (row_range ((n.property.block _ hg5).trans hn1)))
      have HL6 : Hid (∀ n : Kept W5.heap.size W5, (loadVar 73 ⟨g3, off3 + j * 22, none⟩).run Try.prog n.val = .ok (.agg (encC x).toArray) n.val) := Lib.hid (fun n => load73 (range_keep hr3' ((n.property.block g3 (Nat.lt_of_lt_of_le hg3r hb1.size)).trans (hb1.block g3 hg3r))))
      have HB5 := Lib.hid (hb.trans (hb1.mono hb.size))
      have H1 := Lib.hid (fun W => one_any x W)
      have hE : ∀ W, (Op.equalIn 10000 73 (.agg (encC x).toArray) (.agg (encC x).toArray)).run Try.prog W = .ok true W := fun W => by
        rw [eqCon73, (eqC_iff x x).2 rfl]
      have HW5 := Lib.hid hW5
      clear hr hr3 hr' hr3' hx hb hg hg3 hn1 hb1 hW5 hg5 hg3r hjL
      go_upto_region 6 with (first
        | ((with_reducible refine wpList_loadV (op := ⟨some 18, _, _, _, _, _⟩) rfl 60 (.tmp 17) rfl _ ?_ _ HL.out ?_); rfl)
        | (with_reducible refine wpList_alloc60 (o := ⟨some 6, _, _, _, _, _⟩) rfl 6 rfl rfl ?_)
        | ((with_reducible refine wpList_store60 (o := ⟨none, _, _, _, _, _⟩) rfl (.tmp 6) (.tmp 18) rfl default x ?_ ?_ ?_); rfl; rfl))
      rw [← HW5.out]
      clear HL
      generalize (encC x).toArray = X at HL5 HL6 H1 hE ⊢
      simp only [Act.put]
      refine wp_region_kept W5.heap.size W5 (Below.refl _ _) (by kernel_rfl) (by kernel_rfl) ?_
      repeat (first
        | (go_big_quiet_want; (with_reducible refine quiet_loadV 60 (.tmp 6) rfl _ ?_ _ HL5.out ?_); rfl; simp only [Act.put, List.setIfInBounds_toArray, List.set_cons_zero, List.set_cons_succ]; go_big_quiet_on)
        | (go_big_quiet_want; (with_reducible refine quiet_loadV 73 (.tmp 23) rfl _ ?_ _ HL6.out ?_); rfl; simp only [Act.put, List.setIfInBounds_toArray, List.set_cons_zero, List.set_cons_succ]; go_big_quiet_on)
        | go_big_quiet_step (first | (go_at_call 34; with_reducible exact kept_of (Nat.le_refl _) H1.out _)))
      refine wpQuiet_nil ?_
      rintro wk ⟨⟨_, hwk⟩, rfl⟩
      have HREL : Hid (SmRel w n (.int .i64 ((j : Int) + 1)) wk) := Lib.hid ⟨j + 1, by omega, by go_num, HB5.out.trans (hwk.mono HB5.out.size)⟩
      clear hwk HL5 HL6 HB5 HBR
      go_wp2
      go_roundw
      case rel => exact HREL.out
      case measure => simp [RowKit.intOf]; omega
    · clear hb
      go_wp2
      go_ret
      exact ⟨rfl, HBR.out⟩
end Go.Proofs.Ytbfhfnbhfeedbaa
end
