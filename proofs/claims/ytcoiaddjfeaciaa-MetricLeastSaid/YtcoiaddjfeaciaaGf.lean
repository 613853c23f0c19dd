/- The chapter's examples of package sha hold. No condition. A hash that no call made has nothing: for every text. Every call of a nil hash, and of one that is a plain Hash, answers its zero value. No condition. Regions that draw their order and whose calls only make memory of their own: one walk, in every world that keeps what lay below a bound. No condition. -/
import Derived.Test.YtcoiaddjfeaciaaGe
import Derived.Lib.SlBytesConst
import Derived.LoopTactic
import Derived.Stop.BytesEq
import Derived.BigQuiet
section
namespace Go.Proofs.Ytcoiaddjfeaciaa
set_option maxRecDepth 100000
open Go.RowKit Go.Great
set_option linter.unusedVariables false
set_option linter.unusedSimpArgs false

theorem rows2 (w : World) (z : Array Value) (c d : List Value) :
    ∀ W, W = ((((w.alloc (.cells z 26)).alloc (.cells z 26)).setRow w.heap.size c.toArray).setRow (w.heap.size + 1) d.toArray) →
      (∀ i, W.cell? ⟨w.heap.size, i, none⟩ = c[i]?) ∧ (∀ i, W.cell? ⟨w.heap.size + 1, i, none⟩ = d[i]?) ∧ Below w.heap.size w W := by
  rintro W rfl
  have a1 : ((w.alloc (.cells z 26)).alloc (.cells z 26)).heap[w.heap.size]? = some (.cells z 26 (0, 0)) := by
    rw [Below.heap_alloc _ _ _ (by simp)]
    exact heap_alloc_new w _
  have a2 : ((w.alloc (.cells z 26)).alloc (.cells z 26)).heap[w.heap.size + 1]? = some (.cells z 26 (0, 0)) := by
    have := heap_alloc_new (w.alloc (.cells z 26)) (.cells z 26)
    simpa using this
  have b1 := setRow_heap _ w.heap.size _ c.toArray 26 (0, 0) a1
  have b2 := (setRow_other ((w.alloc (.cells z 26)).alloc (.cells z 26)) w.heap.size (w.heap.size + 1) c.toArray (by omega)).trans a2
  refine ⟨fun i => ?_, fun i => ?_, ?_⟩
  · rw [cell_of_row _ _ i _ 26 (0, 0) ((setRow_other _ (w.heap.size + 1) w.heap.size d.toArray (by omega)).trans b1)]
    simp
  · rw [cell_of_row _ _ i _ 26 (0, 0) (setRow_heap _ _ _ d.toArray 26 (0, 0) b2)]
    simp
  · exact below_setRow (below_setRow (((Below.refl _ w).alloc (Nat.le_refl _) _).alloc (by simp) _) (Nat.le_refl _) _) (by omega) _

theorem abc_form : ∃ X, bcells (shaI [97, 98, 99]) = .int .u8 169 :: .int .u8 153 :: .int .u8 62 :: .int .u8 54 :: X := by
  have h := List.take_append_drop 4 (shaI [97, 98, 99])
  rw [sha_abc] at h
  exact ⟨bcells ((shaI [97, 98, 99]).drop 4), by rw [← h]; simp [bcells]⟩
theorem nil_form : ∃ X, bcells (shaI []) = .int .u8 218 :: .int .u8 57 :: .int .u8 163 :: .int .u8 238 :: X := by
  have h := List.take_append_drop 4 (shaI [])
  rw [sha_nil] at h
  exact ⟨bcells ((shaI []).drop 4), by rw [← h]; simp [bcells]⟩

set_option maxRecDepth 100000 in
set_option maxHeartbeats 4000000 in
theorem slives_any (w : World) : Calls Try.prog 12 #[] w fun e w' => e = .returned (.bool true) ∧ Below w.heap.size w w' := by
  obtain ⟨Z, hZ⟩ : ∃ Z, Z = bcells (List.replicate 20 0) := ⟨_, rfl⟩
  have hz := fun W => zero61 W
  rw [← hZ] at hz
  have hZl : Z.length = 20 := by rw [hZ, bcells_length, List.length_replicate]
  obtain ⟨X, hX⟩ := abc_form
  obtain ⟨Y, hY⟩ := nil_form
  have hl1 : (bcells (shaI [97, 98, 99])).length = 20 := by rw [bcells_length]; exact idI_length _
  have hl2 : (bcells (shaI [])).length = 20 := by rw [bcells_length]; exact idI_length _
  obtain ⟨C, hC⟩ : ∃ C : List Value, C = .int .u8 169 :: .int .u8 153 :: .int .u8 62 :: .int .u8 54 :: X := ⟨_, rfl⟩
  obtain ⟨D, hD⟩ : ∃ D : List Value, D = .int .u8 218 :: .int .u8 57 :: .int .u8 163 :: .int .u8 238 :: Y := ⟨_, rfl⟩
  rw [hX, ← hC] at hl1
  rw [hY, ← hD] at hl2
  have s1 : Calls Try.prog 13 #[.slice (some ⟨w.heap.size, 0, none⟩) 3 3] (w.alloc (.cells #[.int .u8 97, .int .u8 98, .int .u8 99] 5 (3, 4))) fun e w' => e = .returned (.agg C.toArray) ∧ Below w.heap.size w w' := by
    have hx : BAt (w.alloc (.cells #[.int .u8 97, .int .u8 98, .int .u8 99] 5 (3, 4))) (w.alloc (.cells #[.int .u8 97, .int .u8 98, .int .u8 99] 5 (3, 4))).heap.size (some ⟨w.heap.size, 0, none⟩) [97, 98, 99] := by
      right
      refine ⟨w.heap.size, 0, rfl, by simp, fun j hj => ?_⟩
      rw [Nat.zero_add, cell_of_row _ w.heap.size j _ 5 (3, 4) (heap_alloc_new w _)]
      match j, hj with
      | 0, _ => rfl
      | 1, _ => rfl
      | 2, _ => rfl
    have hb : Below w.heap.size w (w.alloc (.cells #[.int .u8 97, .int .u8 98, .int .u8 99] 5 (3, 4))) := (Below.refl _ w).alloc (Nat.le_refl _) _
    refine (sum_any _ 3 [97, 98, 99] hx (by simp) (by simp)).mono ?_
    rintro e w' ⟨he, hb'⟩
    rw [hX, ← hC] at he
    exact ⟨he, hb.trans (hb'.mono hb.size)⟩
  have s2 : ∀ W : World, Calls Try.prog 13 #[.slice none 0 0] W fun e w' => e = .returned (.agg D.toArray) ∧ Below W.heap.size W w' := fun W => by
    refine (sum_any none 0 [] BAt.nil_ (by simp) (by simp)).mono ?_
    rintro e w' ⟨he, hb'⟩
    rw [hY, ← hD] at he
    exact ⟨he, hb'⟩
  have HS1 := Lib.hid s1
  have HS2 := Lib.hid s2
  have HC := Lib.hid hC
  have HD := Lib.hid hD
  have T1 : Hid ((Try.prog.info? 26).map (·.size) = some C.toArray.size) := Lib.hid (by rw [List.size_toArray, hl1]; exact size61)
  have T2 : Hid ((Try.prog.info? 26).map (·.size) = some D.toArray.size) := Lib.hid (by rw [List.size_toArray, hl2]; exact size61)
  have T3 : Hid (Z.toArray.size = C.toArray.size) := Lib.hid (by simp [hZl, hl1])
  have T4 : Hid (Z.toArray.size = D.toArray.size) := Lib.hid (by simp [hZl, hl2])
  have T5 : Hid (C.toArray.all (·.oneCell') = true) := Lib.hid (all_oneCell_toArray (by rw [hC, ← hX]; exact bcells_one _))
  have T6 : Hid (D.toArray.all (·.oneCell') = true) := Lib.hid (all_oneCell_toArray (by rw [hD, ← hY]; exact bcells_one _))
  have R1 : Hid (∀ w2 : World, ((w2.alloc (.cells Z.toArray 26)).alloc (.cells Z.toArray 26)).heap[w2.heap.size]? = some (.cells Z.toArray 26 (0, 0))) := Lib.hid (fun w2 => by
    rw [Below.heap_alloc _ _ _ (by simp)]
    exact heap_alloc_new w2 _)
  have R2 : Hid (∀ w2 : World, (((w2.alloc (.cells Z.toArray 26)).alloc (.cells Z.toArray 26)).setRow w2.heap.size C.toArray).heap[w2.heap.size + 1]? = some (.cells Z.toArray 26 (0, 0))) := Lib.hid (fun w2 => by
    rw [setRow_other _ _ _ _ (by omega)]
    have := heap_alloc_new (w2.alloc (.cells Z.toArray 26)) (.cells Z.toArray 26)
    simpa using this)
  have hcv : (convert 22 22 (.slice (some ⟨w.heap.size, 0, none⟩) 3 3)).run Try.prog (w.alloc (.cells #[.int .u8 97, .int .u8 98, .int .u8 99] 5)) = .ok (.slice (some ⟨w.heap.size, 0, none⟩) 3 3) (w.alloc (.cells #[.int .u8 97, .int .u8 98, .int .u8 99] 5 (3, 4))) := Lib.run_convert_bytes_const w 22 5 #[.int .u8 97, .int .u8 98, .int .u8 99] 3 3 Try.underlying22 Try.underlying5
  clear hZ hZl hX hY hl1 hl2 hC hD s1 s2
  go_enter Try.func12, Try.ntmps12
  go_wp2_with (first
    | (go_at_call 13; refine (HS1.out).mono ?_; rintro e w1 ⟨rfl, hb1⟩)
    | (go_at_call 13; refine (HS2.out _).mono ?_; rintro e w2 ⟨rfl, hb2⟩)
    | ((with_reducible refine wpList_store_row rfl 26 (.tmp 1) (.tmp 5) rfl w2.heap.size C.toArray ?_ ?_ 26 Z.toArray (R1.out w2) T1.out T3.out T5.out ?_); rfl; rfl)
    | ((with_reducible refine wpList_store_row rfl 26 (.tmp 2) (.tmp 6) rfl (w2.heap.size + 1) D.toArray ?_ ?_ 26 Z.toArray (R2.out w2) T2.out T4.out T6.out ?_); rfl; rfl; have K1 := rows2 w2 Z.toArray C D _ rfl; rw [HC.out, HD.out] at K1; rw [HC.out, HD.out]; generalize World.setRow _ (w2.heap.size + 1) _ = W5 at K1 ⊢; obtain ⟨p1, p2, p3⟩ := K1; have c0 := p1 0; have c1 := p1 1; have c2 := p1 2; have c3 := p1 3; have d0 := p2 0; have d1 := p2 1; have d2 := p2 2; have d3 := p2 3; simp at c0 c1 c2 c3 d0 d1 d2 d3; clear p1 p2))
  go_ret
  exact ⟨rfl, hb1.trans ((hb2.mono hb1.size).trans (p3.mono (Nat.le_trans hb1.size hb2.size)))⟩
end Go.Proofs.Ytcoiaddjfeaciaa
end
section
namespace Go.Proofs.Ytcoiaddjfeaciaa
set_option maxRecDepth 100000
open Go.RowKit Go.Great
set_option linter.unusedVariables false
set_option linter.unusedSimpArgs false

/-- A pointer to no hash, or to one that no call made. -/
def NotMade (w : World) (p : Option Addr) : Prop := p = none ∨ ∃ g, p = some ⟨g, 0, none⟩ ∧ w.cell? ⟨g, 0, none⟩ = some (.bool false)

theorem isMade_no (p : Option Addr) (w : World) (h : NotMade w p) : Calls Try.prog 60 #[.pointer p] w fun e w' => e = .returned (.bool false) ∧ w = w' := by
  rcases h with rfl | ⟨g, rfl, hc⟩
  · go_enter Try.func60, Try.ntmps60
    go_wp2
    go_ret
    exact ⟨rfl, rfl⟩
  · go_enter Try.func60, Try.ntmps60
    go_wp2
    go_ret
    exact ⟨rfl, rfl⟩

theorem clone_no (p : Option Addr) (w : World) (h : NotMade w p) : Calls Try.prog 18 #[.pointer p] w fun e w' => e = .returned (.pointer none) ∧ w = w' := by
  go_enter Try.func18, Try.ntmps18
  go_wp2_with (go_at_call 60; refine (isMade_no p w h).mono ?_; rintro e w1 ⟨rfl, rfl⟩)
  go_ret
  exact ⟨rfl, rfl⟩

theorem write_no (p : Option Addr) (w : World) (h : NotMade w p) (A : Option Addr) (n c : Nat) : Calls Try.prog 19 #[.pointer p, .slice A n c] w fun e w' => e = .returned (.int .i64 1) ∧ w = w' := by
  go_enter Try.func19, Try.ntmps19
  go_wp2_with (go_at_call 60; refine (isMade_no p w h).mono ?_; rintro e w1 ⟨rfl, rfl⟩)
  go_ret
  exact ⟨rfl, rfl⟩

theorem len_no (p : Option Addr) (w : World) (h : NotMade w p) : Calls Try.prog 21 #[.pointer p] w fun e w' => e = .returned (.int .u64 0) ∧ w = w' := by
  go_enter Try.func21, Try.ntmps21
  go_wp2_with (go_at_call 60; refine (isMade_no p w h).mono ?_; rintro e w1 ⟨rfl, rfl⟩)
  go_ret
  exact ⟨rfl, rfl⟩

theorem NotMade.alloc {w : World} {p : Option Addr} (h : NotMade w p) (o : Obj) : NotMade (w.alloc o) p := by
  rcases h with rfl | ⟨g, rfl, hc⟩
  · exact .inl rfl
  · refine .inr ⟨g, rfl, ?_⟩
    have hg : g < w.heap.size := by
      rcases Nat.lt_or_ge g w.heap.size with h' | h'
      · exact h'
      · simp [World.cell?, Array.getElem?_eq_none h'] at hc
    rw [((Below.refl w.heap.size w).alloc (Nat.le_refl _) o).cell (p := ⟨g, 0, none⟩) hg]
    exact hc
theorem NotMade.below {w w' : World} {p : Option Addr} (h : NotMade w p) (hb : Below w.heap.size w w') : NotMade w' p := by
  rcases h with rfl | ⟨g, rfl, hc⟩
  · exact .inl rfl
  · refine .inr ⟨g, rfl, ?_⟩
    have hg : g < w.heap.size := by
      rcases Nat.lt_or_ge g w.heap.size with h' | h'
      · exact h'
      · simp [World.cell?, Array.getElem?_eq_none h'] at hc
    rw [hb.cell (p := ⟨g, 0, none⟩) hg]
    exact hc
theorem eq61 (xs ys : List UInt8) (hx : xs.length = 20) (hy : ys.length = 20) (W : World) : (Op.equalIn 10000 26 (.agg (bcells xs).toArray) (.agg (bcells ys).toArray)).run Try.prog W = .ok (xs == ys) W :=
  run_equalIn_bytes W 9998 26 5 20 Try.underlying26 Try.underlying5 (fun w => by
    obtain ⟨i0, hi, hz0, hz1, hz2⟩ := info_parts info5
    simp [sizeOf, typeInfo, hi, hz1]) xs ys hx hy
theorem built61 (W : World) : (Instr.build 26 #[]).run Try.prog W = .ok (.agg (bcells (List.replicate 20 0)).toArray) W := run_build W 26 #[] _ (by kernel_rfl)

set_option maxRecDepth 100000 in
theorem sum_no (p : Option Addr) (w : World) (h : NotMade w p) : Calls Try.prog 20 #[.pointer p] w fun e w' => e = .returned (.agg (bcells (List.replicate 20 0)).toArray) ∧ Below w.heap.size w w' := by
  obtain ⟨Z, hZ⟩ : ∃ Z, Z = bcells (List.replicate 20 0) := ⟨_, rfl⟩
  have hz := fun W => zero61 W
  have hZl : Z.length = 20 := by rw [hZ, bcells_length, List.length_replicate]
  rw [← hZ] at hz
  have H0 := Lib.hid (h.alloc (.cells Z.toArray 26))
  have H1 : Hid ((w.alloc (.cells Z.toArray 26)).heap[w.heap.size]? = some (.cells Z.toArray 26 (0, 0))) := Lib.hid (heap_alloc_new w _)
  have HS1 : Hid ((Try.prog.info? 26).map (·.size) = some Z.length) := Lib.hid (by rw [hZl]; exact size61)
  have HS2 : Hid ((Try.prog.info? 26).map (·.size) = some Z.toArray.size) := Lib.hid (by rw [List.size_toArray, hZl]; exact size61)
  have HS3 : Hid (Z.toArray.all (·.oneCell') = true) := Lib.hid (all_oneCell_toArray (by rw [hZ]; exact bcells_one _))
  rw [← hZ]
  clear hZ hZl h
  go_enter Try.func20, Try.ntmps20
  go_wp2_with (first
    | (go_at_call 60; refine (isMade_no p _ H0.out).mono ?_; rintro e w1 ⟨rfl, rfl⟩)
    | ((with_reducible refine wpList_store_row rfl 26 (.tmp 2) (.tmp 7) rfl w.heap.size Z.toArray ?_ ?_ 26 Z.toArray H1.out HS2.out rfl HS3.out ?_); rfl; rfl))
  refine bodyPost_ret (v := .agg Z.toArray) ?_ rfl ⟨rfl, ?_⟩
  · refine results_cell1 (p := 2) (ty := 26) rfl _ _ w.heap.size 0 Z _ rfl (fun i u hu => ?_) Try.underlying26 rfl HS1.out
    rw [Nat.zero_add, cell_of_row _ _ i _ 26 (0, 0) (setRow_heap _ _ _ _ 26 _ H1.out)]
    simpa using hu
  · exact below_setRow ((Below.refl _ w).alloc (Nat.le_refl _) _) (Nat.le_refl _) _
end Go.Proofs.Ytcoiaddjfeaciaa
end
section
namespace Go.Proofs.Ytcoiaddjfeaciaa
set_option maxRecDepth 100000
open Go.RowKit

/-- A world that keeps what lay below B in W0. -/
structure Kept (B : Nat) (W0 : World) where
  val : World
  property : Below B W0 val
instance (B : Nat) (W0 : World) : Nonempty (Kept B W0) := ⟨⟨W0, Below.refl _ _⟩⟩
theorem wp_region_kept {P : Program} {id : Nat} {Q : Exit → Act → World → Prop} {a : Act} {w : World} {l : List Oper} (B : Nat) (W0 : World) (hW : Below B W0 w) (hm : P.follows .mixedOrders = true) (hB : Region.lexB .any l.toArray = true)
    (h : wpQuiet P l.toArray (fun w' => ∃ n : Kept B W0, w' = n.val) (fun a' => ∀ w', (∃ n : Kept B W0, w' = n.val) → Q .normal a' w') l a) : (Code.region id l.toArray true).wp P Q a w :=
  wp_region_quiet (C := fun w' => ∃ n : Kept B W0, w' = n.val) hm hB ⟨⟨{ w with drawn := w.drawn + 1 }, ⟨hW.os, hW.tape, hW.output, hW.size, hW.block⟩⟩, rfl⟩ (by simpa using h)
theorem kept_of {P : Program} {f : FuncId} {args : Array Value} {v : Value} {B : Nat} {W0 : World} (hB : B ≤ W0.heap.size) (h : ∀ W, Calls P f args W fun e w' => e = .returned v ∧ Below W.heap.size W w') (n : Kept B W0) :
    Calls P f args n.val fun e w' => e = .returned v ∧ ∃ m : Kept B W0, w' = m.val :=
  (h n.val).mono (by rintro e w' ⟨rfl, hb⟩; exact ⟨rfl, ⟨w', n.property.trans (hb.mono (Nat.le_trans hB n.property.size))⟩, rfl⟩)
theorem kept_same {P : Program} {f : FuncId} {args : Array Value} {v : Value} {B : Nat} {W0 : World} (h : ∀ W, Calls P f args W fun e w' => e = .returned v ∧ W = w') (n : Kept B W0) :
    Calls P f args n.val fun e w' => e = .returned v ∧ ∃ m : Kept B W0, w' = m.val :=
  (h n.val).mono (by rintro e w' ⟨rfl, rfl⟩; exact ⟨rfl, n, rfl⟩)
theorem kept_row {B g : Nat} {W0 : World} {o : Obj} (h : W0.heap[g]? = some o) (hg : g < B) (n : Kept B W0) : n.val.heap[g]? = some o := (n.property.block g hg).trans h
theorem load26 {w : World} {g : Nat} {xs : List UInt8} (hx : xs.length = 20) (h : w.heap[g]? = some (.cells (bcells xs).toArray 26 (0, 0))) : (loadVar 26 ⟨g, 0, none⟩).run Try.prog w = .ok (.agg (bcells xs).toArray) w :=
  run_loadVar_mid w g 0 26 (bcells xs) _ (row_range h) Try.underlying26 rfl (by rw [bcells_length, hx]; exact size26)

theorem wp_loadV {P : Program} {op : Oper} {a : Act} {w : World} {K : Act → World → Prop} {Q : Exit → Act → World → Prop} (ty : TypeId) (x : Operand) (ho : op.op = .load ty x) (p : Addr) (hx : a.eval x = .pointer (some p)) (v : Value) (hl : (loadVar ty p).run P w = .ok v w)
    (h : K (a.put op.dst v) w) : op.wp P a w K Q := by
  unfold Oper.wp execOp
  simp only [ho, hx, Instr.loadAt, Instr.sureAddr, Sem.run_bind, Sem.run_pure, Result.andThen_ok, hl]
  exact h
theorem wpList_loadV {P : Program} {ops : Array Oper} {rest : List Oper} {op : Oper} {a : Act} {w : World} {Q : Exit → Act → World → Prop} (hgd : op.guard = none) (ty : TypeId) (x : Operand) (ho : op.op = .load ty x) (p : Addr) (hx : a.eval x = .pointer (some p)) (v : Value) (hl : (loadVar ty p).run P w = .ok v w)
    (h : wpList P ops Q rest (a.put op.dst v) w) : wpList P ops Q (op :: rest) a w :=
  wpList_plain hgd fun _ hK => wp_loadV ty x ho p hx v hl (hK _ _ h)
theorem quiet_loadV {P : Program} {B : Nat} {W0 : World} {o : Oper} {a : Act} {K : Act → Prop} (ty : TypeId) (x : Operand) (ho : o.op = .load ty x) (p : Addr) (hx : a.eval x = .pointer (some p)) (v : Value) (hl : ∀ n : Kept B W0, (loadVar ty p).run P n.val = .ok v n.val)
    (hk : K (a.put o.dst v)) : o.quiet P a (fun w' => ∃ n : Kept B W0, w' = n.val) K :=
  ⟨v, fun w ⟨n, hn⟩ => by
    subst hn
    unfold Oper.quietAt execOp
    simp only [ho, hx, Instr.loadAt, Instr.sureAddr, Sem.run_bind, Sem.run_pure, Result.andThen_ok, hl n]
    exact ⟨rfl, rfl⟩, hk⟩

theorem cmp_any (xs ys : List UInt8) (hx : xs.length = 20) (hy : ys.length = 20) (w : World) :
    Calls Try.prog 30 #[.agg (bcells xs).toArray, .agg (bcells ys).toArray] w fun e w' => e = .returned (.int .i64 (cmpL xs ys)) ∧ Below w.heap.size w w' := by
  have hP := fun W => prefix_any xs ys hx hy W
  have hBt := fun (p : Nat) (hp : p < 160) W => bit_yes xs hx p hp W
  have he : ∀ W, (Op.equalIn 10000 26 (.agg (bcells xs).toArray) (.agg (bcells ys).toArray)).run Try.prog W = .ok (xs == ys) W := fun W => eq61 xs ys hx hy W
  obtain ⟨X, hX⟩ : ∃ X, X = (bcells xs).toArray := ⟨_, rfl⟩
  obtain ⟨Y, hY⟩ : ∃ Y, Y = (bcells ys).toArray := ⟨_, rfl⟩
  obtain ⟨W0, hW0⟩ : ∃ W0, W0 = (w.alloc (.cells X 26)).alloc (.cells Y 26) := ⟨_, rfl⟩
  obtain ⟨h1, h2, h4⟩ := heap2 w (.cells X 26) (.cells Y 26)
  rw [← hW0] at h1 h2 h4
  have hs0 : W0.heap.size = w.heap.size + 2 := by rw [hW0]; simp
  have l1 : ∀ n : Kept W0.heap.size W0, (loadVar 26 ⟨w.heap.size, 0, none⟩).run Try.prog n.val = .ok (.agg X) n.val := fun n => by
    rw [hX] at h1 ⊢
    exact load26 hx (kept_row h1 (by omega) n)
  have l2 : ∀ n : Kept W0.heap.size W0, (loadVar 26 ⟨w.heap.size + 1, 0, none⟩).run Try.prog n.val = .ok (.agg Y) n.val := fun n => by
    rw [hY] at h2 ⊢
    exact load26 hy (kept_row h2 (by omega) n)
  have HL1 := Lib.hid l1
  have HL2 := Lib.hid l2
  have HK1 : Hid ((loadVar 26 ⟨w.heap.size, 0, none⟩).run Try.prog ((w.alloc (.cells X 26)).alloc (.cells Y 26)) = .ok (.agg X) ((w.alloc (.cells X 26)).alloc (.cells Y 26))) := Lib.hid (by rw [← hW0]; exact l1 ⟨W0, Below.refl _ _⟩)
  have HK2 : Hid ((loadVar 26 ⟨w.heap.size + 1, 0, none⟩).run Try.prog ((w.alloc (.cells X 26)).alloc (.cells Y 26)) = .ok (.agg Y) ((w.alloc (.cells X 26)).alloc (.cells Y 26))) := Lib.hid (by rw [← hW0]; exact l2 ⟨W0, Below.refl _ _⟩)
  simp only [← hX, ← hY] at hP he ⊢
  simp only [← hX] at hBt
  have HP := Lib.hid hP
  have HB := Lib.hid hBt
  have HW := Lib.hid hW0
  have HBL := Lib.hid h4
  clear hP hBt h1 h2 h4 hX hY l1 l2 hW0 hs0
  by_cases hxy : xs = ys
  · have he' : ∀ W, (Op.equalIn 10000 26 (.agg X) (.agg Y)).run Try.prog W = .ok true W := fun W => by rw [he, hxy]; simp
    have hc : cmpL xs ys = 0 := by unfold cmpL; rw [if_pos hxy]
    rw [hc]
    clear he hc hxy
    go_enter Try.func30, Try.ntmps30
    go_wp2_with (first
      | ((with_reducible refine wpList_loadV (op := ⟨some 5, _, _, _, _, _⟩) rfl 26 (.tmp 2) rfl _ ?_ _ HK1.out ?_); rfl)
      | ((with_reducible refine wpList_loadV (op := ⟨some 6, _, _, _, _, _⟩) rfl 26 (.tmp 3) rfl _ ?_ _ HK2.out ?_); rfl))
    go_ret
    exact ⟨rfl, by rw [← HW.out]; exact HBL.out⟩
  · have he' : ∀ W, (Op.equalIn 10000 26 (.agg X) (.agg Y)).run Try.prog W = .ok false W := fun W => by rw [he]; simp [hxy]
    have hp := ((pfxN_spec xs ys (hx.trans hy.symm)).2.2.1 hxy).1
    rw [hx] at hp
    have hc : cmpL xs ys = if bitL xs (pfxN xs ys) then 1 else -1 := by unfold cmpL; rw [if_neg hxy]
    have HB2 := Lib.hid (fun W => HB.out (pfxN xs ys) (by omega) W)
    rw [hc]
    generalize pfxN xs ys = p at HB2 HP ⊢
    clear he hc hxy HB hp hx hy
    cases hb : bitL xs p
    all_goals
      rw [hb] at HB2
      simp only [Bool.false_eq_true, if_false, if_true] at HB2 ⊢
      clear hb
      go_enter Try.func30, Try.ntmps30
      go_wp2_with (first
        | ((with_reducible refine wpList_loadV (op := ⟨some 5, _, _, _, _, _⟩) rfl 26 (.tmp 2) rfl _ ?_ _ HK1.out ?_); rfl)
        | ((with_reducible refine wpList_loadV (op := ⟨some 6, _, _, _, _, _⟩) rfl 26 (.tmp 3) rfl _ ?_ _ HK2.out ?_); rfl))
      rw [← HW.out]
      refine wp_region_kept W0.heap.size W0 (Below.refl _ _) (by kernel_rfl) (by kernel_rfl) ?_
      repeat (first
        | (go_big_quiet_want; (with_reducible refine quiet_loadV 26 (.tmp 2) rfl _ ?_ _ HL1.out ?_); rfl; simp only [Act.put, List.setIfInBounds_toArray, List.set_cons_zero, List.set_cons_succ]; go_big_quiet_on)
        | (go_big_quiet_want; (with_reducible refine quiet_loadV 26 (.tmp 3) rfl _ ?_ _ HL2.out ?_); rfl; simp only [Act.put, List.setIfInBounds_toArray, List.set_cons_zero, List.set_cons_succ]; go_big_quiet_on)
        | go_big_quiet_step (first | (go_at_call 32; exact kept_of (Nat.le_refl _) HP.out _) | (go_at_call 24; exact kept_of (Nat.le_refl _) HB2.out _)))
      refine wpQuiet_nil ?_
      rintro _ ⟨⟨wk, hwk⟩, rfl⟩
      go_wp2
      go_ret
      exact ⟨rfl, HBL.out.trans (hwk.mono HBL.out.size)⟩
end Go.Proofs.Ytcoiaddjfeaciaa
end
