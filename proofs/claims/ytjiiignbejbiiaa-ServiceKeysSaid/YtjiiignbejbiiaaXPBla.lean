/- Contract of the reference's block. Conditions: a block has 64 bytes. -/
import Derived.Test.YtjiiignbejbiiaaXPShap
namespace Go.Proofs.Ytjiiignbejbiiaa
set_option maxRecDepth 100000
set_option maxHeartbeats 400000
open Go.RowKit Go.Great
set_option linter.unusedVariables false

theorem zero87 (W : World) : (zeroValue 91).run Try.prog W = .ok (.agg (V5.cells ⟨0, 0, 0, 0, 0⟩).toArray) W := by
  have h : (Try.prog.info? 91).map (·.zero) = some (some (.agg (V5.cells ⟨0, 0, 0, 0, 0⟩).toArray)) := by kernel_rfl
  cases hi : Try.prog.info? 91 with
  | none => rw [hi] at h; cases h
  | some i =>
    rw [hi] at h
    simp only [Option.map_some, Option.some.injEq] at h
    simp [zeroValue, typeInfo, hi, h]
theorem size87 : (Try.prog.info? 91).map (·.size) = some 5 := by kernel_rfl
theorem load87 {w : World} {g : Nat} {u : V5} {ty : TypeId} (h : w.heap[g]? = some (.cells u.cells.toArray ty (0, 0))) : (loadVar 91 ⟨g, 0, none⟩).run Try.prog w = .ok (.agg u.cells.toArray) w :=
  run_loadVar_mid w g 0 91 u.cells _ (row_range h) Try.underlying91 rfl size87
theorem cells_one (u : V5) : u.cells.toArray.all (·.oneCell') = true := by
  apply all_oneCell_toArray
  intro x hx
  simp only [V5.cells, List.mem_cons, List.not_mem_nil, or_false] at hx
  rcases hx with rfl | rfl | rfl | rfl | rfl <;> rfl
theorem built5 (a b c d e : Int) (W : World) : (Instr.build 91 #[(0, .int .u32 a), (1, .int .u32 b), (2, .int .u32 c), (3, .int .u32 d), (4, .int .u32 e)]).run Try.prog W = .ok (.agg #[.int .u32 a, .int .u32 b, .int .u32 c, .int .u32 d, .int .u32 e]) W := run_build W 91 _ _ (by kernel_rfl)
theorem cells5 {w : World} {g : Nat} {u : V5} (h : w.heap[g]? = some (.cells u.cells.toArray 91 (0, 0))) : w.cell? ⟨g, 0, none⟩ = some (.int .u32 u.a) ∧ w.cell? ⟨g, 1, none⟩ = some (.int .u32 u.b) ∧ w.cell? ⟨g, 2, none⟩ = some (.int .u32 u.c) ∧ w.cell? ⟨g, 3, none⟩ = some (.int .u32 u.d) ∧ w.cell? ⟨g, 4, none⟩ = some (.int .u32 u.e) := by
  refine ⟨?_, ?_, ?_, ?_, ?_⟩ <;> rw [cell_of_row w g _ _ 91 (0, 0) h] <;> rfl

theorem turned30_st (x : Int) (w : World) : Calls Try.prog 73 #[.int .u32 x, .int .i64 30] w fun e w' => e = .returned (.int .u32 (rot30 x)) ∧ w' = w :=
  (turned30_any (x := x) (w := w)).mono (by rintro e w' ⟨rfl, rfl⟩; exact ⟨rfl, rfl⟩)
theorem still_buildV {P : Program} {ops : Array Oper} {rest : List Oper} {o : Oper} {a : Act} {w : World} {Q : Act → Prop} (hg : o.guard = none) (t : TypeId) (parts : Array (Nat × Operand)) (ho : o.op = .build t parts) (vs : Array (Nat × Value))
    (hv : (parts.map fun (i, x) => (i, a.eval x)) = vs) (v : Value) (hr : (Instr.build t vs).run P w = .ok v w) (h : wpStill P ops w Q rest (a.put o.dst v)) : wpStill P ops w Q (o :: rest) a :=
  wpStill_step fun K hK => by
    have hw : Region.wanted o (yielded ops a.tmps) = true := by simp [Region.wanted, hg]
    rw [if_pos hw]
    unfold Oper.still execOp
    simp only [ho, hv, Sem.run_bind, hr, Result.andThen_ok]
    exact ⟨rfl, hK _ h⟩

structure BM (w : World) (v u : V5) (gw : Nat) (xs : List UInt8) (W : World) : Prop where
  r0 : W.heap[w.heap.size]? = some (.cells v.cells.toArray 91 (0, 0))
  r1 : W.heap[w.heap.size + 1]? = some (.cells (V5.cells ⟨0, 0, 0, 0, 0⟩).toArray 91 (0, 0))
  r2 : W.heap[w.heap.size + 1 + 1]? = some (.cells u.cells.toArray 91 (0, 0))
  rw_ : ∀ k, k < 80 → W.cell? ⟨gw, k, none⟩ = some (.int .u32 ((schI xs 80).getD k 0))
  lw : w.heap.size + 3 ≤ gw
  bel : Below w.heap.size w W
theorem BM.set {w W : World} {v u : V5} {gw : Nat} {xs : List UInt8} (h : BM w v u gw xs W) (u' : V5) : BM w v u' gw xs (W.setRow (w.heap.size + 1 + 1) u'.cells.toArray) :=
  ⟨(setRow_other _ _ _ _ (by omega)).trans h.r0, (setRow_other _ _ _ _ (by omega)).trans h.r1, setRow_heap _ _ _ _ 91 (0, 0) h.r2, fun k hk => (World.cell?_of_block (w := W) (a := ⟨gw, k, none⟩) (setRow_other _ _ gw _ (by have := h.lw; omega))).trans (h.rw_ k hk), h.lw, below_setRow h.bel (by omega) _⟩
theorem BM.drew {w W : World} {v u : V5} {gw : Nat} {xs : List UInt8} (h : BM w v u gw xs W) : BM w v u gw xs W.drew := ⟨h.r0, h.r1, h.r2, h.rw_, h.lw, h.bel.drew⟩
theorem BM.drewN {w W : World} {v u : V5} {gw : Nat} {xs : List UInt8} (h : BM w v u gw xs W) (n : Nat) : BM w v u gw xs (W.drewN n) := ⟨h.r0, h.r1, h.r2, h.rw_, h.lw, below_drewN h.bel n⟩
/-- The first k words added. -/
def addK (v u : V5) (k : Nat) : V5 := ⟨if 0 < k then (v.a + u.a) % 4294967296 else u.a, if 1 < k then (v.b + u.b) % 4294967296 else u.b, if 2 < k then (v.c + u.c) % 4294967296 else u.c, if 3 < k then (v.d + u.d) % 4294967296 else u.d, if 4 < k then (v.e + u.e) % 4294967296 else u.e⟩

def B1Rel (w : World) (v : V5) (gw : Nat) (xs : List UInt8) (i : Value) (wr : World) : Prop := ∃ j : Nat, j ≤ 80 ∧ i = .int .i64 (j : Int) ∧ BM w v (cmpI xs v j) gw xs wr
theorem addK_zero (v u : V5) : addK v u 0 = u := rfl
theorem addK_five (v u : V5) : addK v u 5 = ⟨(v.a + u.a) % 4294967296, (v.b + u.b) % 4294967296, (v.c + u.c) % 4294967296, (v.d + u.d) % 4294967296, (v.e + u.e) % 4294967296⟩ := rfl
def B2Rel (w : World) (v u : V5) (gw : Nat) (xs : List UInt8) (i : Value) (wr : World) : Prop := ∃ k : Nat, k ≤ 5 ∧ i = .int .i64 (k : Int) ∧ BM w v (addK v u k) gw xs wr
theorem BM.setC {w W : World} {v u : V5} {gw : Nat} {xs : List UInt8} (h : BM w v u gw xs W) (k : Nat) (x : Value) (u' : V5) (he : u.cells.toArray.setIfInBounds k x = u'.cells.toArray) : BM w v u' gw xs (W.setCell ⟨w.heap.size + 1 + 1, k, none⟩ x) := by
  have s1 := heap_setCell_same W (w.heap.size + 1 + 1) k _ 91 x h.r2
  rw [he] at s1
  exact ⟨(Below.heap_setCell _ _ _ _ (by simp; omega)).trans h.r0, (Below.heap_setCell _ _ _ _ (by simp)).trans h.r1, s1, fun q hq => (World.cell?_setCell_other W _ _ _ (fun e => by have := h.lw; simp at e <;> omega)).trans (h.rw_ q hq), h.lw, h.bel.setCell (p := ⟨w.heap.size + 1 + 1, k, none⟩) (by show w.heap.size ≤ w.heap.size + 1 + 1; omega) _⟩

theorem rblock_any (A : Option Addr) (c : Nat) (xs : List UInt8) (v : V5) (w : World) (hx : BAt w w.heap.size A xs) (hl : xs.length = 64) :
    Calls Try.prog 62 #[.agg v.cells.toArray, .slice A 64 c] w fun e w' => e = .returned (.agg (aftI xs v).cells.toArray) ∧ Below w.heap.size w w' := by
  obtain ⟨Z, hZ⟩ : ∃ Z, Z = (V5.cells ⟨0, 0, 0, 0, 0⟩).toArray := ⟨_, rfl⟩
  have hz := fun W => zero87 W
  rw [← hZ] at hz
  obtain ⟨h1, h2, h3, h4⟩ := heap3 w (.cells v.cells.toArray 91) (.cells Z 91) (.cells Z 91)
  have HK : Hid ((loadVar 91 ⟨w.heap.size, 0, none⟩).run Try.prog ((w.alloc (.cells v.cells.toArray 91)).alloc (.cells Z 91)) = .ok (.agg v.cells.toArray) ((w.alloc (.cells v.cells.toArray 91)).alloc (.cells Z 91))) := Lib.hid (load87 (heap2 w _ _).1)
  have S1 : Hid ((Try.prog.info? 91).map (·.size) = some v.cells.toArray.size) := Lib.hid size87
  have S2 : Hid (Z.size = v.cells.toArray.size) := Lib.hid (by rw [hZ]; rfl)
  have S3 : Hid (v.cells.toArray.all (·.oneCell') = true) := Lib.hid (cells_one v)
  have S4 := Lib.hid h3
  obtain ⟨W0, hW0⟩ : ∃ W0, W0 = (((w.alloc (.cells v.cells.toArray 91)).alloc (.cells Z 91)).alloc (.cells Z 91)).setRow (w.heap.size + 1 + 1) v.cells.toArray := ⟨_, rfl⟩
  have a0 : W0.heap[w.heap.size]? = some (.cells v.cells.toArray 91 (0, 0)) := by rw [hW0, setRow_other _ _ _ _ (by omega)]; exact h1
  have a1 : W0.heap[w.heap.size + 1]? = some (.cells Z 91 (0, 0)) := by rw [hW0, setRow_other _ _ _ _ (by omega)]; exact h2
  have a2 : W0.heap[w.heap.size + 1 + 1]? = some (.cells v.cells.toArray 91 (0, 0)) := by rw [hW0]; exact setRow_heap _ _ _ _ 91 (0, 0) h3
  have a3 : Below w.heap.size w W0 := by rw [hW0]; exact below_setRow h4 (by omega) _
  have a4 : W0.heap.size = w.heap.size + 3 := by rw [hW0]; simp [World.setRow]
  have HW := Lib.hid (rwords_any A c xs W0 ((hx.below a3).more a3.size) hl)
  have HBM : Hid (∀ A1 c1 w', w'.ownsRow W0.heap.size 90 1 (.slice A1 80 c1) 80 (ucells (schI xs 80)) → Below W0.heap.size W0 w' → ∃ gw, A1 = some ⟨gw, 0, none⟩ ∧ BM w v v gw xs w') := Lib.hid (fun A1 c1 w' ho hb => by
    rcases ho.2 with ⟨hv, hn⟩ | ⟨gw, cap, cur, hv, hbase, _⟩
    · omega
    · simp only [Value.slice.injEq, true_and] at hv
      obtain ⟨rfl, rfl⟩ := hv
      refine ⟨gw, rfl, (hb.block _ (by omega)).trans a0, (by rw [hb.block _ (by omega), a1, hZ]), (hb.block _ (by omega)).trans a2, fun k hk => ?_, by omega, a3.trans (hb.mono (by omega))⟩
      have := ho.cellAt k (by omega)
      rw [this]
      have hk' : k < (schI xs 80).length := by rw [schI_length]; exact hk
      simp [ucells, List.getElem?_eq_getElem hk'])
  have HW0 := Lib.hid hW0
  clear h1 h2 h3 h4 a0 a1 a2 a3 a4 hx hl hZ hW0
  generalize hVV : v.cells.toArray = VA at HK S1 S2 S3 S4 HW0 ⊢
  have HVV := Lib.hid hVV
  clear hVV
  go_enter Try.func62, Try.ntmps62
  go_wp2_with (first
    | ((with_reducible refine wpList_loadV (op := ⟨some 12, _, _, _, _, _⟩) rfl 91 (.tmp 2) rfl _ ?_ _ HK.out ?_); rfl)
    | ((with_reducible refine wpList_store_row rfl 91 (.tmp 5) (.tmp 12) rfl (w.heap.size + 1 + 1) VA ?_ ?_ 91 Z S4.out S1.out S2.out S3.out ?_); rfl; rfl; rw [← HW0.out])
    | (go_at_call 71; refine (HW.out).mono ?_; rintro e w1 ⟨A1, c1, rfl, ho, hb⟩; obtain ⟨gw, rfl, bm⟩ := HBM.out A1 c1 w1 ho hb; have R0 : Hid (B1Rel w v gw xs (.int .i64 0) w1) := Lib.hid ⟨0, by omega, rfl, bm⟩; clear ho hb bm))
  clear hz
  go_loopw [7] (B1Rel w v gw xs) (fun i _ => 80 - (intOf i).toNat)
  case atStart => exact R0.out
  case round =>
    obtain ⟨j, hj, rfl, bm⟩ := hrel
    clear R0
    by_cases hlt : j < 80
    · obtain ⟨c0, c1', c2, c3, c4⟩ := cells5 bm.r2
      have cw := bm.rw_ j hlt
      have hj' : (j : Int) < 80 := by omega
      have HP := Lib.hid (fun (b' c' d' : Int) W => spart_any j b' c' d' W hlt)
      obtain ⟨u, hu⟩ : ∃ u, u = cmpI xs v j := ⟨_, rfl⟩
      have hnext : cmpI xs v (j + 1) = ⟨xI xs j u, u.a, rot30 u.b, u.c, u.d⟩ := by rw [hu]; rfl
      rw [← hu] at c0 c1' c2 c3 c4 bm
      have hxI : xI xs j u = (rot5 u.a + fI j u.b u.c u.d + u.e + (schI xs 80).getD j 0 + kI j) % 4294967296 := rfl
      have HX : Hid (∀ (W1 : World) (X : Int), BM w v u gw xs W1 → X = xI xs j u → B1Rel w v gw xs (.int .i64 ((j : Int) + 1)) (W1.setRow (w.heap.size + 1 + 1) #[.int .u32 X, .int .u32 u.a, .int .u32 (rot30 u.b), .int .u32 u.c, .int .u32 u.d])) := Lib.hid (fun W1 X hb hX => ⟨j + 1, by omega, by go_num, by rw [hnext, ← hX]; exact hb.set ⟨X, u.a, rot30 u.b, u.c, u.d⟩⟩)
      have HBMr := Lib.hid bm
      generalize (schI xs 80).getD j 0 = wd at cw hxI
      generalize hf : fI j u.b u.c u.d = fv at hxI
      generalize hkk : kI j = kv at hxI
      have HP2 := Lib.hid (fun W => HP.out u.b u.c u.d W)
      rw [hf, hkk] at HP2
      have HX1 := Lib.hid hxI
      clear hu hnext hf hkk HP hxI bm
      go_upto_region 7 with (go_at_call 72; refine (HP2.out _).mono ?_; rintro e w2 ⟨rfl, rfl⟩)
      go_quiet ((go_at_call 73; exact quiet_l (fun W => turned5_any (x := u.a) (w := W))))
      go_upto_region 8 with fail
      obtain ⟨X, hX⟩ : ∃ X : Int, X = ((rot5 u.a + fv + u.e + wd) % 4294967296 + kv) % 4294967296 := ⟨_, rfl⟩
      have HXX : Hid (X = xI xs j u) := Lib.hid (by rw [hX, HX1.out]; omega)
      rw [← hX]
      obtain ⟨W1, hW1⟩ : ∃ W1 : World, W1 = { wr.drewN nq with drawn := (wr.drewN nq).drawn + 1 } := ⟨_, rfl⟩
      have bm1 : BM w v u gw xs W1 := by rw [hW1]; exact (HBMr.out.drewN nq).drew
      obtain ⟨d0, d1, d2, d3, d4⟩ := cells5 bm1.r2
      have HB1 := Lib.hid bm1
      have HR2 := Lib.hid bm1.r2
      have HW1 := Lib.hid hW1
      have hbd := fun W => built5 X u.a (rot30 u.b) u.c u.d W
      have HBD := Lib.hid hbd
      have S1' : Hid ((Try.prog.info? 91).map (·.size) = some (#[.int .u32 X, .int .u32 u.a, .int .u32 (rot30 u.b), .int .u32 u.c, .int .u32 u.d] : Array Value).size) := Lib.hid size87
      have S3' : Hid ((#[.int .u32 X, .int .u32 u.a, .int .u32 (rot30 u.b), .int .u32 u.c, .int .u32 u.d] : Array Value).all (·.oneCell') = true) := Lib.hid (cells_one ⟨X, u.a, rot30 u.b, u.c, u.d⟩)
      clear hX hW1 bm1 c0 c1' c2 c3 c4 cw hbd
      refine region_tail 11 W1 HW1.out (by kernel_rfl) (by kernel_rfl) ?_
      simp only [List.take_succ_cons, List.take_zero, List.drop_succ_cons, List.drop_zero]
      repeat (first
        | still_step
        | still_call (turned30_st _ _)
        | (refine still_buildV rfl 91 _ rfl _ ?_ _ (HBD.out _) ?_; (simp only [List.map_toArray, List.map_cons, List.map_nil]; rfl); simp only [Act.put, List.setIfInBounds_toArray, List.set_cons_zero, List.set_cons_succ]))
      try refine wpStill_nil ?_
      go_wp2_with ((with_reducible refine wpList_store_row rfl 91 (.tmp 5) (.tmp 55) rfl (w.heap.size + 1 + 1) #[.int .u32 X, .int .u32 u.a, .int .u32 (rot30 u.b), .int .u32 u.c, .int .u32 u.d] ?_ ?_ 91 u.cells.toArray HR2.out S1'.out rfl S3'.out ?_); rfl; rfl)
      go_roundw
      case rel => exact HX.out W1 X HB1.out HXX.out
      case measure => simp [intOf]; omega
    · have hj80 : j = 80 := by omega
      have hjn : ¬ (j : Int) < 80 := by omega
      obtain ⟨u, hu⟩ : ∃ u, u = cmpI xs v 80 := ⟨_, rfl⟩
      rw [hj80, ← hu] at bm
      have HAF : Hid (aftI xs v = addK v u 5) := Lib.hid (by rw [addK_five, hu]; rfl)
      have R1 : Hid (B2Rel w v u gw xs (.int .i64 0) wr) := Lib.hid ⟨0, by omega, rfl, by rw [addK_zero]; exact bm⟩
      clear bm hlt hj hu hj80
      go_wp2
      go_loopw [11] (B2Rel w v u gw xs) (fun i _ => 5 - (intOf i).toNat)
      case atStart => exact R1.out
      case round =>
        rename_i wr0
        obtain ⟨k, hk, rfl, bm⟩ := hrel
        clear R1
        by_cases hlt : k < 5
        · obtain ⟨W1, hW1⟩ : ∃ W1 : World, W1 = { wr with drawn := wr.drawn + 1 } := ⟨_, rfl⟩
          have bm1 : BM w v (addK v u k) gw xs W1 := by rw [hW1]; exact bm.drew
          have HW1 := Lib.hid hW1
          obtain ⟨c0, c1', c2, c3, c4⟩ := cells5 bm1.r2
          obtain ⟨d0, d1, d2, d3, d4⟩ := cells5 bm1.r0
          have fr := fun i => frozen_of_row W1 (w.heap.size + 1 + 1) i _ 91 bm1.r2
          match k, hlt with
          | 0, _ =>
            have HR : Hid (∀ X : Int, X = (u.a + v.a) % 4294967296 → B2Rel w v u gw xs (.int .i64 (0 + 1)) (W1.setCell ⟨w.heap.size + 1 + 1, 0, none⟩ (.int .u32 X))) := Lib.hid (fun X hX => ⟨1, by omega, rfl, bm1.setC 0 _ _ (by subst hX; rw [Int.add_comm u.a]; rfl)⟩)
            simp only [addK, Nat.lt_irrefl, Nat.not_lt_zero, if_false, if_true, Nat.reduceLT] at c0 c1' c2 c3 c4
            have fk := fr 0
            clear bm hW1 bm1 fr
            go_upto_region 12 with fail
            refine region_tail 9 W1 HW1.out (by kernel_rfl) (by kernel_rfl) ?_
            simp only [List.take_succ_cons, List.take_zero, List.drop_succ_cons, List.drop_zero]
            repeat still_step
            try refine wpStill_nil ?_
            go_wp2
            go_roundw
            case rel => exact HR.out _ rfl
            case measure => simp [intOf]
          | 1, _ =>
            have HR : Hid (∀ X : Int, X = (u.b + v.b) % 4294967296 → B2Rel w v u gw xs (.int .i64 (1 + 1)) (W1.setCell ⟨w.heap.size + 1 + 1, 1, none⟩ (.int .u32 X))) := Lib.hid (fun X hX => ⟨2, by omega, rfl, bm1.setC 1 _ _ (by subst hX; rw [Int.add_comm u.b]; rfl)⟩)
            simp only [addK, Nat.lt_irrefl, Nat.not_lt_zero, if_false, if_true, Nat.reduceLT] at c0 c1' c2 c3 c4
            have fk := fr 1
            clear bm hW1 bm1 fr
            go_upto_region 12 with fail
            refine region_tail 9 W1 HW1.out (by kernel_rfl) (by kernel_rfl) ?_
            simp only [List.take_succ_cons, List.take_zero, List.drop_succ_cons, List.drop_zero]
            repeat still_step
            try refine wpStill_nil ?_
            go_wp2
            go_roundw
            case rel => exact HR.out _ rfl
            case measure => simp [intOf]
          | 2, _ =>
            have HR : Hid (∀ X : Int, X = (u.c + v.c) % 4294967296 → B2Rel w v u gw xs (.int .i64 (2 + 1)) (W1.setCell ⟨w.heap.size + 1 + 1, 2, none⟩ (.int .u32 X))) := Lib.hid (fun X hX => ⟨3, by omega, rfl, bm1.setC 2 _ _ (by subst hX; rw [Int.add_comm u.c]; rfl)⟩)
            simp only [addK, Nat.lt_irrefl, Nat.not_lt_zero, if_false, if_true, Nat.reduceLT] at c0 c1' c2 c3 c4
            have fk := fr 2
            clear bm hW1 bm1 fr
            go_upto_region 12 with fail
            refine region_tail 9 W1 HW1.out (by kernel_rfl) (by kernel_rfl) ?_
            simp only [List.take_succ_cons, List.take_zero, List.drop_succ_cons, List.drop_zero]
            repeat still_step
            try refine wpStill_nil ?_
            go_wp2
            go_roundw
            case rel => exact HR.out _ rfl
            case measure => simp [intOf]
          | 3, _ =>
            have HR : Hid (∀ X : Int, X = (u.d + v.d) % 4294967296 → B2Rel w v u gw xs (.int .i64 (3 + 1)) (W1.setCell ⟨w.heap.size + 1 + 1, 3, none⟩ (.int .u32 X))) := Lib.hid (fun X hX => ⟨4, by omega, rfl, bm1.setC 3 _ _ (by subst hX; rw [Int.add_comm u.d]; rfl)⟩)
            simp only [addK, Nat.lt_irrefl, Nat.not_lt_zero, if_false, if_true, Nat.reduceLT] at c0 c1' c2 c3 c4
            have fk := fr 3
            clear bm hW1 bm1 fr
            go_upto_region 12 with fail
            refine region_tail 9 W1 HW1.out (by kernel_rfl) (by kernel_rfl) ?_
            simp only [List.take_succ_cons, List.take_zero, List.drop_succ_cons, List.drop_zero]
            repeat still_step
            try refine wpStill_nil ?_
            go_wp2
            go_roundw
            case rel => exact HR.out _ rfl
            case measure => simp [intOf]
          | 4, _ =>
            have HR : Hid (∀ X : Int, X = (u.e + v.e) % 4294967296 → B2Rel w v u gw xs (.int .i64 (4 + 1)) (W1.setCell ⟨w.heap.size + 1 + 1, 4, none⟩ (.int .u32 X))) := Lib.hid (fun X hX => ⟨5, by omega, rfl, bm1.setC 4 _ _ (by subst hX; rw [Int.add_comm u.e]; rfl)⟩)
            simp only [addK, Nat.lt_irrefl, Nat.not_lt_zero, if_false, if_true, Nat.reduceLT] at c0 c1' c2 c3 c4
            have fk := fr 4
            clear bm hW1 bm1 fr
            go_upto_region 12 with fail
            refine region_tail 9 W1 HW1.out (by kernel_rfl) (by kernel_rfl) ?_
            simp only [List.take_succ_cons, List.take_zero, List.drop_succ_cons, List.drop_zero]
            repeat still_step
            try refine wpStill_nil ?_
            go_wp2
            go_roundw
            case rel => exact HR.out _ rfl
            case measure => simp [intOf]
        · obtain rfl : k = 5 := by omega
          obtain ⟨L, hL⟩ : ∃ L, L = (addK v u 5).cells := ⟨_, rfl⟩
          have q1 := row_range bm.r2
          have q2 := row_there bm.r1
          rw [← hL] at q1
          have hLl : L.length = 5 := by rw [hL]; rfl
          have hLs : L.toArray.size = 5 := (List.size_toArray).trans hLl
          have HQ1 := Lib.hid q1
          have HT : Hid (wr.there (w.heap.size + 1) 0 L.toArray.size) := Lib.hid (by rw [hLs]; exact q2)
          have HS : Hid ((wr.setCells (w.heap.size + 1) 0 L).rangeAt (w.heap.size + 1) 0 L) := Lib.hid (World.rangeAt_setCells_same wr (w.heap.size + 1) 0 L (by rw [hLl]; exact q2))
          have HI : Hid ((Try.prog.info? 91).map (·.size) = some L.toArray.size) := Lib.hid (by rw [hLs]; exact size87)
          have HJ : Hid ((Try.prog.info? 91).map (·.size) = some L.length) := Lib.hid (by rw [hLl]; exact size87)
          have HC : Hid (L.toArray.all (·.oneCell') = true) := Lib.hid (by rw [hL]; exact cells_one _)
          have HB := Lib.hid bm.bel
          have HL := Lib.hid hL
          clear q1 q2 hLl hLs hL bm hlt hk
          go_wp2_with ((with_reducible refine wpList_load_mid (op := ⟨some 69, _, _, _, _, _⟩) rfl 91 (.tmp 5) rfl (w.heap.size + 1 + 1) 0 ?_ L _ HQ1.out Try.underlying91 rfl HJ.out ?_); rfl; refine wpList_store_mid rfl 91 (.tmp 4) (.tmp 69) rfl (w.heap.size + 1) 0 L.toArray rfl rfl HT.out HI.out HC.out ?_)
          refine bodyPost_ret (v := .agg L.toArray) ?_ rfl ?_
          · exact results_cell1 (p := 4) (ty := 91) rfl _ _ (w.heap.size + 1) 0 L _ rfl (by simpa using HS.out) Try.underlying91 rfl HJ.out
          · exact ⟨by rw [HAF.out, HL.out], by simpa using below_cells (by omega) L 0 wr HB.out⟩
end Go.Proofs.Ytjiiignbejbiiaa
