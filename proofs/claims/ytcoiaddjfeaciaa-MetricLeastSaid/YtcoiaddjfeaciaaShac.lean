/- Contract of the processing of a block of package sha. Conditions: a block has 64 bytes. -/
import Derived.Test.YtcoiaddjfeaciaaGc
import Derived.Deep.DeepCutAuto
namespace Go.Proofs.Ytcoiaddjfeaciaa
set_option maxRecDepth 100000
open Go.RowKit
set_option linter.unusedVariables false

/-- The memory of the processing: the first words, the result, and the three words that the closure sees. -/
def AftMem (w : World) (s0 s1 s2 s3 s4 b c d : Int) (gb gc gd : Nat) (W : World) : Prop :=
  W.heap[gb]? = some (.cells #[.int .u32 b] 86 (0, 0)) ∧ W.heap[gc]? = some (.cells #[.int .u32 c] 86 (0, 0)) ∧ W.heap[gd]? = some (.cells #[.int .u32 d] 86 (0, 0)) ∧ gb ≠ gc ∧ gb ≠ gd ∧ gc ≠ gd ∧
  W.heap[w.heap.size]? = some (.cells #[.int .u32 s0, .int .u32 s1, .int .u32 s2, .int .u32 s3, .int .u32 s4] 90 (0, 0)) ∧ W.heap[w.heap.size + 1]? = some (.cells #[.int .u32 0, .int .u32 0, .int .u32 0, .int .u32 0, .int .u32 0] 90 (0, 0)) ∧
  w.heap.size + 2 ≤ gb ∧ w.heap.size + 2 ≤ gc ∧ w.heap.size + 2 ≤ gd ∧ Below w.heap.size w W

theorem heap5 (w : World) (a b x y z : Obj) :
    (((((w.alloc a).alloc b).alloc x).alloc y).alloc z).heap[w.heap.size]? = some a ∧ (((((w.alloc a).alloc b).alloc x).alloc y).alloc z).heap[w.heap.size + 1]? = some b ∧
    (((((w.alloc a).alloc b).alloc x).alloc y).alloc z).heap[w.heap.size + 1 + 1]? = some x ∧ (((((w.alloc a).alloc b).alloc x).alloc y).alloc z).heap[w.heap.size + 1 + 1 + 1]? = some y ∧
    (((((w.alloc a).alloc b).alloc x).alloc y).alloc z).heap[w.heap.size + 1 + 1 + 1 + 1]? = some z ∧ Below w.heap.size w (((((w.alloc a).alloc b).alloc x).alloc y).alloc z) := by
  refine ⟨?_, ?_, ?_, ?_, ?_, ((((((Below.refl _ w).alloc (Nat.le_refl _) _).alloc (by simp) _).alloc (by simp; omega) _).alloc (by simp; omega) _).alloc (by simp; omega) _)⟩
  all_goals
    show (((((w.heap.push a).push b).push x).push y).push z)[_]? = _
    simp only [Array.getElem?_push, Array.size_push]
    repeat (first | rw [if_pos trivial] | rw [if_pos (by omega)] | rw [if_neg (by omega)])

theorem info75 : (Try.prog.info? 86).map (fun i => (i.zero, i.size, i.bytes)) = some (some (.int .u32 0), 1, 4) := by kernel_rfl
theorem run_index80 (xs : List UInt8) (j : Nat) (hj : j < 80) (W : World) : (Instr.index 119 (.agg (sch80 xs).toArray) (.int .i64 (j : Int))).run Try.prog W = .ok (.int .u32 ((schI xs 80).getD j 0)) W := by
  have hl : j < (schI xs 80).length := by rw [schI_length]; exact hj
  have hi : (0 : Int) ≤ (j : Int) ∧ (j : Int) < ((80 : Nat) : Int) := by omega
  have hp : (part 86 (sch80 xs).toArray j).run Try.prog W = .ok (.int .u32 ((schI xs 80)[j]?.getD 0)) W := by
    have ha : (isAgg 86).run Try.prog W = .ok false W := by kernel_rfl
    simp [part, ha, sch80, ucells, List.getElem?_eq_getElem hl]
  obtain ⟨i0, hi0, hz0, hz1, hz2⟩ := info_parts info75
  simp [Instr.index, asIntOf, run_underlying Try.underlying119, hj, sizeOf, typeInfo, hi0, hz1, hp]

theorem AftMem.set {w W : World} {s0 s1 s2 s3 s4 b c d : Int} {gb gc gd : Nat} (h : AftMem w s0 s1 s2 s3 s4 b c d gb gc gd W) (b' c' d' : Int) :
    AftMem w s0 s1 s2 s3 s4 b' c' d' gb gc gd (((W.setCell ⟨gb, 0, none⟩ (.int .u32 b')).setCell ⟨gc, 0, none⟩ (.int .u32 c')).setCell ⟨gd, 0, none⟩ (.int .u32 d')) := by
  obtain ⟨m1, m2, m3, n1, n2, n3, m4, m5, l1, l2, l3, hb⟩ := h
  have far : ∀ k, k ≠ gb → k ≠ gc → k ≠ gd → (((W.setCell ⟨gb, 0, none⟩ (.int .u32 b')).setCell ⟨gc, 0, none⟩ (.int .u32 c')).setCell ⟨gd, 0, none⟩ (.int .u32 d')).heap[k]? = W.heap[k]? := fun k h1 h2 h3 => by
    rw [Below.heap_setCell _ _ _ _ h3, Below.heap_setCell _ _ _ _ h2, Below.heap_setCell _ _ _ _ h1]
  refine ⟨?_, ?_, ?_, n1, n2, n3, (far _ (by omega) (by omega) (by omega)).trans m4, (far _ (by omega) (by omega) (by omega)).trans m5, l1, l2, l3, ((hb.setCell (by simp; omega) _).setCell (by simp; omega) _).setCell (by simp; omega) _⟩
  · rw [Below.heap_setCell _ _ _ _ n2, Below.heap_setCell _ _ _ _ n1]
    have := heap_setCell_same W gb 0 _ 86 (.int .u32 b') m1
    simpa using this
  · rw [Below.heap_setCell _ _ _ _ n3]
    have := heap_setCell_same (W.setCell ⟨gb, 0, none⟩ (.int .u32 b')) gc 0 _ 86 (.int .u32 c') ((Below.heap_setCell W ⟨gb, 0, none⟩ (.int .u32 b') gc (Ne.symm n1)).trans m2)
    simpa using this
  · have := heap_setCell_same ((W.setCell ⟨gb, 0, none⟩ (.int .u32 b')).setCell ⟨gc, 0, none⟩ (.int .u32 c')) gd 0 _ 86 (.int .u32 d') (by
      rw [Below.heap_setCell _ _ _ _ (Ne.symm n3), Below.heap_setCell _ _ _ _ (Ne.symm n2)]
      exact m3)
    simpa using this
theorem AftMem.drew {w W : World} {s0 s1 s2 s3 s4 b c d : Int} {gb gc gd : Nat} (h : AftMem w s0 s1 s2 s3 s4 b c d gb gc gd W) : AftMem w s0 s1 s2 s3 s4 b c d gb gc gd W.drew := by
  obtain ⟨m1, m2, m3, n1, n2, n3, m4, m5, l1, l2, l3, hb⟩ := h
  exact ⟨m1, m2, m3, n1, n2, n3, m4, m5, l1, l2, l3, hb.drew⟩
theorem AftMem.below {w W W' : World} {s0 s1 s2 s3 s4 b c d : Int} {gb gc gd B : Nat} (h : AftMem w s0 s1 s2 s3 s4 b c d gb gc gd W) (hbl : Below B W W') (hB : W.heap.size ≤ B) : AftMem w s0 s1 s2 s3 s4 b c d gb gc gd W' := by
  obtain ⟨m1, m2, m3, n1, n2, n3, m4, m5, l1, l2, l3, hb⟩ := h
  have lt : ∀ {k : Nat} {o : Obj}, W.heap[k]? = some o → W'.heap[k]? = some o := fun {k o} hk => (hbl.block k (Nat.lt_of_lt_of_le (Array.getElem?_eq_some_iff.1 hk).1 hB)).trans hk
  exact ⟨lt m1, lt m2, lt m3, n1, n2, n3, lt m4, lt m5, l1, l2, l3, hb.trans (hbl.mono (by have := hb.size; omega))⟩

/-- The five words behind j words of a block. -/
structure V5 where
  a : Int
  b : Int
  c : Int
  d : Int
  e : Int
def xI (xs : List UInt8) (j : Nat) (v : V5) : Int := (rot5 v.a + fI j v.b v.c v.d + v.e + (schI xs 80).getD j 0 + kI j) % 4294967296
def cmpI (xs : List UInt8) (v : V5) : Nat → V5
  | 0 => v
  | j + 1 => ⟨xI xs j (cmpI xs v j), (cmpI xs v j).a, rot30 (cmpI xs v j).b, (cmpI xs v j).c, (cmpI xs v j).d⟩
/-- The five words behind a block. -/
def aftI (xs : List UInt8) (v : V5) : V5 := ⟨(v.a + (cmpI xs v 80).a) % 4294967296, (v.b + (cmpI xs v 80).b) % 4294967296, (v.c + (cmpI xs v 80).c) % 4294967296, (v.d + (cmpI xs v 80).d) % 4294967296, (v.e + (cmpI xs v 80).e) % 4294967296⟩
def V5.cells (v : V5) : List Value := [.int .u32 v.a, .int .u32 v.b, .int .u32 v.c, .int .u32 v.d, .int .u32 v.e]
theorem size77 : (Try.prog.info? 90).map (·.size) = some 5 := by kernel_rfl
def AftRel (w : World) (xs : List UInt8) (v : V5) (gb gc gd : Nat) (v5 v9 i : Value) (wr : World) : Prop :=
  ∃ j : Nat, j ≤ 80 ∧ i = .int .i64 (j : Int) ∧ v5 = .int .u32 (cmpI xs v j).a ∧ v9 = .int .u32 (cmpI xs v j).e ∧ AftMem w v.a v.b v.c v.d v.e (cmpI xs v j).b (cmpI xs v j).c (cmpI xs v j).d gb gc gd wr

set_option maxRecDepth 100000 in
set_option maxHeartbeats 8000000 in
theorem after_any (A : Option Addr) (c : Nat) (xs : List UInt8) (s0 s1 s2 s3 s4 : Int) (w : World) (hx : BAt w w.heap.size A xs) (hl : xs.length = 64) :
    Calls Try.prog 77 #[.agg #[.int .u32 s0, .int .u32 s1, .int .u32 s2, .int .u32 s3, .int .u32 s4], .slice A 64 c] w fun e w' => e = .returned (.agg (aftI xs ⟨s0, s1, s2, s3, s4⟩).cells.toArray) ∧ Below w.heap.size w w' := by
  go_enter Try.func77, Try.ntmps77
  go_upto_region 1 with fail
  go_cut [5, 6, 7, 8, 9] (fun v5 v6 v7 v8 v9 wx => ∃ gb gc gd : Nat, v5 = .int .u32 s0 ∧ v6 = .pointer (some ⟨gb, 0, none⟩) ∧ v7 = .pointer (some ⟨gc, 0, none⟩) ∧ v8 = .pointer (some ⟨gd, 0, none⟩) ∧ v9 = .int .u32 s4 ∧ AftMem w s0 s1 s2 s3 s4 s1 s2 s3 gb gc gd wx)
  case first =>
    go_region_held3 (fun w' => w'.cell? ⟨w.heap.size, 0, none⟩ = some (.int .u32 s0) ∧ w'.cell? ⟨w.heap.size, 1, none⟩ = some (.int .u32 s1) ∧ w'.cell? ⟨w.heap.size, 2, none⟩ = some (.int .u32 s2) ∧ w'.cell? ⟨w.heap.size, 3, none⟩ = some (.int .u32 s3) ∧ w'.cell? ⟨w.heap.size, 4, none⟩ = some (.int .u32 s4)) (first | (refine ⟨?_, ?_, ?_, ?_, ?_⟩ <;> go_simp)) (fail)
    all_goals go_wp2_with fail
    all_goals go_meet
    all_goals
      refine ⟨_, _, _, rfl, rfl, rfl, rfl, rfl, ?_⟩
      obtain ⟨q1, q2, q3, q4, q5, q6⟩ := heap5 w (.cells #[.int .u32 s0, .int .u32 s1, .int .u32 s2, .int .u32 s3, .int .u32 s4] 90) (.cells #[.int .u32 0, .int .u32 0, .int .u32 0, .int .u32 0, .int .u32 0] 90) _ _ _
      first
        | exact ⟨q3, q4, q5, by omega, by omega, by omega, q1, q2, by omega, by omega, by omega, q6.drew⟩
        | exact ⟨q3, q5, q4, by omega, by omega, by omega, q1, q2, by omega, by omega, by omega, q6.drew⟩
        | exact ⟨q4, q3, q5, by omega, by omega, by omega, q1, q2, by omega, by omega, by omega, q6.drew⟩
        | exact ⟨q4, q5, q3, by omega, by omega, by omega, q1, q2, by omega, by omega, by omega, q6.drew⟩
        | exact ⟨q5, q3, q4, by omega, by omega, by omega, q1, q2, by omega, by omega, by omega, q6.drew⟩
        | exact ⟨q5, q4, q3, by omega, by omega, by omega, q1, q2, by omega, by omega, by omega, q6.drew⟩
  case rest =>
    obtain ⟨gb, gc, gd, rfl, rfl, rfl, rfl, rfl, hm⟩ := hcut
    have hbw : Below w.heap.size w wc := hm.2.2.2.2.2.2.2.2.2.2.2
    have hS := sch_any A c xs wc ((hx.below hbw).more hbw.size) hl
    clear hbw
    have HS := Lib.hid hS
    have HM := Lib.hid hm
    clear hS hm hx hl
    go_wp2_with (go_at_call 91; refine (HS.out).mono ?_; rintro e w1 ⟨rfl, hb1⟩)
    have R0 : AftRel w xs ⟨s0, s1, s2, s3, s4⟩ gb gc gd (.int .u32 s0) (.int .u32 s4) (.int .i64 0) w1 := by
      exact ⟨0, by omega, rfl, rfl, rfl, HM.out.below hb1 (Nat.le_refl _)⟩
    have HR0 := Lib.hid R0
    clear R0 HM
    go_loopw [5, 9, 29] (AftRel w xs ⟨s0, s1, s2, s3, s4⟩ gb gc gd) (fun _ _ i _ => 80 - (intOf i).toNat)
    case atStart => exact HR0.out
    case round =>
      obtain ⟨j, hj, rfl, rfl, rfl, hm⟩ := hrel
      clear HR0
      by_cases hlt : j < 80
      · have hidx := fun W => run_index80 xs j hlt W
        have m := hm
        obtain ⟨m1, m2, m3, n1, n2, n3, m4, m5, l1, l2, l3, hb⟩ := m
        have cb := cell_of_one m1
        have cc := cell_of_one m2
        have cd := cell_of_one m3
        have fb := free_of_one m1
        have fc := free_of_one m2
        have fd := free_of_one m3
        have HM := Lib.hid hm
        clear hm m1 m2 m3 m4 m5 hb
        have R : ∀ V W, cmpI xs ⟨s0, s1, s2, s3, s4⟩ j = V → AftMem w s0 s1 s2 s3 s4 V.a (rot30 V.b) V.c gb gc gd W → AftRel w xs ⟨s0, s1, s2, s3, s4⟩ gb gc gd (.int .u32 (xI xs j V)) (.int .u32 V.d) (.int .i64 ((j : Int) + 1)) W := by
          rintro V W rfl q
          exact ⟨j + 1, by omega, by go_num, rfl, rfl, q⟩
        have HR := Lib.hid R
        clear R
        generalize hv : cmpI xs ⟨s0, s1, s2, s3, s4⟩ j = V at cb cc cd HM ⊢
        have HV := Lib.hid hv
        clear hv
        obtain ⟨va, vb, vc, vd, ve⟩ := V
        have HR2 := Lib.hid (fun W => HR.out _ W HV.out)
        unfold xI at HR2
        clear HR HV
        generalize (schI xs 80).getD j 0 = wd at hidx HR2
        go_upto_region 8 with (first
          | (go_at_call 90; refine (clo_any j vb vc vd gb gc gd _ hlt cb cc cd).mono ?_; rintro e w2 ⟨rfl, rfl⟩)
          | (go_at_call 92; refine (rot5_any _ _).mono ?_; rintro e w2 ⟨rfl, rfl⟩))
        go_region_with (first
          | (go_at_call 92; refine (rot30_any _ _).mono ?_; rintro e w2 ⟨rfl, rfl⟩))
        all_goals
          go_wp2
          go_roundw
          case rel => exact HR2.out _ (HM.out.set va (rot30 vb) vc).drew
          case measure => simp [intOf]; omega
      · obtain rfl : j = 80 := by omega
        obtain ⟨m1, m2, m3, n1, n2, n3, m4, m5, l1, l2, l3, hb⟩ := hm
        have cb := cell_of_one m1
        have cc := cell_of_one m2
        have cd := cell_of_one m3
        have c0 := cell_of_row wr w.heap.size 0 _ 90 (0, 0) m4
        have c1 := cell_of_row wr w.heap.size 1 _ 90 (0, 0) m4
        have c2 := cell_of_row wr w.heap.size 2 _ 90 (0, 0) m4
        have c3 := cell_of_row wr w.heap.size 3 _ 90 (0, 0) m4
        have c4 := cell_of_row wr w.heap.size 4 _ 90 (0, 0) m4
        have r0 := cell_of_row wr (w.heap.size + 1) 0 _ 90 (0, 0) m5
        have r1 := cell_of_row wr (w.heap.size + 1) 1 _ 90 (0, 0) m5
        have r2 := cell_of_row wr (w.heap.size + 1) 2 _ 90 (0, 0) m5
        have r3 := cell_of_row wr (w.heap.size + 1) 3 _ 90 (0, 0) m5
        have r4 := cell_of_row wr (w.heap.size + 1) 4 _ 90 (0, 0) m5
        have fr := fun i => frozen_of_row wr (w.heap.size + 1) i _ 90 m5
        simp at c0 c1 c2 c3 c4 r0 r1 r2 r3 r4
        have HB := Lib.hid hb
        have M5 := Lib.hid m5
        clear m1 m2 m3 m4 m5 hb hlt hj
        go_wp2
        refine bodyPost_ret (v := .agg (aftI xs ⟨s0, s1, s2, s3, s4⟩).cells.toArray) ?_ rfl ⟨rfl, ?_⟩
        · have z0 := heap_setCell_same wr (w.heap.size + 1) 0 _ 90 (.int .u32 ((s0 + (cmpI xs ⟨s0, s1, s2, s3, s4⟩ 80).a) % 4294967296)) M5.out
          have z1 := heap_setCell_same _ (w.heap.size + 1) 1 _ 90 (.int .u32 ((s1 + (cmpI xs ⟨s0, s1, s2, s3, s4⟩ 80).b) % 4294967296)) z0
          have z2 := heap_setCell_same _ (w.heap.size + 1) 2 _ 90 (.int .u32 ((s2 + (cmpI xs ⟨s0, s1, s2, s3, s4⟩ 80).c) % 4294967296)) z1
          have z3 := heap_setCell_same _ (w.heap.size + 1) 3 _ 90 (.int .u32 ((s3 + (cmpI xs ⟨s0, s1, s2, s3, s4⟩ 80).d) % 4294967296)) z2
          have z4 := heap_setCell_same _ (w.heap.size + 1) 4 _ 90 (.int .u32 ((s4 + (cmpI xs ⟨s0, s1, s2, s3, s4⟩ 80).e) % 4294967296)) z3
          refine results_cell1 (p := 4) (ty := 90) rfl _ _ (w.heap.size + 1) 0 (aftI xs ⟨s0, s1, s2, s3, s4⟩).cells _ rfl (fun i v hv => ?_) Try.underlying90 rfl size77
          rw [Nat.zero_add, cell_of_row _ _ i _ 90 (0, 0) z4]
          simpa [aftI, V5.cells] using hv
        · exact ((((HB.out.setCell (by simp) _).setCell (by simp) _).setCell (by simp) _).setCell (by simp) _).setCell (by simp) _
end Go.Proofs.Ytcoiaddjfeaciaa
