/- Contracts of firstWords, New, isMade and id of package sha. No condition. -/
import Derived.Test.YtcoiaddjfeaciaaShag
import Derived.Great.BuildSlice
namespace Go.Proofs.Ytcoiaddjfeaciaa
set_option maxRecDepth 100000
open Go.RowKit Go.Great
set_option linter.unusedVariables false
set_option linter.unusedSimpArgs false

set_option maxRecDepth 100000 in
theorem firstWords_any (w : World) : Calls Try.prog 59 #[] w fun e w' => e = .returned (.agg #[.int .u32 1732584193, .int .u32 4023233417, .int .u32 2562383102, .int .u32 271733878, .int .u32 3285377520]) ∧ Below w.heap.size w w' := by
  go_enter Try.func59, Try.ntmps59
  go_wp2
  refine bodyPost_ret (v := .agg #[.int .u32 1732584193, .int .u32 4023233417, .int .u32 2562383102, .int .u32 271733878, .int .u32 3285377520]) ?_ rfl ⟨rfl, ?_⟩
  · refine results_cell1 (p := 0) (ty := 90) rfl _ _ w.heap.size 0 [.int .u32 1732584193, .int .u32 4023233417, .int .u32 2562383102, .int .u32 271733878, .int .u32 3285377520] _ rfl (fun i v hv => ?_) Try.underlying90 rfl size77
    rw [Nat.zero_add, cell_of_row _ _ i _ 90 (0, 0) (heap_alloc_new w _)]
    simpa using hv
  · exact (Below.refl _ w).alloc (Nat.le_refl _) _

theorem built80 : Try.prog.built 94 [(0, .bool true), (1, .agg #[.int .u32 1732584193, .int .u32 4023233417, .int .u32 2562383102, .int .u32 271733878, .int .u32 3285377520])] = some (hcells V0 (List.replicate 64 0) 0).toArray := by kernel_rfl
theorem built80n : Try.prog.built 94 [] = some (.bool false :: (V5.cells ⟨0, 0, 0, 0, 0⟩ ++ (bcells (List.replicate 64 0) ++ [.int .u64 0]))).toArray := by kernel_rfl

theorem zero80 (W : World) : (zeroValue 94).run Try.prog W = .ok (.agg (.bool false :: .int .u32 0 :: .int .u32 0 :: .int .u32 0 :: .int .u32 0 :: .int .u32 0 :: (bcells (List.replicate 64 0) ++ [.int .u64 0])).toArray) W := by
  have hi : (Try.prog.info? 94).bind (·.zero) = some (.agg (.bool false :: .int .u32 0 :: .int .u32 0 :: .int .u32 0 :: .int .u32 0 :: .int .u32 0 :: (bcells (List.replicate 64 0) ++ [.int .u64 0])).toArray) := by kernel_rfl
  cases h : Try.prog.info? 94 with
  | none => simp [h] at hi
  | some i =>
    rw [h] at hi
    simp only [Option.bind_some] at hi
    simp [zeroValue, typeInfo, h, hi]

set_option maxRecDepth 100000 in
theorem new_any (w : World) : Calls Try.prog 17 #[] w fun e w' => ∃ g, e = .returned (.pointer (some ⟨g, 0, none⟩)) ∧ w.heap.size ≤ g ∧ HashOf w' g [] ∧ Below w.heap.size w w' := by
  obtain ⟨R, hR⟩ : ∃ R, R = bcells (List.replicate 64 0) ++ [.int .u64 0] := ⟨_, rfl⟩
  have hz := fun W => zero80 W
  rw [← hR] at hz
  have HR := Lib.hid hR
  clear hR
  go_enter Try.func17, Try.ntmps17
  go_wp2_with (go_at_call 59; refine (firstWords_any _).mono ?_; rintro e w1 ⟨rfl, hb1⟩)
  go_ret
  refine ⟨_, rfl, hb1.size, first_of ?_, hb1.alloc hb1.size _⟩
  rw [HR.out]
  exact heap_alloc_new w1 _

theorem isMade_yes (w : World) (g : Nat) (h : w.cell? ⟨g, 0, none⟩ = some (.bool true)) : Calls Try.prog 60 #[.pointer (some ⟨g, 0, none⟩)] w fun e w' => e = .returned (.bool true) ∧ w = w' := by
  go_enter Try.func60, Try.ntmps60
  go_wp2
  go_ret
  exact ⟨rfl, rfl⟩

/-- The bytes of the words. -/
def nW (x : Int) : Nat := (x % 18446744073709551616).toNat
theorem nW_lt (x : Int) : nW x < 18446744073709551616 := by unfold nW; omega
theorem nW_wrap (x : Int) : IntKind.u64.wrap x = (nW x : Int) := by rw [IntKind.wrap_u64]; unfold nW; omega
def wAt (v : V5) : Nat → Int
  | 0 => v.a
  | 1 => v.b
  | 2 => v.c
  | 3 => v.d
  | _ => v.e
def idJ (v : V5) : Nat → List UInt8
  | 0 => []
  | j + 1 => idJ v j ++ putB (nW (wAt v j)) 4
theorem idJ_length (v : V5) : ∀ j, (idJ v j).length = 4 * j
  | 0 => rfl
  | j + 1 => by rw [idJ, List.length_append, idJ_length v j, putB_length]; omega
def idI (v : V5) : List UInt8 := idJ v 5
theorem idI_length (v : V5) : (idI v).length = 20 := idJ_length v 5
theorem size61 : (Try.prog.info? 26).map (·.size) = some 20 := by kernel_rfl
theorem under61 : Try.prog.underlying 26 = some (.array (Try.prog.arrayLen 26) (Try.prog.elem 26)) := by kernel_rfl
set_option maxRecDepth 100000 in
theorem zero61 (W : World) : (zeroValue 26).run Try.prog W = .ok (.agg (bcells (List.replicate 20 0)).toArray) W := by
  have hi : (Try.prog.info? 26).bind (·.zero) = some (.agg (bcells (List.replicate 20 0)).toArray) := by kernel_rfl
  cases h : Try.prog.info? 26 with
  | none => simp [h] at hi
  | some i =>
    rw [h] at hi
    simp only [Option.bind_some] at hi
    simp [zeroValue, typeInfo, h, hi]
theorem len61 : Try.prog.arrayLen 26 = 20 := by kernel_rfl
theorem run_id_all (g : Nat) (W : World) : (Instr.sliceAt 26 (.pointer (some ⟨g, 0, none⟩)) none none none).run Try.prog W = .ok (.slice (some ⟨g, 0, none⟩) 20 20) W := by
  have hl := len61
  have hs : (sizeOf (Try.prog.elem 26)).run Try.prog W = .ok 1 W := by
    obtain ⟨i0, hi, hz0, hz1, hz2⟩ := info_parts info5
    have : Try.prog.elem 26 = 5 := by kernel_rfl
    rw [this]
    simp [sizeOf, typeInfo, hi, hz1]
  rw [run_sliceAt_array_all W 26 ⟨g, 0, none⟩ under61, hs]
  have e : (⟨g, 0, none⟩ : Addr).add 0 = ⟨g, 0, none⟩ := Addr.add_mid g 0 0
  simp [Result.andThen, slicedAt, hl, e]

theorem run_index5 (v : V5) (j : Nat) (hj : j < 5) (W : World) : (Instr.index 90 (.agg #[.int .u32 v.a, .int .u32 v.b, .int .u32 v.c, .int .u32 v.d, .int .u32 v.e]) (.int .i64 (j : Int))).run Try.prog W = .ok (.int .u32 (wAt v j)) W := by
  obtain ⟨i0, hi0, hz1⟩ : ∃ i0, Try.prog.info? 86 = some i0 ∧ i0.size = 1 := by
    have h : (Try.prog.info? 86).map (·.size) = some 1 := by kernel_rfl
    cases hi : Try.prog.info? 86 with
    | none => rw [hi] at h; cases h
    | some i => exact ⟨i, rfl, by rw [hi] at h; simpa using h⟩
  have ha : (isAgg 86).run Try.prog W = .ok false W := by kernel_rfl
  match j, hj with
  | 0, _ => simp [Instr.index, asIntOf, run_underlying Try.underlying90, sizeOf, typeInfo, hi0, hz1, wAt, part, ha]
  | 1, _ => simp [Instr.index, asIntOf, run_underlying Try.underlying90, sizeOf, typeInfo, hi0, hz1, wAt, part, ha]
  | 2, _ => simp [Instr.index, asIntOf, run_underlying Try.underlying90, sizeOf, typeInfo, hi0, hz1, wAt, part, ha]
  | 3, _ => simp [Instr.index, asIntOf, run_underlying Try.underlying90, sizeOf, typeInfo, hi0, hz1, wAt, part, ha]
  | 4, _ => simp [Instr.index, asIntOf, run_underlying Try.underlying90, sizeOf, typeInfo, hi0, hz1, wAt, part, ha]

def IdRel (w0 : World) (v : V5) (t i : Value) (wr : World) : Prop :=
  ∃ (j : Nat) (ys : List UInt8) (A : Option Addr) (c : Nat), j ≤ 5 ∧ i = .int .i64 (j : Int) ∧ t = .slice A ys.length c ∧ Hid (ys = idJ v j) ∧ OwnS w0 wr A c ys ∧ Below w0.heap.size w0 wr

set_option maxRecDepth 100000 in
theorem id_any (v : V5) (w : World) : Calls Try.prog 61 #[.agg #[.int .u32 v.a, .int .u32 v.b, .int .u32 v.c, .int .u32 v.d, .int .u32 v.e]] w fun e w' => e = .returned (.agg (bcells (idI v)).toArray) ∧ Below w.heap.size w w' := by
  have hz := fun W => zero61 W
  obtain ⟨Z, hZ⟩ : ∃ Z, Z = bcells (List.replicate 20 0) := ⟨_, rfl⟩
  rw [← hZ] at hz
  have HZ := Lib.hid hZ
  clear hZ
  have hsl := fun g W => run_id_all g W
  go_enter Try.func61, Try.ntmps61
  go_wp2
  obtain ⟨w0, hw0⟩ : ∃ w0, w0 = (w.alloc (.cells #[.int .u32 v.a, .int .u32 v.b, .int .u32 v.c, .int .u32 v.d, .int .u32 v.e] 90)).alloc (.cells Z.toArray 26) := ⟨_, rfl⟩
  rw [← hw0]
  have HW0 := Lib.hid hw0
  clear hw0
  go_loopw [3, 8] (IdRel w0 v) (fun _ i _ => 5 - (intOf i).toNat)
  case atStart => exact ⟨0, [], none, 0, Nat.zero_le _, rfl, rfl, rfl, World.ownsRow_nil _ _ _ _, Below.refl _ _⟩
  case round =>
    obtain ⟨j, ys, A, c, hj, rfl, rfl, hys, hown, hbl⟩ := hrel
    by_cases hlt : j < 5
    · have hlen : ys.length ≤ 20 := by rw [hys.out, idJ_length]; omega
      have hP := put_sl hown hbl.size (nW (wAt v j)) 4 (by omega) (nW_lt _) (by omega) (by omega)
      rw [← nW_wrap] at hP
      have R : ∀ A1 c1 ys' w', Hid (ys' = ys ++ putB (nW (wAt v j)) 4) → OwnS w0 w' A1 c1 ys' → Below wr.heap.size wr w' → IdRel w0 v (.slice A1 ys'.length c1) (.int .i64 ((j : Int) + 1)) w' := fun A1 c1 ys' w' q1 q2 q3 =>
        ⟨j + 1, ys', A1, c1, by omega, by go_num, rfl, Lib.hid (by rw [q1.out, hys.out]; rfl), q2, hbl.trans (q3.mono hbl.size)⟩
      have HP := Lib.hid hP
      have HR := Lib.hid R
      clear hP R hys hown hbl hj
      have hidx := fun W => run_index5 v j hlt W
      go_wp2_with (go_at_call 58; refine (HP.out).mono ?_; rintro e w2 ⟨A1', c1', ys', rfl, q1, q2, q3⟩)
      go_roundw
      case rel => exact HR.out _ _ _ _ q1 q2 q3
      case measure => simp [intOf]; omega
    · obtain rfl : j = 5 := by omega
      have hyl : ys.length = 20 := by rw [hys.out, idJ_length]
      have hid : bcells ys = bcells (idI v) := by rw [hys.out]; rfl
      have hbl' : (bcells ys).length = 20 := by rw [bcells_length, hyl]
      have hZl : Z.length = 20 := by rw [HZ.out, bcells_length, List.length_replicate]
      have hw1 : w.heap.size + 1 < w0.heap.size := by rw [HW0.out]; simp
      have hr0 : w0.heap[w.heap.size + 1]? = some (.cells Z.toArray 26 (0, 0)) := by
        rw [HW0.out]
        have := heap_alloc_new (w.alloc (.cells #[.int .u32 v.a, .int .u32 v.b, .int .u32 v.c, .int .u32 v.d, .int .u32 v.e] 90)) (.cells Z.toArray 26)
        simpa using this
      have hb0 : Below w.heap.size w w0 := by rw [HW0.out]; exact ((Below.refl _ w).alloc (Nat.le_refl _) _).alloc (by simp) _
      have hsp : splice Z 0 (bcells ys) = bcells ys := by
        unfold splice
        rw [List.take_zero, Nat.zero_add, List.drop_eq_nil_of_le (by omega)]
        simp
      have R : ∀ w2, w2.heap[wr.heap.size]? = some (.cells (splice Z 0 (bcells ys)).toArray 26 (0, 0)) → (wr.alloc (.cells Z.toArray 26)).grownBy w2 (some wr.heap.size) →
          w2.rangeAt wr.heap.size 0 (bcells (idI v)) ∧ w2.there (w.heap.size + 1) 0 20 ∧ Below w.heap.size w w2 := by
        intro w2 h2 g2
        rw [hsp, hid] at h2
        have hB : Below w0.heap.size w0 w2 := (hbl.alloc hbl.size _).grown g2 (by have := hbl.size; simp; omega) (fun k hk => by have := hbl.size; simp at hk; omega)
        refine ⟨fun i u hu => ?_, fun i hi => ?_, hb0.trans (hB.mono hb0.size)⟩
        · rw [Nat.zero_add, cell_of_row w2 _ i _ 26 (0, 0) h2]
          simpa using hu
        · have hr2 := (hB.block _ hw1).trans hr0
          rw [Nat.zero_add, cell_of_row w2 _ i _ 26 (0, 0) hr2, frozen_of_row w2 _ i _ 26 hr2]
          exact ⟨by simp; omega, rfl⟩
      have HR := Lib.hid R
      have HN : Hid ((bcells ys).length = Nat.min 20 20) := Lib.hid (by rw [hbl']; rfl)
      have HP : Hid (0 < (bcells ys).length → ∃ ad, A = some ad ∧ ∀ j u, (bcells ys)[j]? = some u → (wr.alloc (.cells Z.toArray 26)).cell? (ad.add j) = some u) := Lib.hid (((hown.below ((Below.refl _ wr).alloc (Nat.le_refl _) _) (Nat.le_refl _)).bat).cells)
      have HF : Hid (0 + (bcells ys).length ≤ Z.length) := Lib.hid (by omega)
      have HI : Hid ((bcells (idI v)).length = 20) := Lib.hid (by rw [← hid]; exact hbl')
      have HL : Hid ((bcells ys).length = 20) := Lib.hid hbl'
      have HA : Hid ((wr.alloc (.cells Z.toArray 26)).heap[wr.heap.size]? = some (.cells Z.toArray 26 (0, 0))) := Lib.hid (heap_alloc_new wr _)
      have hI := HI.out
      have HS1 : Hid ((Try.prog.info? 26).map (·.size) = some (bcells (idI v)).length) := Lib.hid (by rw [hI]; exact size61)
      have HS2 : Hid ((Try.prog.info? 26).map (·.size) = some (bcells (idI v)).toArray.size) := Lib.hid (by rw [List.size_toArray, hI]; exact size61)
      have HT : Hid (∀ w2 : World, w2.there (w.heap.size + 1) 0 20 → w2.there (w.heap.size + 1) 0 (bcells (idI v)).toArray.size) := Lib.hid (fun w2 h => by rw [show (bcells (idI v)).toArray.size = 20 from (List.size_toArray).trans hI]; exact h)
      rw [hyl]
      clear hj hlt hys hown hbl hyl hid hbl' hZl hw1 hr0 hb0 hsp R hI
      go_wp2_with (first
        | ((with_reducible refine wpList_copy_row (o := ⟨some 18, _, _, _, _, _⟩) rfl (.tmp 16) (.tmp 17) 22 22 rfl 5 Try.underlying22 ?_ (some ⟨wr.heap.size, 0, none⟩) A 20 20 20 c ?_ ?_ wr.heap.size 0 _ 26 HA.out _ HN.out (fun hp => ⟨rfl, HP.out hp⟩) HF.out (bcells_one _) ?_); kernel_rfl; rfl; rfl; intro w2 q1 q2; have HQ := Lib.hid (HR.out w2 q1 q2); clear q1 q2; rw [HL.out])
        | ((with_reducible refine wpList_load_mid (op := ⟨some 19, _, _, _, _, _⟩) rfl 26 (.tmp 6) rfl wr.heap.size 0 ?_ (bcells (idI v)) _ HQ.out.1 Try.underlying26 rfl HS1.out ?_); rfl; refine wpList_store_mid rfl 26 (.tmp 2) (.tmp 19) rfl (w.heap.size + 1) 0 (bcells (idI v)).toArray rfl rfl (HT.out _ HQ.out.2.1) HS2.out (all_oneCell_toArray (bcells_one _)) ?_))
      refine bodyPost_ret (v := .agg (bcells (idI v)).toArray) ?_ rfl ⟨rfl, ?_⟩
      · exact results_cell1 (p := 2) (ty := 26) rfl _ _ (w.heap.size + 1) 0 (bcells (idI v)) _ rfl (World.rangeAt_setCells_same _ _ _ _ (by rw [HI.out]; exact HQ.out.2.1)) Try.underlying26 rfl HS1.out
      · exact below_cells (by omega) _ 0 _ HQ.out.2.2
end Go.Proofs.Ytcoiaddjfeaciaa
