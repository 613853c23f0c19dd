/- Contracts of firstWords, New, isMade and id of package sha. No condition. Contracts of the hash's Sum and of Sum of package sha. Conditions: at most 900,000 bytes. Contract of Xor of package ident. Conditions: an id has 20 bytes. Contract of Prefix of package ident. Conditions: an id has 20 bytes. -/
import Derived.Test.YtcoiaddjfeaciaaGd
import Derived.Great.BuildSlice
import Derived.Test.YtcoiaddjfeaciaaGb
import Derived.Laws.BitsAllLaws
section
namespace Go.Proofs.Ytcoiaddjfeaciaa
set_option maxRecDepth 100000
open Go.RowKit Go.Great
set_option linter.unusedVariables false
set_option linter.unusedSimpArgs false

set_option maxRecDepth 100000 in
theorem firstWords_any (w : World) : Calls Try.prog 59 #[] w fun e w' => e = .returned (.agg #[.int .u32 1732584193, .int .u32 4023233417, .int .u32 2562383102, .int .u32 271733878, .int .u32 3285377520]) ∧ Below w.heap.size w w' := by
  go_enter Try.func59, Try.ntmps59
  go_wp2
  refine bodyPost_ret (v := .agg #[.int .u32 1732584193, .int .u32 4023233417, .int .u32 2562383102, .int .u32 271733878, .int .u32 3285377520]) ?_ rfl ⟨rfl, ?_⟩
  · refine results_cell1 (p := 0) (ty := 90) rfl _ _ w.heap.size 0 [.int .u32 1732584193, .int .u32 4023233417, .int .u32 2562383102, .int .u32 271733878, .int .u32 3285377520] _ rfl (fun i v hv => ?_) Try.underlying90 rfl size77
    rw [Nat.zero_add, cell_of_row _ _ i _ 90 (0, 0) (heap_alloc_new w _)]
    simpa using hv
  · exact (Below.refl _ w).alloc (Nat.le_refl _) _

theorem built80 : Try.prog.built 94 [(0, .bool true), (1, .agg #[.int .u32 1732584193, .int .u32 4023233417, .int .u32 2562383102, .int .u32 271733878, .int .u32 3285377520])] = some (hcells V0 (List.replicate 64 0) 0).toArray := by kernel_rfl
theorem built80n : Try.prog.built 94 [] = some (.bool false :: (V5.cells ⟨0, 0, 0, 0, 0⟩ ++ (bcells (List.replicate 64 0) ++ [.int .u64 0]))).toArray := by kernel_rfl

theorem zero80 (W : World) : (zeroValue 94).run Try.prog W = .ok (.agg (.bool false :: .int .u32 0 :: .int .u32 0 :: .int .u32 0 :: .int .u32 0 :: .int .u32 0 :: (bcells (List.replicate 64 0) ++ [.int .u64 0])).toArray) W := by
  have hi : (Try.prog.info? 94).bind (·.zero) = some (.agg (.bool false :: .int .u32 0 :: .int .u32 0 :: .int .u32 0 :: .int .u32 0 :: .int .u32 0 :: (bcells (List.replicate 64 0) ++ [.int .u64 0])).toArray) := by kernel_rfl
  cases h : Try.prog.info? 94 with
  | none => simp [h] at hi
  | some i =>
    rw [h] at hi
    simp only [Option.bind_some] at hi
    simp [zeroValue, typeInfo, h, hi]

set_option maxRecDepth 100000 in
theorem new_any (w : World) : Calls Try.prog 17 #[] w fun e w' => ∃ g, e = .returned (.pointer (some ⟨g, 0, none⟩)) ∧ w.heap.size ≤ g ∧ HashOf w' g [] ∧ Below w.heap.size w w' := by
  obtain ⟨R, hR⟩ : ∃ R, R = bcells (List.replicate 64 0) ++ [.int .u64 0] := ⟨_, rfl⟩
  have hz := fun W => zero80 W
  rw [← hR] at hz
  have HR := Lib.hid hR
  clear hR
  go_enter Try.func17, Try.ntmps17
  go_wp2_with (go_at_call 59; refine (firstWords_any _).mono ?_; rintro e w1 ⟨rfl, hb1⟩)
  go_ret
  refine ⟨_, rfl, hb1.size, first_of ?_, hb1.alloc hb1.size _⟩
  rw [HR.out]
  exact heap_alloc_new w1 _

theorem isMade_yes (w : World) (g : Nat) (h : w.cell? ⟨g, 0, none⟩ = some (.bool true)) : Calls Try.prog 60 #[.pointer (some ⟨g, 0, none⟩)] w fun e w' => e = .returned (.bool true) ∧ w = w' := by
  go_enter Try.func60, Try.ntmps60
  go_wp2
  go_ret
  exact ⟨rfl, rfl⟩

/-- The bytes of the words. -/
def nW (x : Int) : Nat := (x % 18446744073709551616).toNat
theorem nW_lt (x : Int) : nW x < 18446744073709551616 := by unfold nW; omega
theorem nW_wrap (x : Int) : IntKind.u64.wrap x = (nW x : Int) := by rw [IntKind.wrap_u64]; unfold nW; omega
def wAt (v : V5) : Nat → Int
  | 0 => v.a
  | 1 => v.b
  | 2 => v.c
  | 3 => v.d
  | _ => v.e
def idJ (v : V5) : Nat → List UInt8
  | 0 => []
  | j + 1 => idJ v j ++ putB (nW (wAt v j)) 4
theorem idJ_length (v : V5) : ∀ j, (idJ v j).length = 4 * j
  | 0 => rfl
  | j + 1 => by rw [idJ, List.length_append, idJ_length v j, putB_length]; omega
def idI (v : V5) : List UInt8 := idJ v 5
theorem idI_length (v : V5) : (idI v).length = 20 := idJ_length v 5
theorem size61 : (Try.prog.info? 26).map (·.size) = some 20 := by kernel_rfl
theorem under61 : Try.prog.underlying 26 = some (.array (Try.prog.arrayLen 26) (Try.prog.elem 26)) := by kernel_rfl
set_option maxRecDepth 100000 in
theorem zero61 (W : World) : (zeroValue 26).run Try.prog W = .ok (.agg (bcells (List.replicate 20 0)).toArray) W := by
  have hi : (Try.prog.info? 26).bind (·.zero) = some (.agg (bcells (List.replicate 20 0)).toArray) := by kernel_rfl
  cases h : Try.prog.info? 26 with
  | none => simp [h] at hi
  | some i =>
    rw [h] at hi
    simp only [Option.bind_some] at hi
    simp [zeroValue, typeInfo, h, hi]
theorem len61 : Try.prog.arrayLen 26 = 20 := by kernel_rfl
theorem run_id_all (g : Nat) (W : World) : (Instr.sliceAt 26 (.pointer (some ⟨g, 0, none⟩)) none none none).run Try.prog W = .ok (.slice (some ⟨g, 0, none⟩) 20 20) W := by
  have hl := len61
  have hs : (sizeOf (Try.prog.elem 26)).run Try.prog W = .ok 1 W := by
    obtain ⟨i0, hi, hz0, hz1, hz2⟩ := info_parts info5
    have : Try.prog.elem 26 = 5 := by kernel_rfl
    rw [this]
    simp [sizeOf, typeInfo, hi, hz1]
  rw [run_sliceAt_array_all W 26 ⟨g, 0, none⟩ under61, hs]
  have e : (⟨g, 0, none⟩ : Addr).add 0 = ⟨g, 0, none⟩ := Addr.add_mid g 0 0
  simp [Result.andThen, slicedAt, hl, e]

theorem run_index5 (v : V5) (j : Nat) (hj : j < 5) (W : World) : (Instr.index 90 (.agg #[.int .u32 v.a, .int .u32 v.b, .int .u32 v.c, .int .u32 v.d, .int .u32 v.e]) (.int .i64 (j : Int))).run Try.prog W = .ok (.int .u32 (wAt v j)) W := by
  obtain ⟨i0, hi0, hz1⟩ : ∃ i0, Try.prog.info? 86 = some i0 ∧ i0.size = 1 := by
    have h : (Try.prog.info? 86).map (·.size) = some 1 := by kernel_rfl
    cases hi : Try.prog.info? 86 with
    | none => rw [hi] at h; cases h
    | some i => exact ⟨i, rfl, by rw [hi] at h; simpa using h⟩
  have ha : (isAgg 86).run Try.prog W = .ok false W := by kernel_rfl
  match j, hj with
  | 0, _ => simp [Instr.index, asIntOf, run_underlying Try.underlying90, sizeOf, typeInfo, hi0, hz1, wAt, part, ha]
  | 1, _ => simp [Instr.index, asIntOf, run_underlying Try.underlying90, sizeOf, typeInfo, hi0, hz1, wAt, part, ha]
  | 2, _ => simp [Instr.index, asIntOf, run_underlying Try.underlying90, sizeOf, typeInfo, hi0, hz1, wAt, part, ha]
  | 3, _ => simp [Instr.index, asIntOf, run_underlying Try.underlying90, sizeOf, typeInfo, hi0, hz1, wAt, part, ha]
  | 4, _ => simp [Instr.index, asIntOf, run_underlying Try.underlying90, sizeOf, typeInfo, hi0, hz1, wAt, part, ha]

def IdRel (w0 : World) (v : V5) (t i : Value) (wr : World) : Prop :=
  ∃ (j : Nat) (ys : List UInt8) (A : Option Addr) (c : Nat), j ≤ 5 ∧ i = .int .i64 (j : Int) ∧ t = .slice A ys.length c ∧ Hid (ys = idJ v j) ∧ OwnS w0 wr A c ys ∧ Below w0.heap.size w0 wr

set_option maxRecDepth 100000 in
theorem id_any (v : V5) (w : World) : Calls Try.prog 61 #[.agg #[.int .u32 v.a, .int .u32 v.b, .int .u32 v.c, .int .u32 v.d, .int .u32 v.e]] w fun e w' => e = .returned (.agg (bcells (idI v)).toArray) ∧ Below w.heap.size w w' := by
  have hz := fun W => zero61 W
  obtain ⟨Z, hZ⟩ : ∃ Z, Z = bcells (List.replicate 20 0) := ⟨_, rfl⟩
  rw [← hZ] at hz
  have HZ := Lib.hid hZ
  clear hZ
  have hsl := fun g W => run_id_all g W
  go_enter Try.func61, Try.ntmps61
  go_wp2
  obtain ⟨w0, hw0⟩ : ∃ w0, w0 = (w.alloc (.cells #[.int .u32 v.a, .int .u32 v.b, .int .u32 v.c, .int .u32 v.d, .int .u32 v.e] 90)).alloc (.cells Z.toArray 26) := ⟨_, rfl⟩
  rw [← hw0]
  have HW0 := Lib.hid hw0
  clear hw0
  go_loopw [3, 8] (IdRel w0 v) (fun _ i _ => 5 - (intOf i).toNat)
  case atStart => exact ⟨0, [], none, 0, Nat.zero_le _, rfl, rfl, rfl, World.ownsRow_nil _ _ _ _, Below.refl _ _⟩
  case round =>
    obtain ⟨j, ys, A, c, hj, rfl, rfl, hys, hown, hbl⟩ := hrel
    by_cases hlt : j < 5
    · have hlen : ys.length ≤ 20 := by rw [hys.out, idJ_length]; omega
      have hP := put_sl hown hbl.size (nW (wAt v j)) 4 (by omega) (nW_lt _) (by omega) (by omega)
      rw [← nW_wrap] at hP
      have R : ∀ A1 c1 ys' w', Hid (ys' = ys ++ putB (nW (wAt v j)) 4) → OwnS w0 w' A1 c1 ys' → Below wr.heap.size wr w' → IdRel w0 v (.slice A1 ys'.length c1) (.int .i64 ((j : Int) + 1)) w' := fun A1 c1 ys' w' q1 q2 q3 =>
        ⟨j + 1, ys', A1, c1, by omega, by go_num, rfl, Lib.hid (by rw [q1.out, hys.out]; rfl), q2, hbl.trans (q3.mono hbl.size)⟩
      have HP := Lib.hid hP
      have HR := Lib.hid R
      clear hP R hys hown hbl hj
      have hidx := fun W => run_index5 v j hlt W
      go_wp2_with (go_at_call 58; refine (HP.out).mono ?_; rintro e w2 ⟨A1', c1', ys', rfl, q1, q2, q3⟩)
      go_roundw
      case rel => exact HR.out _ _ _ _ q1 q2 q3
      case measure => simp [intOf]; omega
    · obtain rfl : j = 5 := by omega
      have hyl : ys.length = 20 := by rw [hys.out, idJ_length]
      have hid : bcells ys = bcells (idI v) := by rw [hys.out]; rfl
      have hbl' : (bcells ys).length = 20 := by rw [bcells_length, hyl]
      have hZl : Z.length = 20 := by rw [HZ.out, bcells_length, List.length_replicate]
      have hw1 : w.heap.size + 1 < w0.heap.size := by rw [HW0.out]; simp
      have hr0 : w0.heap[w.heap.size + 1]? = some (.cells Z.toArray 26 (0, 0)) := by
        rw [HW0.out]
        have := heap_alloc_new (w.alloc (.cells #[.int .u32 v.a, .int .u32 v.b, .int .u32 v.c, .int .u32 v.d, .int .u32 v.e] 90)) (.cells Z.toArray 26)
        simpa using this
      have hb0 : Below w.heap.size w w0 := by rw [HW0.out]; exact ((Below.refl _ w).alloc (Nat.le_refl _) _).alloc (by simp) _
      have hsp : splice Z 0 (bcells ys) = bcells ys := by
        unfold splice
        rw [List.take_zero, Nat.zero_add, List.drop_eq_nil_of_le (by omega)]
        simp
      have R : ∀ w2, w2.heap[wr.heap.size]? = some (.cells (splice Z 0 (bcells ys)).toArray 26 (0, 0)) → (wr.alloc (.cells Z.toArray 26)).grownBy w2 (some wr.heap.size) →
          w2.rangeAt wr.heap.size 0 (bcells (idI v)) ∧ w2.there (w.heap.size + 1) 0 20 ∧ Below w.heap.size w w2 := by
        intro w2 h2 g2
        rw [hsp, hid] at h2
        have hB : Below w0.heap.size w0 w2 := (hbl.alloc hbl.size _).grown g2 (by have := hbl.size; simp; omega) (fun k hk => by have := hbl.size; simp at hk; omega)
        refine ⟨fun i u hu => ?_, fun i hi => ?_, hb0.trans (hB.mono hb0.size)⟩
        · rw [Nat.zero_add, cell_of_row w2 _ i _ 26 (0, 0) h2]
          simpa using hu
        · have hr2 := (hB.block _ hw1).trans hr0
          rw [Nat.zero_add, cell_of_row w2 _ i _ 26 (0, 0) hr2, frozen_of_row w2 _ i _ 26 hr2]
          exact ⟨by simp; omega, rfl⟩
      have HR := Lib.hid R
      have HN : Hid ((bcells ys).length = Nat.min 20 20) := Lib.hid (by rw [hbl']; rfl)
      have HP : Hid (0 < (bcells ys).length → ∃ ad, A = some ad ∧ ∀ j u, (bcells ys)[j]? = some u → (wr.alloc (.cells Z.toArray 26)).cell? (ad.add j) = some u) := Lib.hid (((hown.below ((Below.refl _ wr).alloc (Nat.le_refl _) _) (Nat.le_refl _)).bat).cells)
      have HF : Hid (0 + (bcells ys).length ≤ Z.length) := Lib.hid (by omega)
      have HI : Hid ((bcells (idI v)).length = 20) := Lib.hid (by rw [← hid]; exact hbl')
      have HL : Hid ((bcells ys).length = 20) := Lib.hid hbl'
      have HA : Hid ((wr.alloc (.cells Z.toArray 26)).heap[wr.heap.size]? = some (.cells Z.toArray 26 (0, 0))) := Lib.hid (heap_alloc_new wr _)
      have hI := HI.out
      have HS1 : Hid ((Try.prog.info? 26).map (·.size) = some (bcells (idI v)).length) := Lib.hid (by rw [hI]; exact size61)
      have HS2 : Hid ((Try.prog.info? 26).map (·.size) = some (bcells (idI v)).toArray.size) := Lib.hid (by rw [List.size_toArray, hI]; exact size61)
      have HT : Hid (∀ w2 : World, w2.there (w.heap.size + 1) 0 20 → w2.there (w.heap.size + 1) 0 (bcells (idI v)).toArray.size) := Lib.hid (fun w2 h => by rw [show (bcells (idI v)).toArray.size = 20 from (List.size_toArray).trans hI]; exact h)
      rw [hyl]
      clear hj hlt hys hown hbl hyl hid hbl' hZl hw1 hr0 hb0 hsp R hI
      go_wp2_with (first
        | ((with_reducible refine wpList_copy_row (o := ⟨some 18, _, _, _, _, _⟩) rfl (.tmp 16) (.tmp 17) 22 22 rfl 5 Try.underlying22 ?_ (some ⟨wr.heap.size, 0, none⟩) A 20 20 20 c ?_ ?_ wr.heap.size 0 _ 26 HA.out _ HN.out (fun hp => ⟨rfl, HP.out hp⟩) HF.out (bcells_one _) ?_); kernel_rfl; rfl; rfl; intro w2 q1 q2; have HQ := Lib.hid (HR.out w2 q1 q2); clear q1 q2; rw [HL.out])
        | ((with_reducible refine wpList_load_mid (op := ⟨some 19, _, _, _, _, _⟩) rfl 26 (.tmp 6) rfl wr.heap.size 0 ?_ (bcells (idI v)) _ HQ.out.1 Try.underlying26 rfl HS1.out ?_); rfl; refine wpList_store_mid rfl 26 (.tmp 2) (.tmp 19) rfl (w.heap.size + 1) 0 (bcells (idI v)).toArray rfl rfl (HT.out _ HQ.out.2.1) HS2.out (all_oneCell_toArray (bcells_one _)) ?_))
      refine bodyPost_ret (v := .agg (bcells (idI v)).toArray) ?_ rfl ⟨rfl, ?_⟩
      · exact results_cell1 (p := 2) (ty := 26) rfl _ _ (w.heap.size + 1) 0 (bcells (idI v)) _ rfl (World.rangeAt_setCells_same _ _ _ _ (by rw [HI.out]; exact HQ.out.2.1)) Try.underlying26 rfl HS1.out
      · exact below_cells (by omega) _ 0 _ HQ.out.2.2
end Go.Proofs.Ytcoiaddjfeaciaa
end
section
namespace Go.Proofs.Ytcoiaddjfeaciaa
set_option maxRecDepth 100000
open Go.RowKit Go.Great
set_option linter.unusedVariables false
set_option linter.unusedSimpArgs false

/-- A text's sum. -/
def shaI (m : List UInt8) : List UInt8 := idI (wordsOf (m ++ padB m.length))
theorem padB_length (n : Nat) : (padB n).length ≤ 72 := by
  unfold padB
  rw [List.length_append, List.length_cons, List.length_replicate, putB_length]
  unfold zerosN
  omega
theorem own_cap {w : World} {base n c : Nat} {A : Option Addr} {xs : List UInt8} (h : w.ownsRow base 5 1 (.slice A n c) n (bcells xs)) : n ≤ c := by
  rcases h.2 with ⟨hv, hn⟩ | ⟨g, cap, cur, hv, _, _, hc, _⟩
  · omega
  · simp only [Value.slice.injEq] at hv
    omega
theorem own_ne {w : World} {base n c : Nat} {A : Option Addr} {xs : List UInt8} (h : w.ownsRow base 5 1 (.slice A n c) n (bcells xs)) (g : Nat) (hg : g < base) : ∀ g' off, A = some ⟨g', off, none⟩ → xs ≠ [] → g' ≠ g := by
  intro g' off e _
  rcases h.2 with ⟨hv, hn⟩ | ⟨g1, cap, cur, hv, hb, _⟩
  · simp only [Value.slice.injEq] at hv
    rw [e] at hv
    cases hv.1
  · simp only [Value.slice.injEq] at hv
    rw [e] at hv
    have := hv.1
    injection this with this
    injection this with this
    omega
theorem size80 : (Try.prog.info? 94).map (·.size) = some 71 := by kernel_rfl
theorem hcells_one (v : V5) (tail : List UInt8) (len : Nat) : ∀ u ∈ hcells v tail len, u.oneCell' = true := by
  intro u hu
  simp only [hcells, V5.cells, List.mem_cons, List.mem_append, List.not_mem_nil, or_false] at hu
  rcases hu with rfl | (rfl | rfl | rfl | rfl | rfl) | hu | rfl
  all_goals first | rfl | exact bcells_one _ _ hu

theorem below_setRow {a w : World} {B g : Nat} (h : Below B a w) (hg : B ≤ g) (cs : Array Value) : Below B a (w.setRow g cs) :=
  ⟨h.os, h.tape, h.output, by have := h.size; simpa [World.setRow] using this, fun k hk => (setRow_other w g k cs (by omega)).trans (h.block k hk)⟩

set_option maxRecDepth 100000 in
theorem hsum_of {w : World} {g : Nat} {m : List UInt8} (h : HashOf w g m) (hm : m.length ≤ 900000) : Calls Try.prog 20 #[.pointer (some ⟨g, 0, none⟩)] w fun e w' => e = .returned (.agg (bcells (shaI m)).toArray) ∧ Below w.heap.size w w' := by
  obtain ⟨tail, hh, hT⟩ := h
  obtain ⟨H, hH⟩ : ∃ H, H = hcells (wordsOf m) tail m.length := ⟨_, rfl⟩
  obtain ⟨Z, hZ⟩ : ∃ Z, Z = bcells (List.replicate 20 0) := ⟨_, rfl⟩
  obtain ⟨Y, hY⟩ : ∃ Y : List Value, Y = (.bool false :: .int .u32 0 :: .int .u32 0 :: .int .u32 0 :: .int .u32 0 :: .int .u32 0 :: (bcells (List.replicate 64 0) ++ [.int .u64 0])) := ⟨_, rfl⟩
  have hz := fun W => zero61 W
  have hy := fun W => zero80 W
  rw [← hZ] at hz
  rw [← hY] at hy
  have hHl : H.length = 71 := by rw [hH]; exact hcells_len _ _ _ hh.2.1
  have hYl : Y.length = 71 := by rw [hY]; simp [bcells]
  have hg := hh.lt
  have hM : Calls Try.prog 60 #[.pointer (some ⟨g, 0, none⟩)] (w.alloc (.cells Z.toArray 26)) fun e w' => e = .returned (.bool true) ∧ (w.alloc (.cells Z.toArray 26)) = w' := isMade_yes _ g (by rw [((Below.refl w.heap.size w).alloc (Nat.le_refl _) (.cells Z.toArray 26)).cell (p := ⟨g, 0, none⟩) hg, hh.cell]; rfl)
  have hg1 : (w.alloc (.cells Z.toArray 26)).heap[g]? = some (.cells H.toArray 94 (0, 0)) := by
    rw [((Below.refl w.heap.size w).alloc (Nat.le_refl _) (.cells Z.toArray 26)).block g hg, hH]
    exact hh.1
  have HRA : Hid ((w.alloc (.cells Z.toArray 26)).rangeAt g 0 H) := Lib.hid (fun i u hu => by
    rw [Nat.zero_add, cell_of_row _ _ i _ 94 (0, 0) hg1]
    simpa using hu)
  have HM := Lib.hid hM
  have HS : Hid ((Try.prog.info? 94).map (·.size) = some H.length) := Lib.hid (by rw [hHl]; exact size80)
  have hal : ((w.alloc (.cells Z.toArray 26)).alloc (.cells Y.toArray 94)).heap[w.heap.size + 1]? = some (.cells Y.toArray 94 (0, 0)) := by
    have := heap_alloc_new (w.alloc (.cells Z.toArray 26)) (.cells Y.toArray 94)
    simpa using this
  obtain ⟨W1, hW1⟩ : ∃ W1, W1 = ((w.alloc (.cells Z.toArray 26)).alloc (.cells Y.toArray 94)).setRow (w.heap.size + 1) H.toArray := ⟨_, rfl⟩
  have f0 : W1.heap.size = w.heap.size + 2 := by rw [hW1]; simp [World.setRow]
  have f1 : HashOf W1 (w.heap.size + 1) m := ⟨tail, ⟨by rw [hW1, ← hH]; exact setRow_heap _ _ _ _ 94 _ hal, hh.2⟩, hT⟩
  have fo : ∀ k, k ≠ w.heap.size + 1 → W1.heap[k]? = ((w.alloc (.cells Z.toArray 26)).alloc (.cells Y.toArray 94)).heap[k]? := fun k hk => by rw [hW1]; exact setRow_other _ _ _ _ hk
  have f3 : Below w.heap.size w W1 := by
    have hb2 := ((Below.refl w.heap.size w).alloc (Nat.le_refl _) (.cells Z.toArray 26)).alloc (by simp) (.cells Y.toArray 94)
    refine ⟨?_, ?_, ?_, by omega, fun k hk => (fo k (by omega)).trans (hb2.block k hk)⟩
    · rw [hW1]; exact hb2.os
    · rw [hW1]; exact hb2.tape
    · rw [hW1]; exact hb2.output
  have f4 : W1.heap[w.heap.size]? = some (.cells Z.toArray 26 (0, 0)) := by
    rw [fo _ (by omega), Below.heap_alloc _ _ _ (by simp)]
    exact heap_alloc_new w _
  have cl : W1.cell? ⟨g, 70, none⟩ = some (.int .u64 (m.length : Int)) := (f3.cell (p := ⟨g, 70, none⟩) hg).trans hh.len_
  have hZl : Z.length = 20 := by rw [hZ, bcells_length, List.length_replicate]
  have P : ∀ v W2, W2.ownsRow W1.heap.size 5 1 v (padB m.length).length (bcells (padB m.length)) → Below W1.heap.size W1 W2 → ∃ A c, v = .slice A (padB m.length).length c ∧
      Hid (Calls Try.prog 55 #[.pointer (some ⟨w.heap.size + 1, 0, none⟩), .slice A (padB m.length).length c] W2 fun e w' => e = .returned (.tuple #[]) ∧ HashOf w' (w.heap.size + 1) (m ++ padB m.length) ∧ W1.grownBy w' (some (w.heap.size + 1))) := by
    intro v W2 ho hb
    obtain ⟨A, c, rfl⟩ := slice_of_own ho
    refine ⟨A, c, rfl, Lib.hid ?_⟩
    have hp := padB_length m.length
    exact (absorb_of (f1.below hb (by omega)) A c (padB m.length) (BAt.of_own ho (Nat.le_refl _)) (own_cap ho) (by omega) hm (own_ne ho _ (by omega))).mono fun e w' ⟨he, h1, h2⟩ => ⟨he, h1, grownBy_trans (grownBy_of_below hb (Nat.le_refl _) _) h2⟩
  have hlen64 : m.length < 18446744073709551616 := by omega
  have HPAD := Lib.hid (pad_any m.length hlen64 W1)
  have HP := Lib.hid P
  have HW1 := Lib.hid hW1
  have HAL := Lib.hid hal
  have HSZ : Hid (Y.toArray.size = H.toArray.size) := Lib.hid (by simp [hYl, hHl])
  have HS' : Hid ((Try.prog.info? 94).map (·.size) = some H.toArray.size) := Lib.hid (by rw [List.size_toArray, hHl]; exact size80)
  have H1 : Hid (H.toArray.all (·.oneCell') = true) := Lib.hid (all_oneCell_toArray (by rw [hH]; exact hcells_one _ _ _))
  have HF : Hid (W1.heap.size = w.heap.size + 2 ∧ Below w.heap.size w W1 ∧ W1.heap[w.heap.size]? = some (.cells Z.toArray 26 (0, 0))) := Lib.hid ⟨f0, f3, f4⟩
  have HZL := Lib.hid hZl
  have hB3 : ∀ w3, W1.grownBy w3 (some (w.heap.size + 1)) → Below (w.heap.size + 1) W1 w3 ∧ w.heap.size + 2 ≤ w3.heap.size := fun w3 hg3 => by
    have := (Below.refl (w.heap.size + 1) W1).grown hg3 (by omega) (fun k hk => by simp at hk; omega)
    exact ⟨this, by have := this.size; omega⟩
  have hC : ∀ w3 w4 : World, (Below (w.heap.size + 1) W1 w3 ∧ w.heap.size + 2 ≤ w3.heap.size) → Below w3.heap.size w3 w4 → w4.heap[w.heap.size]? = some (.cells Z.toArray 26 (0, 0)) ∧ Below w.heap.size w w4 := fun w3 w4 h3 h4 => by
    refine ⟨(h4.block _ (by omega)).trans ((h3.1.block _ (by omega)).trans f4), ?_⟩
    exact f3.trans ((h3.1.mono (by omega)).trans (h4.mono (by omega)))
  have HB := Lib.hid hB3
  have HC := Lib.hid hC
  have hsl : (bcells (shaI m)).length = 20 := by rw [bcells_length]; exact idI_length _
  have HS1 : Hid ((Try.prog.info? 26).map (·.size) = some (bcells (shaI m)).length) := Lib.hid (by rw [hsl]; exact size61)
  have HS2 : Hid ((Try.prog.info? 26).map (·.size) = some (bcells (shaI m)).toArray.size) := Lib.hid (by rw [List.size_toArray, hsl]; exact size61)
  have HSZ2 : Hid (Z.toArray.size = (bcells (shaI m)).toArray.size) := Lib.hid (by simp [hZl, hsl])
  have HS3 : Hid ((bcells (shaI m)).toArray.all (·.oneCell') = true) := Lib.hid (all_oneCell_toArray (bcells_one _))
  clear hB3 hC hsl
  clear hM hH hZ hY hh hT hYl hHl hg1 hal hW1 f0 f1 fo f3 f4 hZl P
  go_enter Try.func20, Try.ntmps20
  go_wp2_with (first
    | (go_at_call 60; refine (HM.out).mono ?_; rintro e w1 ⟨rfl, rfl⟩)
    | ((with_reducible refine wpList_load_mid (op := ⟨some 10, _, _, _, _, _⟩) rfl 94 (.tmp 9) rfl g 0 ?_ H _ HRA.out Try.underlying94 rfl HS.out ?_); rfl)
    | ((with_reducible refine wpList_store_row rfl 94 (.tmp 3) (.tmp 10) rfl (w.heap.size + 1) H.toArray ?_ ?_ 94 Y.toArray HAL.out HS'.out HSZ.out H1.out ?_); rfl; rfl; rw [← HW1.out])
    | (go_at_call 15; refine (HPAD.out).mono ?_; rintro e w2 ⟨v2, rfl, ho2, hb2⟩; obtain ⟨A2, c2, rfl, HAB⟩ := HP.out v2 w2 ho2 hb2; clear ho2 hb2)
    | (go_at_call 55; refine (HAB.out).mono ?_; rintro e w3 ⟨rfl, ⟨t3, hh3, ht3⟩, hg3⟩; obtain ⟨k1, k2, k3, k4, k5⟩ := hh3.word0; have HB3 := Lib.hid (HB.out w3 hg3); clear hh3 ht3 hg3)
    | (go_at_call 61; refine (id_any _ _).mono ?_; rintro e w4 ⟨rfl, hb4⟩; have H4 := Lib.hid (HC.out w3 w4 HB3.out hb4); clear hb4)
    | ((with_reducible refine wpList_store_row rfl 26 (.tmp 2) (.tmp 19) rfl w.heap.size (bcells (shaI m)).toArray ?_ ?_ 26 Z.toArray H4.out.1 HS2.out HSZ2.out HS3.out ?_); rfl; rfl))
  refine bodyPost_ret (v := .agg (bcells (shaI m)).toArray) ?_ rfl ⟨rfl, ?_⟩
  · refine results_cell1 (p := 2) (ty := 26) rfl _ _ w.heap.size 0 (bcells (shaI m)) _ rfl (fun i u hu => ?_) Try.underlying26 rfl HS1.out
    rw [Nat.zero_add, cell_of_row _ _ i _ 26 (0, 0) (setRow_heap _ _ _ _ 26 _ H4.out.1)]
    simpa using hu
  · exact below_setRow H4.out.2 (Nat.le_refl _) _
theorem BAt.lt_ {w : World} {B : Nat} {A : Option Addr} {b : List UInt8} (h : BAt w B A b) : ∀ g' off, A = some ⟨g', off, none⟩ → b ≠ [] → g' < B := by
  intro g' off e hb
  obtain ⟨ga, o, e2, hg, _⟩ := h.some_ (List.length_pos_iff.2 hb)
  rw [e] at e2
  injection e2 with e2
  injection e2 with e2
  omega

set_option maxRecDepth 100000 in
theorem sum_any {w : World} (A : Option Addr) (c : Nat) (b : List UInt8) (hx : BAt w w.heap.size A b) (hc : b.length ≤ c) (hl : b.length ≤ 900000) : Calls Try.prog 13 #[.slice A b.length c] w fun e w' => e = .returned (.agg (bcells (shaI b)).toArray) ∧ Below w.heap.size w w' := by
  obtain ⟨Z, hZ⟩ : ∃ Z, Z = bcells (List.replicate 20 0) := ⟨_, rfl⟩
  have hz := fun W => zero61 W
  rw [← hZ] at hz
  have hZl : Z.length = 20 := by rw [hZ, bcells_length, List.length_replicate]
  have hb0 : Below w.heap.size w (w.alloc (.cells Z.toArray 26)) := (Below.refl w.heap.size w).alloc (Nat.le_refl _) _
  have f4 := heap_alloc_new w (.cells Z.toArray 26)
  have hs0 : (w.alloc (.cells Z.toArray 26)).heap.size = w.heap.size + 1 := by simp
  have hN : ∀ w1 g, w.heap.size + 1 ≤ g → HashOf w1 g [] → Below (w.heap.size + 1) (w.alloc (.cells Z.toArray 26)) w1 → Calls Try.prog 55 #[.pointer (some ⟨g, 0, none⟩), .slice A b.length c] w1 fun e w' => e = .returned (.tuple #[]) ∧ HashOf w' g b ∧ Below (w.heap.size + 1) (w.alloc (.cells Z.toArray 26)) w' := by
    intro w1 g hg h1 hb1
    have hx1 : BAt w1 w1.heap.size A b := (hx.below (hb0.trans (hb1.mono (by omega)))).more (by have := hb1.size; omega)
    refine (absorb_of h1 A c b hx1 hc hl (by simp) (fun g' off e hb => by have := hx.lt_ g' off e hb; omega)).mono ?_
    rintro e w' ⟨he, h2, h3⟩
    exact ⟨he, by simpa using h2, hb1.grown h3 (by have := hb1.size; omega) (fun k hk => by simp at hk; omega)⟩
  have hF : ∀ w3 w4 : World, Below (w.heap.size + 1) (w.alloc (.cells Z.toArray 26)) w3 → Below w3.heap.size w3 w4 → w4.heap[w.heap.size]? = some (.cells Z.toArray 26 (0, 0)) ∧ Below w.heap.size w w4 := fun w3 w4 h3 h4 => by
    have l3 := h3.size
    exact ⟨(h4.block _ (by omega)).trans ((h3.block _ (by omega)).trans f4), hb0.trans ((h3.mono (by omega)).trans (h4.mono (by omega)))⟩
  have HN := Lib.hid hN
  have HF := Lib.hid hF
  have hsl : (bcells (shaI b)).length = 20 := by rw [bcells_length]; exact idI_length _
  have HS1 : Hid ((Try.prog.info? 26).map (·.size) = some (bcells (shaI b)).length) := Lib.hid (by rw [hsl]; exact size61)
  have HS2 : Hid ((Try.prog.info? 26).map (·.size) = some (bcells (shaI b)).toArray.size) := Lib.hid (by rw [List.size_toArray, hsl]; exact size61)
  have HSZ2 : Hid (Z.toArray.size = (bcells (shaI b)).toArray.size) := Lib.hid (by simp [hZl, hsl])
  have HS3 : Hid ((bcells (shaI b)).toArray.all (·.oneCell') = true) := Lib.hid (all_oneCell_toArray (bcells_one _))
  have HL := Lib.hid hl
  clear hx hZ hZl hb0 f4 hs0 hN hF hsl hl hc
  go_enter Try.func13, Try.ntmps13
  go_wp2_with (first
    | (go_at_call 17; refine (new_any _).mono ?_; rintro e w1 ⟨g, rfl, hg, hh, hb1⟩; have HA := Lib.hid (HN.out w1 g (by simpa using hg) hh (by simpa using hb1)); clear hg hh hb1)
    | (go_at_call 55; refine (HA.out).mono ?_; rintro e w2 ⟨rfl, hh2, hb2⟩; have HH2 := Lib.hid hh2; have HB2 := Lib.hid hb2; clear hh2 hb2)
    | (go_at_call 20; refine (hsum_of HH2.out HL.out).mono ?_; rintro e w3 ⟨rfl, hb3⟩; have H4 := Lib.hid (HF.out _ _ HB2.out hb3); clear hb3)
    | ((with_reducible refine wpList_store_row rfl 26 (.tmp 2) (.tmp 9) rfl w.heap.size (bcells (shaI b)).toArray ?_ ?_ 26 Z.toArray H4.out.1 HS2.out HSZ2.out HS3.out ?_); rfl; rfl))
  refine bodyPost_ret (v := .agg (bcells (shaI b)).toArray) ?_ rfl ⟨rfl, ?_⟩
  · refine results_cell1 (p := 2) (ty := 26) rfl _ _ w.heap.size 0 (bcells (shaI b)) _ rfl (fun i u hu => ?_) Try.underlying26 rfl HS1.out
    rw [Nat.zero_add, cell_of_row _ _ i _ 26 (0, 0) (setRow_heap _ _ _ _ 26 _ H4.out.1)]
    simpa using hu
  · exact below_setRow H4.out.2 (Nat.le_refl _) _

theorem sha_abc : (shaI [97, 98, 99]).take 4 = [169, 153, 62, 54] := by decide +kernel
theorem sha_nil : (shaI []).take 4 = [218, 57, 163, 238] := by decide +kernel
end Go.Proofs.Ytcoiaddjfeaciaa
end
section
namespace Go.Proofs.Ytcoiaddjfeaciaa
set_option maxRecDepth 100000
set_option maxHeartbeats 1000000
open Go.RowKit

/-- Two ids, the first j bytes mixed. -/
def mixL (xs ys : List UInt8) (j : Nat) : List UInt8 := (List.range 20).map fun i => if i < j then xs.getD i 0 ^^^ ys.getD i 0 else xs.getD i 0
theorem mixL_length (xs ys : List UInt8) (j : Nat) : (mixL xs ys j).length = 20 := by simp [mixL]
theorem mixL_zero (xs ys : List UInt8) (hx : xs.length = 20) : mixL xs ys 0 = xs := by
  apply List.ext_getElem
  · rw [mixL_length, hx]
  · intro i h1 h2
    simp [mixL, List.getElem?_eq_getElem h2]
theorem mixL_full (xs ys : List UInt8) (hx : xs.length = 20) (hy : ys.length = 20) : mixL xs ys 20 = xorL xs ys := by
  apply List.ext_getElem
  · rw [mixL_length, xorL_length (hx.trans hy.symm), hx]
  · intro i h1 h2
    have h3 : i < 20 := by rwa [mixL_length] at h1
    simp [mixL, xorL, h3, List.getElem?_eq_getElem (show i < xs.length by omega), List.getElem?_eq_getElem (show i < ys.length by omega)]
theorem mixL_get (xs ys : List UInt8) (j : Nat) (hj : j < 20) : (bcells (mixL xs ys j))[j]? = some (.int .u8 ((xs.getD j 0).toNat : Int)) := by
  simp [bcells, mixL, hj]
theorem mixL_succ (xs ys : List UInt8) (j : Nat) (hj : j < 20) : (bcells (mixL xs ys j)).toArray.setIfInBounds j (.int .u8 ((xs.getD j 0 ^^^ ys.getD j 0).toNat : Int)) = (bcells (mixL xs ys (j + 1))).toArray := by
  rw [List.setIfInBounds_toArray]
  congr 1
  apply List.ext_getElem
  · simp [bcells, mixL]
  · intro i h1 h2
    have h3 : i < 20 := by simpa [bcells, mixL] using h2
    rw [List.getElem_set]
    by_cases hij : j = i
    · subst hij
      simp [bcells, mixL]
    · rw [if_neg hij]
      simp only [bcells, mixL, List.getElem_map, List.getElem_range]
      by_cases hlt : i < j
      · rw [if_pos hlt, if_pos (by omega)]
      · rw [if_neg hlt, if_neg (by omega)]

theorem zero26 (W : World) : (zeroValue 26).run Try.prog W = .ok (.agg (bcells (List.replicate 20 0)).toArray) W := zero61 W
theorem size26 : (Try.prog.info? 26).map (·.size) = some 20 := size61

theorem row_range {w : World} {g : Nat} {cs : List Value} {ty : TypeId} (h : w.heap[g]? = some (.cells cs.toArray ty (0, 0))) : w.rangeAt g 0 cs := fun i v hv => by
  rw [Nat.zero_add, cell_of_row w _ i _ ty (0, 0) h]
  simpa using hv
theorem row_there {w : World} {g : Nat} {cs : List Value} {ty : TypeId} (h : w.heap[g]? = some (.cells cs.toArray ty (0, 0))) : w.there g 0 cs.length := fun i hi => by
  rw [Nat.zero_add, cell_of_row w _ i _ ty (0, 0) h, frozen_of_row w _ i _ ty h]
  exact ⟨by simp; omega, rfl⟩

def XorRel (w : World) (xs ys : List UInt8) (i : Value) (wr : World) : Prop :=
  ∃ j : Nat, j ≤ 20 ∧ i = .int .i64 (j : Int) ∧ wr.heap[w.heap.size]? = some (.cells (bcells (mixL xs ys j)).toArray 26 (0, 0)) ∧ wr.heap[w.heap.size + 1]? = some (.cells (bcells ys).toArray 26 (0, 0)) ∧ wr.heap[w.heap.size + 1 + 1]? = some (.cells (bcells (List.replicate 20 0)).toArray 26 (0, 0)) ∧ Below w.heap.size w wr

theorem heap3 (w : World) (a b x : Obj) :
    (((w.alloc a).alloc b).alloc x).heap[w.heap.size]? = some a ∧ (((w.alloc a).alloc b).alloc x).heap[w.heap.size + 1]? = some b ∧ (((w.alloc a).alloc b).alloc x).heap[w.heap.size + 1 + 1]? = some x ∧ Below w.heap.size w (((w.alloc a).alloc b).alloc x) := by
  refine ⟨?_, ?_, ?_, ((((Below.refl _ w).alloc (Nat.le_refl _) _).alloc (by simp) _).alloc (by simp; omega) _)⟩
  all_goals
    show (((w.heap.push a).push b).push x)[_]? = _
    simp only [Array.getElem?_push, Array.size_push]
    repeat (first | rw [if_pos trivial] | rw [if_pos (by omega)] | rw [if_neg (by omega)])

theorem xor_any (xs ys : List UInt8) (hx : xs.length = 20) (hy : ys.length = 20) (w : World) :
    Calls Try.prog 28 #[.agg (bcells xs).toArray, .agg (bcells ys).toArray] w fun e w' => e = .returned (.agg (bcells (xorL xs ys)).toArray) ∧ Below w.heap.size w w' := by
  obtain ⟨X, hX⟩ : ∃ X, X = (bcells xs).toArray := ⟨_, rfl⟩
  obtain ⟨Y, hY⟩ : ∃ Y, Y = (bcells ys).toArray := ⟨_, rfl⟩
  obtain ⟨Z, hZ⟩ : ∃ Z, Z = (bcells (List.replicate 20 0)).toArray := ⟨_, rfl⟩
  have hz := fun W => zero26 W
  rw [← hZ] at hz
  rw [← hX, ← hY]
  have HE := Lib.hid (And.intro hX (And.intro hY (And.intro hZ (And.intro hx hy))))
  clear hX hY hZ hx hy
  go_enter Try.func28, Try.ntmps28
  go_wp2
  have R0 : XorRel w xs ys (.int .i64 0) (((w.alloc (.cells X 26)).alloc (.cells Y 26)).alloc (.cells Z 26)) := by
    obtain ⟨h1, h2, h3, h4⟩ := heap3 w (.cells X 26) (.cells Y 26) (.cells Z 26)
    obtain ⟨e1, e2, e3, e4, e5⟩ := HE.out
    refine ⟨0, by omega, rfl, ?_, ?_, ?_, h4⟩
    · rw [h1, mixL_zero _ _ e4, e1]
    · rw [h2, e2]
    · rw [h3, e3]
  have HR0 := Lib.hid R0
  clear R0 hz
  go_loopw [6] (XorRel w xs ys) (fun i _ => 20 - (intOf i).toNat)
  case atStart => exact HR0.out
  case round =>
    obtain ⟨j, hj, rfl, hq, hr, ho, hb⟩ := hrel
    clear HR0
    obtain ⟨_, _, _, hx, hy⟩ := HE.out
    by_cases hlt : j < 20
    · have c1 : wr.cell? ⟨w.heap.size, j, none⟩ = some (.int .u8 ((xs.getD j 0).toNat : Int)) := by
        rw [cell_of_row wr _ j _ 26 (0, 0) hq, List.getElem?_toArray, mixL_get xs ys j hlt]
      have c2 : wr.cell? ⟨w.heap.size + 1, j, none⟩ = some (.int .u8 ((ys.getD j 0).toNat : Int)) := by
        rw [cell_of_row wr _ j _ 26 (0, 0) hr, List.getElem?_toArray, bcells_get ys j (by omega), List.getD_eq_getElem?_getD, List.getElem?_eq_getElem (by omega)]
        rfl
      have fr := frozen_of_row wr w.heap.size j _ 26 hq
      have hbx : bits .xor .u8 ((xs.getD j 0).toNat : Int) ((ys.getD j 0).toNat : Int) = ((xs.getD j 0 ^^^ ys.getD j 0).toNat : Int) := by
        rw [u8_xor_nat _ _ (UInt8.toNat_lt _) (UInt8.toNat_lt _), UInt8.toNat_xor]
      have R : ∀ w', (wr.setCell ⟨w.heap.size, j, none⟩ (.int .u8 ((xs.getD j 0 ^^^ ys.getD j 0).toNat : Int))).heap = w'.heap → Below (wr.heap.size) (wr.setCell ⟨w.heap.size, j, none⟩ (.int .u8 ((xs.getD j 0 ^^^ ys.getD j 0).toNat : Int))) w' → XorRel w xs ys (.int .i64 ((j : Int) + 1)) w' := by
        intro w' hs hbl
        have s1 := heap_setCell_same wr w.heap.size j _ 26 (.int .u8 ((xs.getD j 0 ^^^ ys.getD j 0).toNat : Int)) hq
        rw [mixL_succ xs ys j hlt] at s1
        have l2 : w.heap.size + 1 + 1 < wr.heap.size := (Array.getElem?_eq_some_iff.1 ho).1
        refine ⟨j + 1, by omega, by go_num, (hbl.block _ (by omega)).trans s1, ?_, ?_, ?_⟩
        · rw [hbl.block _ (by omega), Below.heap_setCell _ _ _ _ (by simp)]
          exact hr
        · rw [hbl.block _ (by omega), Below.heap_setCell _ _ _ _ (by simp; omega)]
          exact ho
        · exact (hb.setCell (p := ⟨w.heap.size, j, none⟩) (by simp) _).trans (hbl.mono (by omega))
      have HR := Lib.hid R
      generalize (xs.getD j 0 ^^^ ys.getD j 0).toNat = c at hbx HR
      generalize (xs.getD j 0).toNat = a at c1 hbx
      generalize (ys.getD j 0).toNat = b at c2 hbx
      clear hq hr ho hb R HE hx hy
      go_wp2
      go_region
      go_wp2
      go_roundw
      case rel => exact HR.out _ rfl (below_drewN (Below.refl _ _) _)
      case measure => simp [intOf]; omega
    · obtain rfl : j = 20 := by omega
      rw [mixL_full xs ys hx hy] at hq
      have hl : (bcells (xorL xs ys)).length = 20 := by rw [bcells_length, xorL_length (hx.trans hy.symm), hx]
      have hone := bcells_one (xorL xs ys)
      obtain ⟨L, hL⟩ : ∃ L, L = bcells (xorL xs ys) := ⟨_, rfl⟩
      rw [← hL] at hq hl hone
      have HL := Lib.hid hL
      have hsz : L.toArray.size = 20 := (List.size_toArray).trans hl
      have hT := row_there ho
      rw [bcells_length, List.length_replicate] at hT
      have HC := Lib.hid hone
      have HB := Lib.hid hb
      have HS := Lib.hid (World.rangeAt_setCells_same wr (w.heap.size + 1 + 1) 0 L (by rw [hl]; exact hT))
      have HQ1 := Lib.hid (row_range hq)
      have HT : Hid (wr.there (w.heap.size + 1 + 1) 0 L.toArray.size) := Lib.hid (by rw [hsz]; exact hT)
      have HI : Hid ((Try.prog.info? 26).map (·.size) = some L.toArray.size) := Lib.hid (by rw [hsz]; exact size26)
      have HJ : Hid ((Try.prog.info? 26).map (·.size) = some L.length) := Lib.hid (by rw [hl]; exact size26)
      clear hq hr ho hb hl hone hT hlt hj HE hx hy hL hsz
      go_wp2_with ((with_reducible refine wpList_load_mid (op := ⟨some 18, _, _, _, _, _⟩) rfl 26 (.tmp 2) rfl w.heap.size 0 ?_ L _ HQ1.out Try.underlying26 rfl HJ.out ?_); rfl; refine wpList_store_mid rfl 26 (.tmp 4) (.tmp 18) rfl (w.heap.size + 1 + 1) 0 L.toArray rfl rfl HT.out HI.out (all_oneCell_toArray HC.out) ?_)
      refine bodyPost_ret (v := .agg L.toArray) ?_ rfl ?_
      · exact results_cell1 (p := 4) (ty := 26) rfl _ _ (w.heap.size + 1 + 1) 0 L _ rfl (by simpa using HS.out) Try.underlying26 rfl HJ.out
      · exact ⟨by rw [← HL.out], by simpa using below_cells (by omega) L 0 wr HB.out⟩
end Go.Proofs.Ytcoiaddjfeaciaa
end
section
namespace Go.Proofs.Ytcoiaddjfeaciaa
set_option maxRecDepth 100000
set_option maxHeartbeats 1000000
open Go.RowKit

theorem pfxN_at : ∀ (j : Nat) (xs ys : List UInt8), (∀ k, k < j → xs.getD k 0 = ys.getD k 0) → j < xs.length → j < ys.length → xs.getD j 0 ≠ ys.getD j 0 → pfxN xs ys = 8 * j + lz8 (xs.getD j 0 ^^^ ys.getD j 0)
  | 0, x :: xs, y :: ys, _, _, _, h => by
    have h : x ≠ y := h
    unfold pfxN
    rw [if_neg h]
    show _ = 8 * 0 + lz8 (x ^^^ y)
    omega
  | j + 1, x :: xs, y :: ys, hk, hx, hy, h => by
    have h0 : x = y := hk 0 (by omega)
    have ih := pfxN_at j xs ys (fun k hkj => hk (k + 1) (by omega)) (by simpa using hx) (by simpa using hy) h
    unfold pfxN
    rw [if_pos h0, ih]
    show _ = 8 * (j + 1) + lz8 (xs.getD j 0 ^^^ ys.getD j 0)
    omega
theorem eq_of_getD {xs ys : List UInt8} (h : xs.length = ys.length) (hk : ∀ k, k < xs.length → xs.getD k 0 = ys.getD k 0) : xs = ys := by
  apply List.ext_getElem h
  intro i h1 h2
  have := hk i h1
  simpa [List.getElem?_eq_getElem h1, List.getElem?_eq_getElem h2] using this
theorem quiet_l2 {P : Program} {f : FuncId} {args : Array Value} {w : World} {a n : Nat} {v : Value} (h : ∀ W, Calls P f args W fun e w' => e = .returned v ∧ W = w') : Calls P f args (w.drewN (a + n)) fun e w' => e = .returned v ∧ ∃ m, w' = w.drewN (a + m) :=
  (h _).mono (by rintro e w' ⟨rfl, rfl⟩; exact ⟨rfl, n, rfl⟩)

def PfxRel (w : World) (xs ys : List UInt8) (i : Value) (wr : World) : Prop :=
  ∃ j : Nat, j ≤ 20 ∧ i = .int .i64 (j : Int) ∧ (∀ k, k < j → xs.getD k 0 = ys.getD k 0) ∧ wr.heap[w.heap.size]? = some (.cells (bcells xs).toArray 26 (0, 0)) ∧ wr.heap[w.heap.size + 1]? = some (.cells (bcells ys).toArray 26 (0, 0)) ∧ Below w.heap.size w wr
theorem heap2 (w : World) (a b : Obj) : ((w.alloc a).alloc b).heap[w.heap.size]? = some a ∧ ((w.alloc a).alloc b).heap[w.heap.size + 1]? = some b ∧ Below w.heap.size w ((w.alloc a).alloc b) := by
  refine ⟨?_, ?_, (((Below.refl _ w).alloc (Nat.le_refl _) _).alloc (by simp) _)⟩
  all_goals
    show ((w.heap.push a).push b)[_]? = _
    simp only [Array.getElem?_push, Array.size_push]
    repeat (first | rw [if_pos trivial] | rw [if_pos (by omega)] | rw [if_neg (by omega)])
theorem row_byte {w : World} {g : Nat} {xs : List UInt8} {ty : TypeId} (h : w.heap[g]? = some (.cells (bcells xs).toArray ty (0, 0))) (j : Nat) (hj : j < xs.length) : w.cell? ⟨g, j, none⟩ = some (.int .u8 ((xs.getD j 0).toNat : Int)) := by
  rw [cell_of_row w _ j _ ty (0, 0) h, List.getElem?_toArray, bcells_get xs j hj, List.getD_eq_getElem?_getD, List.getElem?_eq_getElem hj]
  rfl

theorem prefix_any (xs ys : List UInt8) (hx : xs.length = 20) (hy : ys.length = 20) (w : World) :
    Calls Try.prog 32 #[.agg (bcells xs).toArray, .agg (bcells ys).toArray] w fun e w' => e = .returned (.int .i64 (pfxN xs ys : Int)) ∧ Below w.heap.size w w' := by
  obtain ⟨X, hX⟩ : ∃ X, X = (bcells xs).toArray := ⟨_, rfl⟩
  obtain ⟨Y, hY⟩ : ∃ Y, Y = (bcells ys).toArray := ⟨_, rfl⟩
  rw [← hX, ← hY]
  have HE := Lib.hid (And.intro hX (And.intro hY (And.intro hx hy)))
  clear hX hY hx hy
  go_enter Try.func32, Try.ntmps32
  go_wp2
  have R0 : PfxRel w xs ys (.int .i64 0) ((w.alloc (.cells X 26)).alloc (.cells Y 26)) := by
    obtain ⟨h1, h2, h4⟩ := heap2 w (.cells X 26) (.cells Y 26)
    obtain ⟨e1, e2, e4, e5⟩ := HE.out
    refine ⟨0, by omega, rfl, fun k hk => by omega, ?_, ?_, h4⟩
    · rw [h1, e1]
    · rw [h2, e2]
  have HR0 := Lib.hid R0
  clear R0
  go_loopw [6] (PfxRel w xs ys) (fun i _ => 20 - (intOf i).toNat)
  case atStart => exact HR0.out
  case round =>
    obtain ⟨j, hj, rfl, hk, hq, hr, hb⟩ := hrel
    clear HR0
    obtain ⟨_, _, hx, hy⟩ := HE.out
    by_cases hlt : j < 20
    · have c1 := row_byte hq j (by omega)
      have c2 := row_byte hr j (by omega)
      by_cases hne : xs.getD j 0 = ys.getD j 0
      · have R : ∀ n, PfxRel w xs ys (.int .i64 ((j : Int) + 1)) (wr.drewN n) := by
          intro n
          refine ⟨j + 1, by omega, by go_num, fun k hkj => ?_, hq, hr, below_drewN hb n⟩
          by_cases hkj' : k = j
          · rw [hkj']
            exact hne
          · exact hk k (by omega)
        have HR := Lib.hid R
        rw [← hne] at c2
        generalize (xs.getD j 0).toNat = a at c1 c2
        clear hq hr hb R HE hx hy hk hne
        go_wp2
        go_quiet (fail)
        go_wp2
        go_roundw
        case rel => exact HR.out _
        case measure => simp [intOf]; omega
      · have hp := pfxN_at j xs ys hk (by omega) (by omega) hne
        have hbx : bits .xor .u8 ((xs.getD j 0).toNat : Int) ((ys.getD j 0).toNat : Int) = ((xs.getD j 0 ^^^ ys.getD j 0).toNat : Int) := by
          rw [u8_xor_nat _ _ (UInt8.toNat_lt _) (UInt8.toNat_lt _), UInt8.toNat_xor]
        have hnn : ((xs.getD j 0).toNat : Int) ≠ ((ys.getD j 0).toNat : Int) := fun e => hne (UInt8.toNat.inj (by omega))
        have hl8 : lz8 (xs.getD j 0 ^^^ ys.getD j 0) ≤ 8 := by unfold lz8; repeat (first | omega | split)
        have HL := Lib.hid (fun W => lz_any (xs.getD j 0 ^^^ ys.getD j 0) W)
        have HB := Lib.hid hb
        have HP := Lib.hid hp
        generalize lz8 (xs.getD j 0 ^^^ ys.getD j 0) = l at HP HL hl8
        generalize (xs.getD j 0 ^^^ ys.getD j 0).toNat = c at hbx HL
        generalize (xs.getD j 0).toNat = a at c1 hbx hnn
        generalize (ys.getD j 0).toNat = b at c2 hbx hnn
        clear hq hr hb HE hx hy hk hne hp
        go_wp2
        go_quiet (fail)
        go_wp2
        go_quiet (first | (go_at_call 64; exact quiet_l HL.out) | (go_at_call 64; exact quiet_l2 HL.out))
        go_wp2
        go_ret
        refine ⟨congrArg (fun x => Ending.returned (.int .i64 x)) ?_, below_drewN (below_drewN HB.out _) _⟩
        have := HP.out
        omega
    · obtain rfl : j = 20 := by omega
      have he := eq_of_getD (hx.trans hy.symm) (fun k hkx => hk k (by omega))
      have hp := (pfxN_spec xs ys (hx.trans hy.symm)).2.2.2 he
      rw [hx] at hp
      have HB := Lib.hid hb
      have HP := Lib.hid hp
      clear hq hr hb hk he hp HE hx hy
      go_wp2
      go_ret
      exact ⟨by rw [HP.out]; rfl, HB.out⟩
end Go.Proofs.Ytcoiaddjfeaciaa
end
