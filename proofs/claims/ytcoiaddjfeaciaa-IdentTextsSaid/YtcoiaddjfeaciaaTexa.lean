/- Contract of Text of package ident. Conditions: an id has 20 bytes. -/
import Derived.Test.YtcoiaddjfeaciaaKept
import Derived.Test.YtcoiaddjfeaciaaShao
namespace Go.Proofs.Ytcoiaddjfeaciaa
set_option maxRecDepth 100000
set_option maxHeartbeats 1000000
open Go.RowKit

def digL (n : Nat) : UInt8 := if n < 10 then UInt8.ofNat (48 + n) else UInt8.ofNat (87 + n)
def hexL (x : UInt8) : List UInt8 := [digL (x.toNat / 16), digL (x.toNat % 16)]
def textL (xs : List UInt8) : List UInt8 := xs.flatMap hexL
theorem textL_length (xs : List UInt8) : (textL xs).length = 2 * xs.length := by
  induction xs with
  | nil => rfl
  | cons x xs ih =>
    simp only [textL, List.flatMap_cons, List.length_append, List.length_cons] at ih ⊢
    rw [ih]
    simp only [hexL, List.length_cons, List.length_nil]
    omega
theorem textL_take (xs : List UInt8) (j : Nat) (hj : j < xs.length) : textL (xs.take (j + 1)) = textL (xs.take j) ++ hexL (xs.getD j 0) := by
  have h : xs.take (j + 1) = xs.take j ++ [xs[j]] := by rw [List.take_add_one, List.getElem?_eq_getElem hj]; rfl
  unfold textL
  rw [h, List.flatMap_append, List.flatMap_cons, List.flatMap_nil, List.append_nil, List.getD_eq_getElem?_getD, List.getElem?_eq_getElem hj]
  rfl
theorem src_two {P : Program} {t e' : TypeId} (hk : P.underlying t = some (.slice e')) (w : World) (e : TypeId) (n m : Int) (a b : UInt8) (h : n = (a.toNat : Int)) (h' : m = (b.toNat : Int)) :
    Src P 1 t (.slice (some ⟨w.heap.size, 0, none⟩) 2 2) 2 (bcells [a, b]) (w.alloc (.cells #[.int .u8 n, .int .u8 m] e)) := by
  subst h
  subst h'
  refine Src.ofSlice _ hk _ 2 2 (bcells [a, b]) rfl (fun j u hu => ?_) (bcells_one _)
  match j, hu with
  | 0, hu =>
    simp [bcells] at hu
    subst hu
    simp [Addr.add]
  | 1, hu =>
    simp [bcells] at hu
    subst hu
    simp [Addr.add]

theorem and15 : ∀ z : Fin 256, bits .and .u8 (z.val : Int) 15 = ((z.val % 16 : Nat) : Int) := by decide +kernel
theorem and15' (z : UInt8) : bits .and .u8 (z.toNat : Int) 15 = ((z.toNat % 16 : Nat) : Int) := and15 ⟨z.toNat, z.toNat_lt⟩
theorem dig_fin : ∀ q, q < 16 → (([48, 49, 50, 51, 52, 53, 54, 55, 56, 57, 97, 98, 99, 100, 101, 102] : List UInt8).getD q 0).toNat = (digL q).toNat := by decide
theorem dig_at (q : Nat) (hq : q < 16) (h : q < (⟨#[48, 49, 50, 51, 52, 53, 54, 55, 56, 57, 97, 98, 99, 100, 101, 102]⟩ : ByteArray).size) : (((⟨#[48, 49, 50, 51, 52, 53, 54, 55, 56, 57, 97, 98, 99, 100, 101, 102]⟩ : ByteArray)[q]'h).toNat : Int) = ((digL q).toNat : Int) := by
  rw [ba_get]
  exact congrArg Int.ofNat (dig_fin q hq)
def TextRel (w : World) (xs : List UInt8) (v i : Value) (wr : World) : Prop :=
  ∃ j : Nat, j ≤ 20 ∧ i = .int .i64 (j : Int) ∧ wr.ownsRow w.heap.size 5 1 v (2 * j) (bcells (textL (xs.take j))) ∧ Below w.heap.size w wr

theorem run_index26 (xs : List UInt8) (hx : xs.length = 20) (j : Nat) (hj : j < 20) (W : World) : (Instr.index 26 (.agg (bcells xs).toArray) (.int .i64 (j : Int))).run Try.prog W = .ok (.int .u8 ((xs.getD j 0).toNat : Int)) W := by
  have hl : j < xs.length := by omega
  have hi : (0 : Int) ≤ (j : Int) ∧ (j : Int) < ((20 : Nat) : Int) := by omega
  have hp : (part 5 (bcells xs).toArray j).run Try.prog W = .ok (.int .u8 ((xs.getD j 0).toNat : Int)) W := by
    have ha : (isAgg 5).run Try.prog W = .ok false W := by kernel_rfl
    simp [part, ha, bcells, List.getElem?_eq_getElem hl]
  obtain ⟨i0, hi0, hz0, hz1, hz2⟩ := info_parts info5
  have hu : Try.prog.underlying 26 = some (.array 20 5) := by kernel_rfl
  simp [Instr.index, asIntOf, run_underlying hu, hj, sizeOf, typeInfo, hi0, hz1, hp]

theorem make40 : ∃ C : Array Value, C.size = 40 ∧ ∀ W, (Instr.makeSlice 22 (.int .i64 0) (.int .i64 40)).run Try.prog W = .ok (.slice (some ⟨W.heap.size, 0, none⟩) 0 40) (W.alloc (.cells C 5)) := by
  obtain ⟨i0, hi, hz0, hz1, hz2⟩ := info_parts info5
  refine ⟨madeCells (Value.int .u8 0).cells (40 * i0.size), by simp [madeCells, hz1], fun W => ?_⟩
  exact run_make (P := Try.prog) W 22 5 i0 _ Try.underlying22 hi hz0 .i64 .i64 0 40 (by omega) (by omega) (by rw [hz2]; omega) (by omega)

theorem text_any (xs : List UInt8) (hx : xs.length = 20) (w : World) :
    Calls Try.prog 37 #[.agg (bcells xs).toArray] w fun e w' => e = .returned (.string (bstr (textL xs))) ∧ Below w.heap.size w w' := by
  have hid := fun j hj W => run_index26 xs hx j hj W
  obtain ⟨C, hC, hmk⟩ := make40
  obtain ⟨X, hX⟩ : ∃ X, X = (bcells xs).toArray := ⟨_, rfl⟩
  have hk : (loadVar 26 ⟨w.heap.size, 0, none⟩).run Try.prog ((w.alloc (.cells X 26)).alloc (.cells C 5)) = .ok (.agg X) ((w.alloc (.cells X 26)).alloc (.cells C 5)) := by
    rw [hX]
    exact load26 hx (heap2 w _ _).1
  simp only [← hX] at hid ⊢
  have HID := Lib.hid hid
  have HK := Lib.hid hk
  have HX := Lib.hid hx
  clear hid hk hx hX
  go_enter Try.func37, Try.ntmps37
  go_wp2_with ((with_reducible refine wpList_loadV (op := ⟨some 7, _, _, _, _, _⟩) rfl 26 (.tmp 1) rfl _ ?_ _ HK.out ?_); rfl)
  have R0 : TextRel w xs (.slice (some ⟨w.heap.size + 1, 0, none⟩) 0 40) (.int .i64 0) ((w.alloc (.cells X 26)).alloc (.cells C 5)) := by
    refine ⟨0, by omega, rfl, ?_, (heap2 w _ _).2.2⟩
    have := World.ownsRow_made (e := 5) (size := 1) (w.alloc (.cells X 26)) C 40 (base := w.heap.size) (by simp) (by simp [maxLen]) (by simp [hC])
    simpa [textL, bcells] using this
  have HR0 := Lib.hid R0
  clear R0 HK
  obtain ⟨i0, hi, hz0, hz1, hz2⟩ := info_parts info5
  go_loopw [3, 8] (TextRel w xs) (fun _ i _ => 20 - (intOf i).toNat)
  case atStart => exact HR0.out
  case round =>
    obtain ⟨j, hj, rfl, hown, hb⟩ := hrel
    clear HR0
    by_cases hlt : j < 20
    · have hidx := fun W => HID.out j hlt W
      have hb8 := (xs.getD j 0).toNat_lt
      obtain ⟨q, hq⟩ : ∃ q, (xs.getD j 0).toNat / 16 = q := ⟨_, rfl⟩
      obtain ⟨r, hr⟩ : ∃ r, (xs.getD j 0).toNat % 16 = r := ⟨_, rfl⟩
      have hbq : ((xs.getD j 0).toNat : Int) / 16 = (q : Int) := by omega
      have hbr : bits .and .u8 ((xs.getD j 0).toNat : Int) 15 = (r : Int) := by rw [← hr]; exact and15' _
      have q16 : (q : Int) < 16 := by omega
      have r16 : (r : Int) < 16 := by omega
      have HT := Lib.hid (textL_take xs j (by have := HX.out; omega))
      have HH : Hid (hexL (xs.getD j 0) = [digL q, digL r]) := Lib.hid (by unfold hexL; rw [hq, hr])
      generalize (xs.getD j 0).toNat = b at hidx hbq hbr
      clear hb8 hq hr
      go_wp2
      refine wp_region_any (by kernel_rfl) ?_
      try (change wpAny _ _ _ _ _ _ _ (World.drew _))
      refine take_at 0 11 (v := ?_) rfl rfl (by kernel_rfl) (by kernel_rfl) (by kernel_rfl) (fun _ _ _ h => h) (Or.inl ⟨by rfl, ?_⟩) ?_
      rotate_left
      · (intro wx; go_simp) <;> with_reducible rfl
      simp only [Act.put, List.setIfInBounds_toArray, List.set_cons_zero, List.set_cons_succ]
      refine take_at 1 12 (v := ?_) rfl rfl (by kernel_rfl) (by kernel_rfl) (by kernel_rfl) (fun _ _ _ h => h) (Or.inl ⟨by rfl, ?_⟩) ?_
      rotate_left
      · (intro wx; go_simp) <;> with_reducible rfl
      simp only [Act.put, List.setIfInBounds_toArray, List.set_cons_zero, List.set_cons_succ]
      refine take_at 2 13 (v := ?_) rfl rfl (by kernel_rfl) (by kernel_rfl) (by kernel_rfl) (fun _ _ _ h => h) (Or.inl ⟨by rfl, ?_⟩) ?_
      rotate_left
      · (intro wx; go_simp) <;> with_reducible rfl
      simp only [Act.put, List.setIfInBounds_toArray, List.set_cons_zero, List.set_cons_succ]
      refine take_at 3 14 (v := ?_) rfl rfl (by kernel_rfl) (by kernel_rfl) (by kernel_rfl) (fun _ _ _ h => h) (Or.inl ⟨by rfl, ?_⟩) ?_
      rotate_left
      · (intro wx; go_simp) <;> with_reducible rfl
      simp only [Act.put, List.setIfInBounds_toArray, List.set_cons_zero, List.set_cons_succ]
      refine take_at 4 15 (v := ?_) rfl rfl (by kernel_rfl) (by kernel_rfl) (by kernel_rfl) (fun _ _ _ h => h) (Or.inl ⟨by rfl, ?_⟩) ?_
      rotate_left
      · (intro wx; go_simp) <;> with_reducible rfl
      simp only [Act.put, List.setIfInBounds_toArray, List.set_cons_zero, List.set_cons_succ]
      refine take_at 5 16 (v := ?_) rfl rfl (by kernel_rfl) (by kernel_rfl) (by kernel_rfl) (fun _ _ _ h => h) (Or.inl ⟨by rfl, ?_⟩) ?_
      rotate_left
      · (intro wx; go_simp) <;> with_reducible rfl
      simp only [Act.put, List.setIfInBounds_toArray, List.set_cons_zero, List.set_cons_succ]
      refine take_at 6 17 (v := ?_) rfl rfl (by kernel_rfl) (by kernel_rfl) (by kernel_rfl) (fun _ _ _ h => h) (Or.inl ⟨by rfl, ?_⟩) ?_
      rotate_left
      · (intro wx; go_simp) <;> with_reducible rfl
      simp only [Act.put, List.setIfInBounds_toArray, List.set_cons_zero, List.set_cons_succ]
      refine wpAny_ready (rs := [7]) (by kernel_rfl) (by simp) ?_
      refine AllReady.cons rfl (fun K hK => ?_) ?_
      · go_simp
        refine hK _ _ ?_
        clear hK K
        refine wpAny_ready (rs := [8]) (by kernel_rfl) (by simp) ?_
        refine AllReady.cons rfl (fun K hK => ?_) ?_
        · refine step_append_keep _ rfl 19 rfl (.tmp 11) (.tmp 18) _ _ rfl w.heap.size 5 i0 _ 1 Try.underlying22 hi hz0 hz1 hz2 rfl u3 (2 * j) (bcells (textL (xs.take j))) rfl (hown.alloc _) (.slice (some ⟨wr.heap.size, 0, none⟩) 2 2) 2 (bcells [digL q, digL r]) rfl (src_two Try.underlying22 wr.drew 5 _ _ _ _ (dig_at q (by omega) _) (dig_at r (by omega) _)) (by simp only [maxLen]; omega) (by omega) (by have := hb.size; simp; omega) ?_
          intro v2 w2 ho2 hg2 hat2
          refine hK _ _ ?_
          have hr2 : TextRel w xs v2 (.int .i64 ((j : Int) + 1)) w2 := by
            refine ⟨j + 1, by omega, by go_num, ?_, ?_⟩
            · rw [HT.out, HH.out, bcells_append]
              exact ho2
            · exact (hb.drew.alloc (by have := hb.size; simp; omega) _).grown hg2 (by have := hb.size; simp; omega) (fun b hbb => (hown.lt b hbb).1)
          have HREL := Lib.hid hr2
          clear hK K ho2 hg2 hat2 hr2 hown
          simp only [Act.put, List.setIfInBounds_toArray, List.set_cons_zero, List.set_cons_succ]
          refine take_at 9 3 (v := ?_) rfl rfl (by kernel_rfl) (by kernel_rfl) (by kernel_rfl) (fun _ _ _ h => h) (Or.inl ⟨by rfl, ?_⟩) ?_
          rotate_left
          · (intro wx; go_simp) <;> with_reducible rfl
          simp only [Act.put, List.setIfInBounds_toArray, List.set_cons_zero, List.set_cons_succ]
          refine wpAny_done (by kernel_rfl) ?_ _
          go_wp2
          go_roundw
          case rel => exact HREL.out
          case measure => simp [intOf]; omega
        exact AllReady.nil
      exact AllReady.nil
    · obtain rfl : j = 20 := by omega
      have hxl := HX.out
      have e : xs.take 20 = xs := by rw [← hxl]; exact List.take_length
      rw [e] at hown
      have hcv := run_convert_own 22 9 5 Try.underlying22 Try.underlying5 Try.underlying9 hown
      clear e hxl HID
      go_wp2
      go_ret
      exact ⟨rfl, hb⟩
end Go.Proofs.Ytcoiaddjfeaciaa
