/- End, Alive, Left, Over, cmp, bit, bytes, Good of the reference. Conditions: targets of at most 100,000 bytes. -/
import Derived.Test.YtkceipkgebgigaaXIic
import Derived.Test.YtkceipkgebgigaaXIih
import Derived.Test.YtkceipkgebgigaaXJLra
namespace Go.Proofs.Ytkceipkgebgigaa
open Go.Shelf Go.RowKit Go.Lib Go.Great
set_option maxRecDepth 100000
set_option maxHeartbeats 1000000
theorem rend_any (i : Ins) (w : World) : Calls Try.prog 17 #[.agg (encI i).toArray] w fun e w' => e = .returned (.int .u64 (endI i : Int)) ∧ w' = w.alloc (.cells (encI i).toArray 28) := by
  have HF := fldB (heap_alloc_new w (.cells (encI i).toArray 28))
  have c1 := HF.born
  have c2 := HF.life
  have h1 := i.hb
  have h2 := i.hl
  have h3 : (i.life : Int) % 18446744073709551616 = i.life := by omega
  have h4 : ((18446744073709551615 : Int) - (i.life : Int)) % 18446744073709551616 = 18446744073709551615 - i.life := by omega
  have HE : Hid (endI i = if 18446744073709551615 < i.born + i.life then 18446744073709551615 else i.born + i.life) := Lib.hid rfl
  generalize (encI i).toArray = X at *
  generalize endI i = E at *
  generalize i.born = b at *
  generalize i.life = l at *
  clear HF
  by_cases h : 18446744073709551615 < b + l
  · have hE : E = 18446744073709551615 := by rw [HE.out, if_pos h]
    have h5 : (18446744073709551615 : Int) - (l : Int) < (b : Int) := by omega
    subst hE
    clear HE
    go_enter Try.func17, Try.ntmps17
    go_wp2
    go_ret
    exact ⟨rfl, rfl⟩
  · have hE : E = b + l := by rw [HE.out, if_neg h]
    have h5 : ¬ (18446744073709551615 : Int) - (l : Int) < (b : Int) := by omega
    have h6 : ((b : Int) + (l : Int)) % 18446744073709551616 = b + l := by omega
    subst hE
    clear HE
    go_enter Try.func17, Try.ntmps17
    go_wp2
    go_ret
    exact ⟨by simp, rfl⟩
theorem rover_any (i : Ins) (n : Nat) (w : World) : Calls Try.prog 23 #[.agg (encI i).toArray, .int .u64 (n : Int)] w fun e w' => e = .returned (.bool (overI i n)) ∧ Below w.heap.size w w' := by
  have hb : Below w.heap.size w (w.alloc (.cells (encI i).toArray 28)) := (Below.refl _ w).alloc (Nat.le_refl _) _
  have HF := fldB (heap_alloc_new w (.cells (encI i).toArray 28))
  have HK := Lib.hid HF.all
  have HC := Lib.hid (rend_any i)
  have HE : Hid (((endI i : Nat) : Int) ≤ (n : Int) ↔ overI i n = true) := Lib.hid (by unfold overI; rw [decide_eq_true_eq]; omega)
  have HB := Lib.hid (fun W (h : W = (w.alloc (.cells (encI i).toArray 28)).alloc (.cells (encI i).toArray 28)) => show Below w.heap.size w W by rw [h]; exact hb.alloc hb.size _)
  generalize (encI i).toArray = X at *
  generalize endI i = E at *
  generalize overI i n = k at *
  clear hb HF
  go_enter Try.func23, Try.ntmps23
  go_wp2_with (first
    | ((with_reducible refine wpList_loadV (op := ⟨some 6, _, _, _, _, _⟩) rfl 28 (.tmp 2) rfl _ ?_ _ HK.out ?_); rfl)
    | (go_at_call 17; (with_reducible refine (HC.out _).mono ?_); rintro e w1 ⟨rfl, hw1⟩))
  go_ret
  refine ⟨?_, HB.out _ rfl⟩
  have := HE.out
  cases k
  · simp only [Bool.false_eq_true, iff_false] at this
    simp
    omega
  · simp only [iff_true] at this
    simp
    omega
theorem ralive_any (i : Ins) (n : Nat) (w : World) : Calls Try.prog 19 #[.agg (encI i).toArray, .int .u64 (n : Int)] w fun e w' => e = .returned (.bool (aliveI i n)) ∧ Below w.heap.size w w' := by
  have hb : Below w.heap.size w (w.alloc (.cells (encI i).toArray 28)) := (Below.refl _ w).alloc (Nat.le_refl _) _
  have HF := fldB (heap_alloc_new w (.cells (encI i).toArray 28))
  have HK := Lib.hid HF.all
  have c1 := HF.born
  have HC := Lib.hid (rend_any i)
  have HE : Hid (aliveI i n = (decide (i.born ≤ n) && !decide (endI i ≤ n))) := Lib.hid rfl
  have HB := Lib.hid hb
  have HB2 : Hid (Below w.heap.size w ((w.alloc (.cells (encI i).toArray 28)).alloc (.cells (encI i).toArray 28))) := Lib.hid (hb.alloc hb.size _)
  generalize (encI i).toArray = X at *
  generalize endI i = E at *
  generalize aliveI i n = r at *
  generalize i.born = b at *
  clear hb HF
  by_cases h : b ≤ n
  · have hr : r = !decide (E ≤ n) := by rw [HE.out, decide_eq_true (show b ≤ n by omega), Bool.true_and]
    have h' : (b : Int) ≤ (n : Int) := by omega
    have HR := Lib.hid hr
    clear HE hr
    go_enter Try.func19, Try.ntmps19
    go_wp2_with (first
      | ((with_reducible refine wpList_loadG (o := ⟨some 11, _, _, _, _, _⟩) rfl 28 (.tmp 2) rfl _ ?_ _ HK.out ?_); rfl)
      | (go_at_call 17; (with_reducible refine (HC.out _).mono ?_); rintro e w1 ⟨rfl, rfl⟩))
    go_ret
    refine ⟨?_, HB2.out⟩
    rw [HR.out]
    by_cases h2 : E ≤ n <;> simp [h2] <;> omega
  · have hr : r = false := by rw [HE.out, decide_eq_false (show ¬ b ≤ n by omega), Bool.false_and]
    have h' : ¬ (b : Int) ≤ (n : Int) := by omega
    subst hr
    clear HE
    go_enter Try.func19, Try.ntmps19
    go_wp2
    go_ret
    exact ⟨rfl, HB.out⟩
theorem rleft_anyI (i : Ins) (n : Nat) (hn : n < 18446744073709551616) (w : World) : Calls Try.prog 21 #[.agg (encI i).toArray, .int .u64 (n : Int)] w fun e w' => e = .returned (.int .u32 (leftI i n : Int)) ∧ Below w.heap.size w w' := by
  have hb : Below w.heap.size w (w.alloc (.cells (encI i).toArray 28)) := (Below.refl _ w).alloc (Nat.le_refl _) _
  have HK : Hid (∀ W, Below (w.heap.size + 1) (w.alloc (.cells (encI i).toArray 28)) W → (loadVar 28 ⟨w.heap.size, 0, none⟩).run Try.prog W = .ok (.agg (encI i).toArray) W) :=
    Lib.hid (fun W hW => (fld_below (heap_alloc_new w (.cells (encI i).toArray 28)) hW (by omega)).all)
  have HC : Hid (∀ W, Calls Try.prog 19 #[.agg (encI i).toArray, .int .u64 (n : Int)] W fun e w' => e = .returned (.bool (aliveI i n)) ∧ Below W.heap.size W w') := Lib.hid (ralive_any i n)
  have HD := Lib.hid (rend_any i)
  have HB := Lib.hid hb
  have HR : Hid (leftI i n = if aliveI i n = true then endI i - n else 0) := Lib.hid rfl
  have HL : Hid (leftI i n ≤ i.life) := Lib.hid (leftI_le i n)
  have hl := i.hl
  have HA : Hid (aliveI i n = true → n ≤ endI i) := Lib.hid (fun h => by
    unfold aliveI overI at h
    simp only [Bool.and_eq_true, decide_eq_true_eq, Bool.not_eq_true', decide_eq_false_iff_not] at h
    omega)
  have hE := endI_lt i
  generalize (encI i).toArray = X at *
  generalize endI i = E at *
  generalize leftI i n = r at *
  generalize aliveI i n = a at *
  generalize i.life = l at *
  clear hb
  cases a
  · have hr : r = 0 := by rw [HR.out]; rfl
    subst hr
    clear HR HL HA
    go_enter Try.func21, Try.ntmps21
    go_wp2_with (first
      | ((with_reducible refine wpList_loadV (op := ⟨some 5, _, _, _, _, _⟩) rfl 28 (.tmp 2) rfl _ ?_ _ (HK.out _ (Below.refl _ _)) ?_); rfl)
      | (go_at_call 19; (with_reducible refine (HC.out _).mono ?_); rintro e w1 ⟨rfl, hb1⟩))
    go_ret
    exact ⟨rfl, HB.out.trans (hb1.mono HB.out.size)⟩
  · have hr : r = E - n := by rw [HR.out]; rfl
    have h1 : IntKind.u64.wrap ((E : Int) - (n : Int)) = (r : Int) := by have := HA.out rfl; rw [IntKind.wrap]; simp [IntKind.signed, IntKind.bits]; omega
    have h2 : (r : Int) % 4294967296 = r := by have := HL.out; omega
    clear HR HL HA hr
    go_enter Try.func21, Try.ntmps21
    go_wp2_with (first
      | ((with_reducible refine wpList_loadV (op := ⟨some 5, _, _, _, _, _⟩) rfl 28 (.tmp 2) rfl _ ?_ _ (HK.out _ (Below.refl _ _)) ?_); rfl)
      | ((with_reducible refine wpList_loadV (op := ⟨some 9, _, _, _, _, _⟩) rfl 28 (.tmp 2) rfl _ ?_ _ (HK.out _ (by simpa using hb1)) ?_); rfl)
      | (go_at_call 19; (with_reducible refine (HC.out _).mono ?_); rintro e w1 ⟨rfl, hb1⟩)
      | (go_at_call 17; (with_reducible refine (HD.out _).mono ?_); rintro e w2 ⟨rfl, hw2⟩))
    go_ret
    have hb2 := HB.out.trans (hb1.mono HB.out.size)
    refine ⟨by simp [h1, h2], ?_⟩
    exact hb2.alloc hb2.size _
theorem rcmp64 (a b : Nat) (w : World) : Calls Try.prog 63 #[.int .u64 (a : Int), .int .u64 (b : Int)] w fun e w' => e = .returned (.int .i64 (cmpN a b)) ∧ w' = w := by
  by_cases h1 : a < b
  · have h : (a : Int) < (b : Int) := by omega
    rw [show cmpN a b = -1 by unfold cmpN; rw [if_pos h1]]
    go_enter Try.func63, Try.ntmps63
    go_wp2
    go_ret
    exact ⟨rfl, rfl⟩
  · have h : ¬ (a : Int) < (b : Int) := by omega
    by_cases h2 : b < a
    · have h3 : (b : Int) < (a : Int) := by omega
      rw [show cmpN a b = 1 by unfold cmpN; rw [if_neg h1, if_pos h2]]
      go_enter Try.func63, Try.ntmps63
      go_wp2
      go_ret
      exact ⟨rfl, rfl⟩
    · have h3 : ¬ (b : Int) < (a : Int) := by omega
      rw [show cmpN a b = 0 by unfold cmpN; rw [if_neg h1, if_neg h2]]
      go_enter Try.func63, Try.ntmps63
      go_wp2
      go_ret
      exact ⟨rfl, rfl⟩
theorem bit_any (b : Bool) (w : World) : Calls Try.prog 64 #[.bool b] w fun e w' => e = .returned (.int .u64 (flagN b : Int)) ∧ w' = w := by
  cases b
  · go_enter Try.func64, Try.ntmps64
    go_wp2
    go_ret
    exact ⟨rfl, rfl⟩
  · go_enter Try.func64, Try.ntmps64
    go_wp2
    go_ret
    exact ⟨rfl, rfl⟩
end Go.Proofs.Ytkceipkgebgigaa
