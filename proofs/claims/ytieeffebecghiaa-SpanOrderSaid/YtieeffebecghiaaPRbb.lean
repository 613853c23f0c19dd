/- Contracts of With of package ident and of its reference. Conditions: an id has 20 bytes. -/
import Derived.Test.YtieeffebecghiaaPIdf
import Derived.StillTailTactics
namespace Go.Proofs.Ytieeffebecghiaa
set_option maxRecDepth 100000
set_option maxHeartbeats 400000
open Go.RowKit Go.Great

theorem or_fin : ∀ (z : Fin 256) (k : Fin 8), bits .or .u8 (z.val : Int) ((2 ^ k.val : Nat) : Int) = ((withB (UInt8.ofNat z.val) k.val true).toNat : Int) := by decide +kernel
theorem andnot_fin : ∀ (z : Fin 256) (k : Fin 8), bits .andNot .u8 (z.val : Int) ((2 ^ k.val : Nat) : Int) = ((withB (UInt8.ofNat z.val) k.val false).toNat : Int) := by decide +kernel
theorem orB_byte (z : UInt8) (k : Nat) (h : k < 8) : bits .or .u8 (z.toNat : Int) ((2 ^ k : Nat) : Int) = ((withB z k true).toNat : Int) := by
  have := or_fin ⟨z.toNat, z.toNat_lt⟩ ⟨k, h⟩
  simpa using this
theorem andnotB_byte (z : UInt8) (k : Nat) (h : k < 8) : bits .andNot .u8 (z.toNat : Int) ((2 ^ k : Nat) : Int) = ((withB z k false).toNat : Int) := by
  have := andnot_fin ⟨z.toNat, z.toNat_lt⟩ ⟨k, h⟩
  simpa using this
theorem mask_st (j : Nat) (w : World) (h : j < 160) (M : Int) (hM : ((2 ^ (7 - j % 8) : Nat) : Int) = M) : Calls Try.prog 38 #[.int .i64 (j : Int)] w fun e w' => e = .returned (.int .u8 M) ∧ w' = w := by
  subst hM
  exact (mask_any j w h).mono (by rintro e w' ⟨rfl, rfl⟩; exact ⟨rfl, rfl⟩)
theorem bcells_set (xs : List UInt8) (q : Nat) (v : UInt8) : (bcells xs).toArray.setIfInBounds q (.int .u8 (v.toNat : Int)) = (bcells (xs.set q v)).toArray := by
  rw [List.setIfInBounds_toArray]
  congr 1
  simp [bcells, List.map_set]

theorem region_tail {P : Program} {id : Nat} {Q : Exit → Act → World → Prop} {a : Act} {w : World} {l : List Oper} (n : Nat) (W1 : World) (hW : W1 = { w with drawn := w.drawn + 1 }) (hm : P.follows .mixedOrders = true) (hB : Region.lexTailB .any l.toArray n = true)
    (h : wpStill P l.toArray W1 (fun a' => wpList P l.toArray Q (l.drop n) a' W1) (l.take n) a) : (Code.region id l.toArray true).wp P Q a w := by
  subst hW
  exact wp_region_still_tail n hm hB h

/-- What is asked at the end of a function that answers an id out of a box of its own. -/
structure IdEnd (W : World) (g g' : Nat) (L : List Value) : Prop where
  q1 : W.rangeAt g 0 L
  ht : W.there g' 0 L.toArray.size
  hs : (W.setCells g' 0 L).rangeAt g' 0 L
  hi : (Try.prog.info? 23).map (·.size) = some L.toArray.size
  hj : (Try.prog.info? 23).map (·.size) = some L.length
  hc : L.toArray.all (·.oneCell') = true
theorem idEnd {W : World} {g g' : Nat} {t t' : TypeId} {xs zs : List UInt8} (hx : xs.length = 20) (hz : zs.length = 20) (h : W.heap[g]? = some (.cells (bcells xs).toArray t (0, 0))) (h' : W.heap[g']? = some (.cells (bcells zs).toArray t' (0, 0))) : IdEnd W g g' (bcells xs) := by
  have hl : (bcells xs).length = 20 := by rw [bcells_length, hx]
  have hsz : (bcells xs).toArray.size = 20 := (List.size_toArray).trans hl
  have hT := row_there h'
  rw [bcells_length, hz] at hT
  exact ⟨row_range h, by rw [hsz]; exact hT, World.rangeAt_setCells_same W g' 0 _ (by rw [hl]; exact hT), by rw [hsz]; exact size26, by rw [hl]; exact size26, all_oneCell_toArray (bcells_one _)⟩

theorem with_yes (xs : List UInt8) (hx : xs.length = 20) (j : Nat) (hj : j < 160) (bit : Int) (w : World) :
    Calls Try.prog 40 #[.agg (bcells xs).toArray, .int .i64 (j : Int), .int .i64 bit] w fun e w' => e = .returned (.agg (bcells (withL xs j (decide (bit ≠ 0)))).toArray) ∧ Below w.heap.size w w' := by
  obtain ⟨X, hX⟩ : ∃ X, X = (bcells xs).toArray := ⟨_, rfl⟩
  obtain ⟨Z, hZ⟩ : ∃ Z, Z = (bcells (List.replicate 20 0)).toArray := ⟨_, rfl⟩
  have hz := fun W => zero26 W
  rw [← hZ] at hz
  obtain ⟨q, hq⟩ : ∃ q, j / 8 = q := ⟨_, rfl⟩
  have hq2 : q < 20 := by omega
  obtain ⟨h1, h2, h4⟩ := heap2 w (.cells X 23) (.cells Z 23)
  obtain ⟨W1, hW1⟩ : ∃ W1, W1 = ((w.alloc (.cells X 23)).alloc (.cells Z 23)).drew := ⟨_, rfl⟩
  have r1 : W1.heap[w.heap.size]? = some (.cells X 23 (0, 0)) := by rw [hW1]; exact h1
  have r2 : W1.heap[w.heap.size + 1]? = some (.cells Z 23 (0, 0)) := by rw [hW1]; exact h2
  have r4 : Below w.heap.size w W1 := by rw [hW1]; exact h4.drew
  have hc : W1.cell? ⟨w.heap.size, q, none⟩ = some (.int .u8 ((xs.getD q 0).toNat : Int)) := row_byte (by rw [r1, hX]) q (by omega)
  have hf := frozen_of_row _ w.heap.size q _ 23 r1
  have hd : (j : Int) / 8 = (q : Int) := by omega
  have hwq : IntKind.i64.wrap (q : Int) = (q : Int) := by rw [IntKind.wrap_i64]; omega
  have hq3 : (q : Int) < 20 := by omega
  obtain ⟨M, hM⟩ : ∃ M : Int, ((2 ^ (7 - j % 8) : Nat) : Int) = M := ⟨_, rfl⟩
  have ho := orB_byte (xs.getD q 0) (7 - j % 8) (by omega)
  have ha := andnotB_byte (xs.getD q 0) (7 - j % 8) (by omega)
  rw [hM] at ho ha
  have HP := Lib.hid (fun W => isPlace_yes (j : Int) W (by omega) (by omega))
  have HM := Lib.hid (fun W => mask_st j W hj M hM)
  rw [← hX]
  have hend : ∀ v : UInt8, IdEnd (W1.setCell ⟨w.heap.size, q, none⟩ (.int .u8 (v.toNat : Int))) w.heap.size (w.heap.size + 1) (bcells (xs.set q v)) ∧ Below w.heap.size w (W1.setCell ⟨w.heap.size, q, none⟩ (.int .u8 (v.toNat : Int))) := fun v => by
    refine ⟨idEnd (t := 23) (t' := 23) (zs := List.replicate 20 0) (by simp [hx]) (by simp) ?_ ?_, r4.setCell (p := ⟨w.heap.size, q, none⟩) (Nat.le_refl _) _⟩
    · have := heap_setCell_same W1 w.heap.size q _ 23 (.int .u8 (v.toNat : Int)) r1
      rw [hX, bcells_set] at this
      exact this
    · rw [Below.heap_setCell _ _ _ _ (by simp), r2, hZ]
  have HEND := Lib.hid hend
  have HW1 := Lib.hid hW1
  clear h1 h2 h4 r1 r2 r4 hend hW1 hX hZ
  by_cases hb : bit = 0
  · have hw : withL xs j (decide (bit ≠ 0)) = xs.set q (withB (xs.getD q 0) (7 - j % 8) false) := by
      unfold withL
      rw [hq]
      simp [hb]
    generalize withB (xs.getD q 0) (7 - j % 8) false = v at ha hw
    generalize (xs.getD q 0).toNat = b at hc ha ho
    obtain ⟨E, hB⟩ := HEND.out v
    obtain ⟨L, hL⟩ : ∃ L, L = bcells (xs.set q v) := ⟨_, rfl⟩
    rw [← hL] at E
    have HE := Lib.hid E
    have HBB := Lib.hid hB
    have HL : Hid (L = bcells (withL xs j (decide (bit ≠ 0)))) := Lib.hid (by rw [hL, hw])
    clear ho hq hM hw hL E hB HEND
    subst hb
    go_enter Try.func40, Try.ntmps40
    go_upto_region 4 with (go_at_call 37; refine (HP.out _).mono ?_; rintro e w1 ⟨rfl, rfl⟩)
    refine region_tail 8 W1 HW1.out (by kernel_rfl) (by kernel_rfl) ?_
    simp only [List.take_succ_cons, List.take_zero, List.drop_succ_cons, List.drop_zero]
    repeat (first | still_step | still_call (HM.out _))
    try refine wpStill_nil ?_
    go_wp2_with ((with_reducible refine wpList_load_mid (op := ⟨some 29, _, _, _, _, _⟩) rfl 23 (.tmp 3) rfl w.heap.size 0 ?_ L _ HE.out.q1 Try.underlying23 rfl HE.out.hj ?_); rfl; refine wpList_store_mid rfl 23 (.tmp 6) (.tmp 29) rfl (w.heap.size + 1) 0 L.toArray rfl rfl HE.out.ht HE.out.hi HE.out.hc ?_)
    refine bodyPost_ret (v := .agg L.toArray) ?_ rfl ?_
    · exact results_cell1 (p := 6) (ty := 23) rfl _ _ (w.heap.size + 1) 0 L _ rfl (by simpa using HE.out.hs) Try.underlying23 rfl HE.out.hj
    · exact ⟨by rw [HL.out], by simpa using below_cells (by omega) L 0 _ HBB.out⟩
  · have hw : withL xs j (decide (bit ≠ 0)) = xs.set q (withB (xs.getD q 0) (7 - j % 8) true) := by
      unfold withL
      rw [hq]
      simp [hb]
    generalize withB (xs.getD q 0) (7 - j % 8) true = v at ho hw
    generalize (xs.getD q 0).toNat = b at hc ha ho
    obtain ⟨E, hB⟩ := HEND.out v
    obtain ⟨L, hL⟩ : ∃ L, L = bcells (xs.set q v) := ⟨_, rfl⟩
    rw [← hL] at E
    have HE := Lib.hid E
    have HBB := Lib.hid hB
    have HL : Hid (L = bcells (withL xs j (decide (bit ≠ 0)))) := Lib.hid (by rw [hL, hw])
    clear ha hq hM hw hL E hB HEND
    go_enter Try.func40, Try.ntmps40
    go_upto_region 5 with (go_at_call 37; refine (HP.out _).mono ?_; rintro e w1 ⟨rfl, rfl⟩)
    refine region_tail 8 W1 HW1.out (by kernel_rfl) (by kernel_rfl) ?_
    simp only [List.take_succ_cons, List.take_zero, List.drop_succ_cons, List.drop_zero]
    repeat (first | still_step | still_call (HM.out _))
    try refine wpStill_nil ?_
    go_wp2_with ((with_reducible refine wpList_load_mid (op := ⟨some 29, _, _, _, _, _⟩) rfl 23 (.tmp 3) rfl w.heap.size 0 ?_ L _ HE.out.q1 Try.underlying23 rfl HE.out.hj ?_); rfl; refine wpList_store_mid rfl 23 (.tmp 6) (.tmp 29) rfl (w.heap.size + 1) 0 L.toArray rfl rfl HE.out.ht HE.out.hi HE.out.hc ?_)
    refine bodyPost_ret (v := .agg L.toArray) ?_ rfl ?_
    · exact results_cell1 (p := 6) (ty := 23) rfl _ _ (w.heap.size + 1) 0 L _ rfl (by simpa using HE.out.hs) Try.underlying23 rfl HE.out.hj
    · exact ⟨by rw [HL.out], by simpa using below_cells (by omega) L 0 _ HBB.out⟩
end Go.Proofs.Ytieeffebecghiaa
