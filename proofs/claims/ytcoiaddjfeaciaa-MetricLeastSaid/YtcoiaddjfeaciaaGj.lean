/- Contracts of the reference's Bit. Conditions: an id has 20 bytes. Ids with a bit turned, as lists of bytes: plain lemmas without a program. No condition. Contracts of With of package ident and of its reference. Conditions: an id has 20 bytes. Contracts of With of package ident and of its reference, for any bit. Conditions: an id has 20 bytes. Contract of the reference's With. Conditions: an id has 20 bytes. -/
import Derived.Test.YtcoiaddjfeaciaaGi
import Derived.Test.YtcoiaddjfeaciaaGa
import Derived.StillTailTactics
section
namespace Go.Proofs.Ytcoiaddjfeaciaa
set_option maxRecDepth 100000
set_option maxHeartbeats 400000
open Go.RowKit Go.Great

theorem zero42 (W : World) : (zeroValue 42).run Try.prog W = .ok (.agg (bcells (List.replicate 20 0)).toArray) W := by
  have h : (Try.prog.info? 42).map (·.zero) = some (some (.agg (bcells (List.replicate 20 0)).toArray)) := by kernel_rfl
  cases hi : Try.prog.info? 42 with
  | none => rw [hi] at h; cases h
  | some i =>
    rw [hi] at h
    simp only [Option.map_some, Option.some.injEq] at h
    simp [zeroValue, typeInfo, hi, h]
theorem size42 : (Try.prog.info? 42).map (·.size) = some 20 := by kernel_rfl
theorem load42 {w : World} {g : Nat} {xs : List UInt8} {ty : TypeId} (hx : xs.length = 20) (h : w.heap[g]? = some (.cells (bcells xs).toArray ty (0, 0))) : (loadVar 42 ⟨g, 0, none⟩).run Try.prog w = .ok (.agg (bcells xs).toArray) w :=
  run_loadVar_mid w g 0 42 (bcells xs) _ (row_range h) Try.underlying42 rfl (by rw [bcells_length, hx]; exact size42)
theorem built42 (W : World) : (Instr.build 42 #[]).run Try.prog W = .ok (.agg (bcells (List.replicate 20 0)).toArray) W := run_build W 42 #[] _ (by kernel_rfl)
theorem eq42 (xs ys : List UInt8) (hx : xs.length = 20) (hy : ys.length = 20) (W : World) : (Op.equalIn 10000 42 (.agg (bcells xs).toArray) (.agg (bcells ys).toArray)).run Try.prog W = .ok (xs == ys) W :=
  run_equalIn_bytes W 9998 42 5 20 Try.underlying42 Try.underlying5 (fun w => by
    obtain ⟨i0, hi, hz0, hz1, hz2⟩ := info_parts info5
    simp [sizeOf, typeInfo, hi, hz1]) xs ys hx hy

theorem rbit_no (X : Array Value) (i : Int) (h : ¬ (0 ≤ i ∧ i < 160)) (w : World) :
    Calls Try.prog 25 #[.agg X, .int .i64 i] w fun e w' => e = .returned (.int .i64 0) ∧ Below w.heap.size w w' := by
  by_cases h1 : i < 0
  · clear h
    go_enter Try.func25, Try.ntmps25
    go_wp2
    go_ret
    exact ⟨rfl, (Below.refl _ w).alloc (Nat.le_refl _) _⟩
  · have h2 : 160 ≤ i := by omega
    clear h
    go_enter Try.func25, Try.ntmps25
    go_wp2
    go_ret
    exact ⟨rfl, (Below.refl _ w).alloc (Nat.le_refl _) _⟩

theorem rbit_fin : ∀ (z : Fin 256) (k : Fin 8), bits .and .i64 ((z.val : Int) / 2 ^ k.val) 1 = if z.val.testBit k.val then 1 else 0 := by decide +kernel
theorem rbit_byte (z : UInt8) (k : Nat) (h : k < 8) : bits .and .i64 ((z.toNat : Int) / 2 ^ k) 1 = if z.toNat.testBit k then 1 else 0 := rbit_fin ⟨z.toNat, z.toNat_lt⟩ ⟨k, h⟩
theorem rbit_yes (xs : List UInt8) (hx : xs.length = 20) (j : Nat) (hj : j < 160) (w : World) :
    Calls Try.prog 25 #[.agg (bcells xs).toArray, .int .i64 (j : Int)] w fun e w' => e = .returned (.int .i64 (if bitL xs j then 1 else 0)) ∧ Below w.heap.size w w' := by
  obtain ⟨X, hX⟩ : ∃ X, X = (bcells xs).toArray := ⟨_, rfl⟩
  obtain ⟨q, hq⟩ : ∃ q, j / 8 = q := ⟨_, rfl⟩
  have hq2 : q < 20 := by omega
  have hc : ∀ W : World, (W.alloc (.cells X 42)).cell? ⟨W.heap.size, q, none⟩ = some (.int .u8 ((xs.getD q 0).toNat : Int)) := fun W => by
    have := row_byte (w := W.alloc (.cells X 42)) (g := W.heap.size) (xs := xs) (ty := 42) (by rw [← hX]; exact heap_alloc_new W _) q (by omega)
    exact this
  have h160 : (j : Int) < 160 := by omega
  have hd : (j : Int) / 8 = (q : Int) := by omega
  have hbt := rbit_byte (xs.getD q 0) (7 - j % 8) (by omega)
  rw [show (xs.getD q 0).toNat.testBit (7 - j % 8) = bitL xs j by rw [← hq]; rfl] at hbt
  have hb := (xs.getD q 0).toNat_lt
  rw [← hX]
  clear hX
  generalize (xs.getD q 0).toNat = b at hc hbt hb
  have hw : wrap64 (b : Int) = (b : Int) := by unfold wrap64; omega
  generalize bitL xs j = bt at hbt ⊢
  clear hq hj hx hb
  cases bt
  all_goals
    simp only [Bool.false_eq_true, if_false, if_true] at hbt ⊢
    go_enter Try.func25, Try.ntmps25
    go_wp2
    go_ret
    exact ⟨rfl, (Below.refl _ w).alloc (Nat.le_refl _) _⟩
/-- Bit i of an id, or 0. -/
def bitI (xs : List UInt8) (i : Int) : Int := if 0 ≤ i ∧ i < 160 then (if bitL xs i.toNat then 1 else 0) else 0
theorem bitI_nat (xs : List UInt8) (j : Nat) (h : j < 160) : bitI xs (j : Int) = if bitL xs j then 1 else 0 := by
  unfold bitI
  rw [if_pos (by omega)]
  rfl
theorem bit_any (xs : List UInt8) (hx : xs.length = 20) (i : Int) (w : World) :
    Calls Try.prog 24 #[.agg (bcells xs).toArray, .int .i64 i] w fun e w' => e = .returned (.int .i64 (bitI xs i)) ∧ Below w.heap.size w w' := by
  by_cases h : 0 ≤ i ∧ i < 160
  · obtain ⟨j, rfl⟩ : ∃ j : Nat, i = j := ⟨i.toNat, by omega⟩
    rw [bitI_nat xs j (by omega)]
    exact bit_yes xs hx j (by omega) w
  · have e : bitI xs i = 0 := by unfold bitI; rw [if_neg h]
    rw [e]
    exact bit_no _ i h w
theorem rbit_any (xs : List UInt8) (hx : xs.length = 20) (i : Int) (w : World) :
    Calls Try.prog 25 #[.agg (bcells xs).toArray, .int .i64 i] w fun e w' => e = .returned (.int .i64 (bitI xs i)) ∧ Below w.heap.size w w' := by
  by_cases h : 0 ≤ i ∧ i < 160
  · obtain ⟨j, rfl⟩ : ∃ j : Nat, i = j := ⟨i.toNat, by omega⟩
    rw [bitI_nat xs j (by omega)]
    exact rbit_yes xs hx j (by omega) w
  · have e : bitI xs i = 0 := by unfold bitI; rw [if_neg h]
    rw [e]
    exact rbit_no _ i h w
end Go.Proofs.Ytcoiaddjfeaciaa
end
section
namespace Go.Proofs.Ytcoiaddjfeaciaa
open Go.RowKit

def withB (x : UInt8) (k : Nat) (b : Bool) : UInt8 := if x.toNat.testBit k = b then x else x ^^^ UInt8.ofNat (2 ^ k)
def withL (xs : List UInt8) (i : Nat) (b : Bool) : List UInt8 := xs.set (i / 8) (withB (xs.getD (i / 8) 0) (7 - i % 8) b)
theorem withL_length (xs : List UInt8) (i : Nat) (b : Bool) : (withL xs i b).length = xs.length := by simp [withL]
theorem two_pow8 : ∀ k : Fin 8, (UInt8.ofNat (2 ^ k.val)).toNat = 2 ^ k.val := by decide
theorem withB_bit (x : UInt8) (k m : Nat) (b : Bool) (hk : k < 8) : (withB x k b).toNat.testBit m = if m = k then b else x.toNat.testBit m := by
  unfold withB
  by_cases h : x.toNat.testBit k = b
  · rw [if_pos h]
    by_cases hm : m = k
    · rw [if_pos hm, hm, h]
    · rw [if_neg hm]
  · rw [if_neg h, UInt8.toNat_xor, Nat.testBit_xor, two_pow8 ⟨k, hk⟩, Nat.testBit_two_pow]
    by_cases hm : m = k
    · subst hm
      rw [if_pos rfl]
      cases b <;> cases hx : x.toNat.testBit m <;> simp_all
    · rw [if_neg hm]
      have : ¬ k = m := fun e => hm e.symm
      simp [this]
theorem withL_bit (xs : List UInt8) (i m : Nat) (b : Bool) (hi : i < 8 * xs.length) : bitL (withL xs i b) m = if m = i then b else bitL xs m := by
  unfold bitL withL
  by_cases hq : m / 8 = i / 8
  · have hlt : i / 8 < xs.length := by omega
    rw [hq, List.getD_eq_getElem?_getD, List.getElem?_set_self hlt, Option.getD_some, withB_bit _ _ _ _ (by omega)]
    by_cases hm : m = i
    · rw [if_pos hm, if_pos (by rw [hm])]
    · rw [if_neg hm, if_neg (by omega)]
  · have hm : m ≠ i := fun e => hq (by rw [e])
    rw [if_neg hm, List.getD_eq_getElem?_getD, List.getElem?_set_ne (fun e => hq e.symm), ← List.getD_eq_getElem?_getD]
theorem withL_same (xs : List UInt8) (i : Nat) (b : Bool) (h : bitL xs i = b) : withL xs i b = xs := by
  unfold withL withB
  unfold bitL at h
  rw [if_pos h]
  by_cases hl : i / 8 < xs.length
  · rw [List.getD_eq_getElem?_getD, List.getElem?_eq_getElem hl]
    exact List.set_getElem_self hl
  · exact List.set_eq_of_length_le (by omega)
theorem ext_bits {xs ys : List UInt8} (h : xs.length = ys.length) (hb : ∀ i, i < 8 * xs.length → bitL xs i = bitL ys i) : xs = ys := by
  apply Decidable.byContradiction
  intro hne
  obtain ⟨j1, j2⟩ := (pfxN_spec xs ys h).2.2.1 hne
  exact j2 (hb _ j1)
theorem xorL_bit : ∀ (xs ys : List UInt8) (i : Nat), xs.length = ys.length → bitL (xorL xs ys) i = (bitL xs i != bitL ys i)
  | [], [], i, _ => by simp [xorL, bitL]
  | x :: xs, y :: ys, i, h => by
    have hl : xs.length = ys.length := by simpa using h
    by_cases h8 : i < 8
    · simp only [xorL, List.zipWith_cons_cons]
      rw [bitL_head _ _ _ h8, bitL_head _ _ _ h8, bitL_head _ _ _ h8, UInt8.toNat_xor, Nat.testBit_xor]
    · have e : i = 8 + (i - 8) := by omega
      have ih := xorL_bit xs ys (i - 8) hl
      simp only [xorL, List.zipWith_cons_cons] at ih ⊢
      rw [e, bitL_tail, bitL_tail, bitL_tail]
      exact ih
theorem bitL_zero (n i : Nat) : bitL (List.replicate n 0) i = false := by
  unfold bitL
  have : ((List.replicate n (0 : UInt8)).getD (i / 8) 0) = 0 := by
    rw [List.getD_eq_getElem?_getD, List.getElem?_replicate]
    split <;> rfl
  rw [this]
  simp
/-- The reference's distance, the first j bits mixed. -/
def xorR (xs ys : List UInt8) : Nat → List UInt8
  | 0 => List.replicate 20 0
  | j + 1 => if bitL xs j = bitL ys j then xorR xs ys j else withL (xorR xs ys j) j true
theorem xorR_length (xs ys : List UInt8) (j : Nat) : (xorR xs ys j).length = 20 := by
  induction j with
  | zero => rfl
  | succ j ih =>
    unfold xorR
    split
    · exact ih
    · rw [withL_length, ih]
theorem xorR_bit (xs ys : List UInt8) (j : Nat) (hj : j ≤ 160) (m : Nat) : bitL (xorR xs ys j) m = (decide (m < j) && (bitL xs m != bitL ys m)) := by
  induction j with
  | zero =>
    unfold xorR
    rw [bitL_zero]
    simp
  | succ j ih =>
    unfold xorR
    by_cases h : bitL xs j = bitL ys j
    · rw [if_pos h, ih (by omega)]
      by_cases hm : m = j
      · subst hm
        simp [h]
      · have : decide (m < j) = decide (m < j + 1) := by
          apply decide_eq_decide.2
          omega
        rw [this]
    · rw [if_neg h, withL_bit _ _ _ _ (by rw [xorR_length]; omega), ih (by omega)]
      by_cases hm : m = j
      · subst hm
        simp [h]
      · rw [if_neg hm]
        have : decide (m < j) = decide (m < j + 1) := by
          apply decide_eq_decide.2
          omega
        rw [this]
theorem xorR_full (xs ys : List UInt8) (hx : xs.length = 20) (hy : ys.length = 20) : xorR xs ys 160 = xorL xs ys := by
  have hl : (xorL xs ys).length = 20 := (xorL_length (hx.trans hy.symm)).trans hx
  apply ext_bits (by rw [xorR_length, hl])
  intro i hi
  rw [xorR_length] at hi
  rw [xorR_bit _ _ _ (by omega), xorL_bit _ _ _ (hx.trans hy.symm)]
  simp [show i < 160 by omega]
end Go.Proofs.Ytcoiaddjfeaciaa
end
section
namespace Go.Proofs.Ytcoiaddjfeaciaa
set_option maxRecDepth 100000
set_option maxHeartbeats 400000
open Go.RowKit Go.Great

theorem or_fin : ∀ (z : Fin 256) (k : Fin 8), bits .or .u8 (z.val : Int) ((2 ^ k.val : Nat) : Int) = ((withB (UInt8.ofNat z.val) k.val true).toNat : Int) := by decide +kernel
theorem andnot_fin : ∀ (z : Fin 256) (k : Fin 8), bits .andNot .u8 (z.val : Int) ((2 ^ k.val : Nat) : Int) = ((withB (UInt8.ofNat z.val) k.val false).toNat : Int) := by decide +kernel
theorem orB_byte (z : UInt8) (k : Nat) (h : k < 8) : bits .or .u8 (z.toNat : Int) ((2 ^ k : Nat) : Int) = ((withB z k true).toNat : Int) := by
  have := or_fin ⟨z.toNat, z.toNat_lt⟩ ⟨k, h⟩
  simpa using this
theorem andnotB_byte (z : UInt8) (k : Nat) (h : k < 8) : bits .andNot .u8 (z.toNat : Int) ((2 ^ k : Nat) : Int) = ((withB z k false).toNat : Int) := by
  have := andnot_fin ⟨z.toNat, z.toNat_lt⟩ ⟨k, h⟩
  simpa using this
theorem mask_st (j : Nat) (w : World) (h : j < 160) (M : Int) (hM : ((2 ^ (7 - j % 8) : Nat) : Int) = M) : Calls Try.prog 63 #[.int .i64 (j : Int)] w fun e w' => e = .returned (.int .u8 M) ∧ w' = w := by
  subst hM
  exact (mask_any j w h).mono (by rintro e w' ⟨rfl, rfl⟩; exact ⟨rfl, rfl⟩)
theorem bcells_set (xs : List UInt8) (q : Nat) (v : UInt8) : (bcells xs).toArray.setIfInBounds q (.int .u8 (v.toNat : Int)) = (bcells (xs.set q v)).toArray := by
  rw [List.setIfInBounds_toArray]
  congr 1
  simp [bcells, List.map_set]

theorem region_tail {P : Program} {id : Nat} {Q : Exit → Act → World → Prop} {a : Act} {w : World} {l : List Oper} (n : Nat) (W1 : World) (hW : W1 = { w with drawn := w.drawn + 1 }) (hm : P.follows .mixedOrders = true) (hB : Region.lexTailB .any l.toArray n = true)
    (h : wpStill P l.toArray W1 (fun a' => wpList P l.toArray Q (l.drop n) a' W1) (l.take n) a) : (Code.region id l.toArray true).wp P Q a w := by
  subst hW
  exact wp_region_still_tail n hm hB h

/-- What is asked at the end of a function that answers an id out of a box of its own. -/
structure IdEnd (W : World) (g g' : Nat) (L : List Value) : Prop where
  q1 : W.rangeAt g 0 L
  ht : W.there g' 0 L.toArray.size
  hs : (W.setCells g' 0 L).rangeAt g' 0 L
  hi : (Try.prog.info? 26).map (·.size) = some L.toArray.size
  hj : (Try.prog.info? 26).map (·.size) = some L.length
  hc : L.toArray.all (·.oneCell') = true
theorem idEnd {W : World} {g g' : Nat} {t t' : TypeId} {xs zs : List UInt8} (hx : xs.length = 20) (hz : zs.length = 20) (h : W.heap[g]? = some (.cells (bcells xs).toArray t (0, 0))) (h' : W.heap[g']? = some (.cells (bcells zs).toArray t' (0, 0))) : IdEnd W g g' (bcells xs) := by
  have hl : (bcells xs).length = 20 := by rw [bcells_length, hx]
  have hsz : (bcells xs).toArray.size = 20 := (List.size_toArray).trans hl
  have hT := row_there h'
  rw [bcells_length, hz] at hT
  exact ⟨row_range h, by rw [hsz]; exact hT, World.rangeAt_setCells_same W g' 0 _ (by rw [hl]; exact hT), by rw [hsz]; exact size26, by rw [hl]; exact size26, all_oneCell_toArray (bcells_one _)⟩

theorem with_yes (xs : List UInt8) (hx : xs.length = 20) (j : Nat) (hj : j < 160) (bit : Int) (w : World) :
    Calls Try.prog 26 #[.agg (bcells xs).toArray, .int .i64 (j : Int), .int .i64 bit] w fun e w' => e = .returned (.agg (bcells (withL xs j (decide (bit ≠ 0)))).toArray) ∧ Below w.heap.size w w' := by
  obtain ⟨X, hX⟩ : ∃ X, X = (bcells xs).toArray := ⟨_, rfl⟩
  obtain ⟨Z, hZ⟩ : ∃ Z, Z = (bcells (List.replicate 20 0)).toArray := ⟨_, rfl⟩
  have hz := fun W => zero26 W
  rw [← hZ] at hz
  obtain ⟨q, hq⟩ : ∃ q, j / 8 = q := ⟨_, rfl⟩
  have hq2 : q < 20 := by omega
  obtain ⟨h1, h2, h4⟩ := heap2 w (.cells X 26) (.cells Z 26)
  obtain ⟨W1, hW1⟩ : ∃ W1, W1 = ((w.alloc (.cells X 26)).alloc (.cells Z 26)).drew := ⟨_, rfl⟩
  have r1 : W1.heap[w.heap.size]? = some (.cells X 26 (0, 0)) := by rw [hW1]; exact h1
  have r2 : W1.heap[w.heap.size + 1]? = some (.cells Z 26 (0, 0)) := by rw [hW1]; exact h2
  have r4 : Below w.heap.size w W1 := by rw [hW1]; exact h4.drew
  have hc : W1.cell? ⟨w.heap.size, q, none⟩ = some (.int .u8 ((xs.getD q 0).toNat : Int)) := row_byte (by rw [r1, hX]) q (by omega)
  have hf := frozen_of_row _ w.heap.size q _ 26 r1
  have hd : (j : Int) / 8 = (q : Int) := by omega
  have hwq : IntKind.i64.wrap (q : Int) = (q : Int) := by rw [IntKind.wrap_i64]; omega
  have hq3 : (q : Int) < 20 := by omega
  obtain ⟨M, hM⟩ : ∃ M : Int, ((2 ^ (7 - j % 8) : Nat) : Int) = M := ⟨_, rfl⟩
  have ho := orB_byte (xs.getD q 0) (7 - j % 8) (by omega)
  have ha := andnotB_byte (xs.getD q 0) (7 - j % 8) (by omega)
  rw [hM] at ho ha
  have HP := Lib.hid (fun W => isPlace_yes (j : Int) W (by omega) (by omega))
  have HM := Lib.hid (fun W => mask_st j W hj M hM)
  rw [← hX]
  have hend : ∀ v : UInt8, IdEnd (W1.setCell ⟨w.heap.size, q, none⟩ (.int .u8 (v.toNat : Int))) w.heap.size (w.heap.size + 1) (bcells (xs.set q v)) ∧ Below w.heap.size w (W1.setCell ⟨w.heap.size, q, none⟩ (.int .u8 (v.toNat : Int))) := fun v => by
    refine ⟨idEnd (t := 26) (t' := 26) (zs := List.replicate 20 0) (by simp [hx]) (by simp) ?_ ?_, r4.setCell (p := ⟨w.heap.size, q, none⟩) (Nat.le_refl _) _⟩
    · have := heap_setCell_same W1 w.heap.size q _ 26 (.int .u8 (v.toNat : Int)) r1
      rw [hX, bcells_set] at this
      exact this
    · rw [Below.heap_setCell _ _ _ _ (by simp), r2, hZ]
  have HEND := Lib.hid hend
  have HW1 := Lib.hid hW1
  clear h1 h2 h4 r1 r2 r4 hend hW1 hX hZ
  by_cases hb : bit = 0
  · have hw : withL xs j (decide (bit ≠ 0)) = xs.set q (withB (xs.getD q 0) (7 - j % 8) false) := by
      unfold withL
      rw [hq]
      simp [hb]
    generalize withB (xs.getD q 0) (7 - j % 8) false = v at ha hw
    generalize (xs.getD q 0).toNat = b at hc ha ho
    obtain ⟨E, hB⟩ := HEND.out v
    obtain ⟨L, hL⟩ : ∃ L, L = bcells (xs.set q v) := ⟨_, rfl⟩
    rw [← hL] at E
    have HE := Lib.hid E
    have HBB := Lib.hid hB
    have HL : Hid (L = bcells (withL xs j (decide (bit ≠ 0)))) := Lib.hid (by rw [hL, hw])
    clear ho hq hM hw hL E hB HEND
    subst hb
    go_enter Try.func26, Try.ntmps26
    go_upto_region 4 with (go_at_call 62; refine (HP.out _).mono ?_; rintro e w1 ⟨rfl, rfl⟩)
    refine region_tail 8 W1 HW1.out (by kernel_rfl) (by kernel_rfl) ?_
    simp only [List.take_succ_cons, List.take_zero, List.drop_succ_cons, List.drop_zero]
    repeat (first | still_step | still_call (HM.out _))
    try refine wpStill_nil ?_
    go_wp2_with ((with_reducible refine wpList_load_mid (op := ⟨some 29, _, _, _, _, _⟩) rfl 26 (.tmp 3) rfl w.heap.size 0 ?_ L _ HE.out.q1 Try.underlying26 rfl HE.out.hj ?_); rfl; refine wpList_store_mid rfl 26 (.tmp 6) (.tmp 29) rfl (w.heap.size + 1) 0 L.toArray rfl rfl HE.out.ht HE.out.hi HE.out.hc ?_)
    refine bodyPost_ret (v := .agg L.toArray) ?_ rfl ?_
    · exact results_cell1 (p := 6) (ty := 26) rfl _ _ (w.heap.size + 1) 0 L _ rfl (by simpa using HE.out.hs) Try.underlying26 rfl HE.out.hj
    · exact ⟨by rw [HL.out], by simpa using below_cells (by omega) L 0 _ HBB.out⟩
  · have hw : withL xs j (decide (bit ≠ 0)) = xs.set q (withB (xs.getD q 0) (7 - j % 8) true) := by
      unfold withL
      rw [hq]
      simp [hb]
    generalize withB (xs.getD q 0) (7 - j % 8) true = v at ho hw
    generalize (xs.getD q 0).toNat = b at hc ha ho
    obtain ⟨E, hB⟩ := HEND.out v
    obtain ⟨L, hL⟩ : ∃ L, L = bcells (xs.set q v) := ⟨_, rfl⟩
    rw [← hL] at E
    have HE := Lib.hid E
    have HBB := Lib.hid hB
    have HL : Hid (L = bcells (withL xs j (decide (bit ≠ 0)))) := Lib.hid (by rw [hL, hw])
    clear ha hq hM hw hL E hB HEND
    go_enter Try.func26, Try.ntmps26
    go_upto_region 5 with (go_at_call 62; refine (HP.out _).mono ?_; rintro e w1 ⟨rfl, rfl⟩)
    refine region_tail 8 W1 HW1.out (by kernel_rfl) (by kernel_rfl) ?_
    simp only [List.take_succ_cons, List.take_zero, List.drop_succ_cons, List.drop_zero]
    repeat (first | still_step | still_call (HM.out _))
    try refine wpStill_nil ?_
    go_wp2_with ((with_reducible refine wpList_load_mid (op := ⟨some 29, _, _, _, _, _⟩) rfl 26 (.tmp 3) rfl w.heap.size 0 ?_ L _ HE.out.q1 Try.underlying26 rfl HE.out.hj ?_); rfl; refine wpList_store_mid rfl 26 (.tmp 6) (.tmp 29) rfl (w.heap.size + 1) 0 L.toArray rfl rfl HE.out.ht HE.out.hi HE.out.hc ?_)
    refine bodyPost_ret (v := .agg L.toArray) ?_ rfl ?_
    · exact results_cell1 (p := 6) (ty := 26) rfl _ _ (w.heap.size + 1) 0 L _ rfl (by simpa using HE.out.hs) Try.underlying26 rfl HE.out.hj
    · exact ⟨by rw [HL.out], by simpa using below_cells (by omega) L 0 _ HBB.out⟩
end Go.Proofs.Ytcoiaddjfeaciaa
end
section
namespace Go.Proofs.Ytcoiaddjfeaciaa
set_option maxRecDepth 100000
set_option maxHeartbeats 400000
open Go.RowKit Go.Great

structure IdEnd2 (W : World) (g g' : Nat) (L : List Value) : Prop where
  q1 : W.rangeAt g 0 L
  ht : W.there g' 0 L.toArray.size
  hs : (W.setCells g' 0 L).rangeAt g' 0 L
  hi : (Try.prog.info? 42).map (·.size) = some L.toArray.size
  hj : (Try.prog.info? 42).map (·.size) = some L.length
  hc : L.toArray.all (·.oneCell') = true
theorem idEnd2 {W : World} {g g' : Nat} {t t' : TypeId} {xs zs : List UInt8} (hx : xs.length = 20) (hz : zs.length = 20) (h : W.heap[g]? = some (.cells (bcells xs).toArray t (0, 0))) (h' : W.heap[g']? = some (.cells (bcells zs).toArray t' (0, 0))) : IdEnd2 W g g' (bcells xs) := by
  have E := idEnd hx hz h h'
  have hl : (bcells xs).length = 20 := by rw [bcells_length, hx]
  have hsz : (bcells xs).toArray.size = 20 := (List.size_toArray).trans hl
  exact ⟨E.q1, E.ht, E.hs, by rw [hsz]; exact size42, by rw [hl]; exact size42, E.hc⟩
def withI (xs : List UInt8) (i bit : Int) : List UInt8 := if 0 ≤ i ∧ i < 160 then withL xs i.toNat (decide (bit ≠ 0)) else xs
theorem withI_length (xs : List UInt8) (i bit : Int) : (withI xs i bit).length = xs.length := by
  unfold withI
  split
  · rw [withL_length]
  · rfl

theorem with_no (xs : List UInt8) (hx : xs.length = 20) (i bit : Int) (h : ¬ (0 ≤ i ∧ i < 160)) (w : World) :
    Calls Try.prog 26 #[.agg (bcells xs).toArray, .int .i64 i, .int .i64 bit] w fun e w' => e = .returned (.agg (bcells xs).toArray) ∧ Below w.heap.size w w' := by
  obtain ⟨Z, hZ⟩ : ∃ Z, Z = (bcells (List.replicate 20 0)).toArray := ⟨_, rfl⟩
  have hz := fun W => zero26 W
  rw [← hZ] at hz
  have HP := Lib.hid (fun W => isPlace_no i W h)
  obtain ⟨h1, h2, h4⟩ := heap2 w (.cells (bcells xs).toArray 26) (.cells Z 26)
  have HE := Lib.hid (idEnd (zs := List.replicate 20 0) hx (by simp) h1 (by rw [h2, hZ]))
  have HB := Lib.hid h4
  generalize bcells xs = L at HE HB ⊢
  clear hZ h h1 h2 h4 hx
  go_enter Try.func26, Try.ntmps26
  go_wp2_with (first
    | (go_at_call 62; refine (HP.out _).mono ?_; rintro e w1 ⟨rfl, rfl⟩)
    | ((with_reducible refine wpList_load_mid (op := ⟨some 10, _, _, _, _, _⟩) rfl 26 (.tmp 3) rfl w.heap.size 0 ?_ L _ HE.out.q1 Try.underlying26 rfl HE.out.hj ?_); rfl; refine wpList_store_mid rfl 26 (.tmp 6) (.tmp 10) rfl (w.heap.size + 1) 0 L.toArray rfl rfl HE.out.ht HE.out.hi HE.out.hc ?_))
  refine bodyPost_ret (v := .agg L.toArray) ?_ rfl ?_
  · exact results_cell1 (p := 6) (ty := 26) rfl _ _ (w.heap.size + 1) 0 L _ rfl (by simpa using HE.out.hs) Try.underlying26 rfl HE.out.hj
  · exact ⟨rfl, by simpa using below_cells (by omega) L 0 _ HB.out⟩
theorem with_any (xs : List UInt8) (hx : xs.length = 20) (i bit : Int) (w : World) :
    Calls Try.prog 26 #[.agg (bcells xs).toArray, .int .i64 i, .int .i64 bit] w fun e w' => e = .returned (.agg (bcells (withI xs i bit)).toArray) ∧ Below w.heap.size w w' := by
  unfold withI
  by_cases h : 0 ≤ i ∧ i < 160
  · rw [if_pos h]
    obtain ⟨j, rfl⟩ : ∃ j : Nat, i = j := ⟨i.toNat, by omega⟩
    exact with_yes xs hx j (by omega) bit w
  · rw [if_neg h]
    exact with_no xs hx i bit h w

theorem wpList_loadG {P : Program} {ops : Array Oper} {rest : List Oper} {op : Oper} {a : Act} {w : World} {Q : Exit → Act → World → Prop} (hw : Region.wanted op (yielded ops a.tmps) = true) (ty : TypeId) (x : Operand) (ho : op.op = .load ty x) (p : Addr) (hx : a.eval x = .pointer (some p)) (v : Value) (hl : (loadVar ty p).run P w = .ok v w)
    (h : wpList P ops Q rest (a.put op.dst v) w) : wpList P ops Q (op :: rest) a w :=
  wpList_step fun _ hK => by
    rw [if_pos hw]
    exact wp_loadV ty x ho p hx v hl (hK _ _ h)

/-- The reference's With where nothing is to be turned. -/
theorem rwith_same (xs : List UInt8) (hx : xs.length = 20) (i bit : Int) (h : ¬ (0 ≤ i ∧ i < 160) ∨ bitI xs i = (if bit = 0 then 0 else 1)) (w : World) :
    Calls Try.prog 27 #[.agg (bcells xs).toArray, .int .i64 i, .int .i64 bit] w fun e w' => e = .returned (.agg (bcells xs).toArray) ∧ Below w.heap.size w w' := by
  obtain ⟨Z, hZ⟩ : ∃ Z, Z = (bcells (List.replicate 20 0)).toArray := ⟨_, rfl⟩
  have hz := fun W => zero42 W
  rw [← hZ] at hz
  have hBt := fun W => rbit_any xs hx i W
  obtain ⟨h1, h2, h4⟩ := heap2 w (.cells (bcells xs).toArray 42) (.cells Z 42)
  have hk : (loadVar 42 ⟨w.heap.size, 0, none⟩).run Try.prog ((w.alloc (.cells (bcells xs).toArray 42)).alloc (.cells Z 42)) = .ok (.agg (bcells xs).toArray) ((w.alloc (.cells (bcells xs).toArray 42)).alloc (.cells Z 42)) := load42 hx h1
  have HK := Lib.hid hk
  have HBT := Lib.hid hBt
  have hend : ∀ W2, Below (w.heap.size + 2) ((w.alloc (.cells (bcells xs).toArray 42)).alloc (.cells Z 42)) W2 → IdEnd2 W2 w.heap.size (w.heap.size + 1) (bcells xs) ∧ Below w.heap.size w W2 := fun W2 hb =>
    ⟨idEnd2 (t := 42) (t' := 42) (zs := List.replicate 20 0) hx (by simp) (by rw [hb.block _ (by omega), h1]) (by rw [hb.block _ (by omega), h2, hZ]), h4.trans (hb.mono (by omega))⟩
  have HEND := Lib.hid hend
  have hs0 : ((w.alloc (.cells (bcells xs).toArray 42)).alloc (.cells Z 42)).heap.size = w.heap.size + 2 := by simp
  have HS0 := Lib.hid hs0
  generalize bcells xs = L at HEND HK HBT HS0 ⊢
  clear hZ hBt h1 h2 h4 hk hend hs0
  by_cases hr : 0 ≤ i ∧ i < 160
  · obtain ⟨r1, r2⟩ := hr
    have hbit : bitI xs i = if bit = 0 then 0 else 1 := h.resolve_left (fun hn => hn ⟨r1, r2⟩)
    rw [hbit] at HBT
    have n0 : ¬ i < 0 := by omega
    have n1 : ¬ 160 ≤ i := by omega
    clear h hbit hx r1 r2
    by_cases hb : bit = 0
    all_goals
      first | rw [if_pos hb] at HBT | rw [if_neg hb] at HBT
      try subst hb
      go_enter Try.func27, Try.ntmps27
      go_wp2_with (first
        | (go_at_call 25; refine (HBT.out _).mono ?_; rintro e w2 ⟨rfl, hb2⟩; rw [HS0.out] at hb2; obtain ⟨E, hB⟩ := HEND.out w2 hb2; have HE := Lib.hid E; have HB := Lib.hid hB; clear E hB hb2)
        | ((with_reducible refine wpList_loadG (op := ⟨some 17, _, _, _, _, _⟩) ?_ 42 (.tmp 3) rfl _ ?_ _ HK.out ?_); rfl; rfl)
        | ((with_reducible refine wpList_load_mid (op := ⟨some 23, _, _, _, _, _⟩) rfl 42 (.tmp 3) rfl w.heap.size 0 ?_ L _ HE.out.q1 Try.underlying42 rfl HE.out.hj ?_); rfl; refine wpList_store_mid rfl 42 (.tmp 6) (.tmp 23) rfl (w.heap.size + 1) 0 L.toArray rfl rfl HE.out.ht HE.out.hi HE.out.hc ?_))
      refine bodyPost_ret (v := .agg L.toArray) ?_ rfl ?_
      · exact results_cell1 (p := 6) (ty := 42) rfl _ _ (w.heap.size + 1) 0 L _ rfl (by simpa using HE.out.hs) Try.underlying42 rfl HE.out.hj
      · exact ⟨rfl, by simpa using below_cells (by omega) L 0 _ HB.out⟩
  · obtain ⟨E, hB⟩ := HEND.out _ (Below.refl _ _)
    have HE := Lib.hid E
    have HB := Lib.hid hB
    clear E hB h
    by_cases h0 : i < 0
    all_goals
      try (have h160 : 160 ≤ i := by omega)
      clear hr
      by_cases hb : bit = 0
      all_goals
        try subst hb
        go_enter Try.func27, Try.ntmps27
        go_wp2_with ((with_reducible refine wpList_load_mid (op := ⟨some 23, _, _, _, _, _⟩) rfl 42 (.tmp 3) rfl w.heap.size 0 ?_ L _ HE.out.q1 Try.underlying42 rfl HE.out.hj ?_); rfl; refine wpList_store_mid rfl 42 (.tmp 6) (.tmp 23) rfl (w.heap.size + 1) 0 L.toArray rfl rfl HE.out.ht HE.out.hi HE.out.hc ?_)
        refine bodyPost_ret (v := .agg L.toArray) ?_ rfl ?_
        · exact results_cell1 (p := 6) (ty := 42) rfl _ _ (w.heap.size + 1) 0 L _ rfl (by simpa using HE.out.hs) Try.underlying42 rfl HE.out.hj
        · exact ⟨rfl, by simpa using below_cells (by omega) L 0 _ HB.out⟩
end Go.Proofs.Ytcoiaddjfeaciaa
end
section
namespace Go.Proofs.Ytcoiaddjfeaciaa
set_option maxRecDepth 100000
set_option maxHeartbeats 400000
open Go.RowKit Go.Great

theorem rwith_turn (xs : List UInt8) (hx : xs.length = 20) (j : Nat) (hj : j < 160) (bit : Int) (hne : bitL xs j ≠ decide (bit ≠ 0)) (w : World) :
    Calls Try.prog 27 #[.agg (bcells xs).toArray, .int .i64 (j : Int), .int .i64 bit] w fun e w' => e = .returned (.agg (bcells (withL xs j (decide (bit ≠ 0)))).toArray) ∧ Below w.heap.size w w' := by
  obtain ⟨Z, hZ⟩ : ∃ Z, Z = (bcells (List.replicate 20 0)).toArray := ⟨_, rfl⟩
  have hz := fun W => zero42 W
  rw [← hZ] at hz
  have hBt := fun W => rbit_any xs hx (j : Int) W
  obtain ⟨q, hq⟩ : ∃ q, j / 8 = q := ⟨_, rfl⟩
  have hq2 : q < 20 := by omega
  obtain ⟨h1, h2, h4⟩ := heap2 w (.cells (bcells xs).toArray 42) (.cells Z 42)
  have hk : (loadVar 42 ⟨w.heap.size, 0, none⟩).run Try.prog ((w.alloc (.cells (bcells xs).toArray 42)).alloc (.cells Z 42)) = .ok (.agg (bcells xs).toArray) ((w.alloc (.cells (bcells xs).toArray 42)).alloc (.cells Z 42)) := load42 hx h1
  have HK := Lib.hid hk
  obtain ⟨v, hv⟩ : ∃ v : UInt8, v = xs.getD q 0 ^^^ UInt8.ofNat (2 ^ (7 - j % 8)) := ⟨_, rfl⟩
  obtain ⟨M, hM⟩ : ∃ M : Int, ((2 ^ (7 - j % 8) : Nat) : Int) = M := ⟨_, rfl⟩
  have hM2 : (2 : Int) ^ (7 - j % 8) % 256 = M := (pow_mask j).trans hM
  have hxr : bits .xor .u8 ((xs.getD q 0).toNat : Int) M = (v.toNat : Int) := by
    have hp : (2 : Nat) ^ (7 - j % 8) < 256 := by
      have : (2 : Nat) ^ (7 - j % 8) ≤ 2 ^ 7 := Nat.pow_le_pow_right (by omega) (by omega)
      omega
    rw [← hM, u8_xor_nat _ _ (UInt8.toNat_lt _) hp, hv, UInt8.toNat_xor, two_pow8 ⟨7 - j % 8, by omega⟩]
  have hw : withL xs j (decide (bit ≠ 0)) = xs.set q v := by
    unfold withL withB
    rw [hq, if_neg (by unfold bitL at hne; rw [hq] at hne; exact hne), ← hv]
  have hbit : bitI xs (j : Int) = if bit = 0 then 1 else 0 := by
    rw [bitI_nat xs j hj]
    by_cases hb : bit = 0
    · have : bitL xs j = true := by simpa [hb] using hne
      rw [this, if_pos hb]
      rfl
    · have : bitL xs j = false := by simpa [hb] using hne
      rw [this, if_neg hb]
      rfl
  have hend : ∀ W2, Below (w.heap.size + 2) ((w.alloc (.cells (bcells xs).toArray 42)).alloc (.cells Z 42)) W2 →
      W2.cell? ⟨w.heap.size, q, none⟩ = some (.int .u8 ((xs.getD q 0).toNat : Int)) ∧ W2.frozen? ⟨w.heap.size, q, none⟩ = false ∧
      IdEnd2 (W2.setCell ⟨w.heap.size, q, none⟩ (.int .u8 (v.toNat : Int))) w.heap.size (w.heap.size + 1) (bcells (xs.set q v)) ∧ Below w.heap.size w (W2.setCell ⟨w.heap.size, q, none⟩ (.int .u8 (v.toNat : Int))) := fun W2 hb => by
    have r1 : W2.heap[w.heap.size]? = some (.cells (bcells xs).toArray 42 (0, 0)) := by rw [hb.block _ (by omega), h1]
    have r2 : W2.heap[w.heap.size + 1]? = some (.cells Z 42 (0, 0)) := by rw [hb.block _ (by omega), h2]
    refine ⟨row_byte r1 q (by omega), frozen_of_row _ w.heap.size q _ 42 r1, idEnd2 (t := 42) (t' := 42) (zs := List.replicate 20 0) (by simp [hx]) (by simp) ?_ ?_, (h4.trans (hb.mono (by omega))).setCell (p := ⟨w.heap.size, q, none⟩) (Nat.le_refl _) _⟩
    · have := heap_setCell_same W2 w.heap.size q _ 42 (.int .u8 (v.toNat : Int)) r1
      rw [bcells_set] at this
      exact this
    · rw [Below.heap_setCell _ _ _ _ (by simp), r2, hZ]
  have HEND := Lib.hid hend
  have hs0 : ((w.alloc (.cells (bcells xs).toArray 42)).alloc (.cells Z 42)).heap.size = w.heap.size + 2 := by simp
  have HS0 := Lib.hid hs0
  have hd : (j : Int) / 8 = (q : Int) := by omega
  have hwq : IntKind.i64.wrap (q : Int) = (q : Int) := by rw [IntKind.wrap_i64]; omega
  have hq3 : (q : Int) < 20 := by omega
  have n0 : ¬ (j : Int) < 0 := by omega
  have n1 : ¬ (160 : Int) ≤ (j : Int) := by omega
  rw [hbit] at hBt
  have HBT := Lib.hid hBt
  rw [hw]
  generalize bcells (xs.set q v) = L at HEND ⊢
  generalize bcells xs = X at HEND HK HBT HS0 ⊢
  generalize (xs.getD q 0).toNat = b at hxr HEND
  clear hZ hBt h1 h2 h4 hk hend hs0 hne hbit hw hv hM hq hx hj
  by_cases hb : bit = 0
  all_goals
    first | rw [if_pos hb] at HBT | rw [if_neg hb] at HBT
    try subst hb
    go_enter Try.func27, Try.ntmps27
    go_wp2_with (first
      | (go_at_call 25; refine (HBT.out _).mono ?_; rintro e w2 ⟨rfl, hb2⟩; rw [HS0.out] at hb2; obtain ⟨hc, hf, E, hB⟩ := HEND.out w2 hb2; have HE := Lib.hid E; have HB := Lib.hid hB; clear E hB hb2)
      | ((with_reducible refine wpList_loadG (op := ⟨some 17, _, _, _, _, _⟩) ?_ 42 (.tmp 3) rfl _ ?_ _ HK.out ?_); rfl; rfl)
      | ((with_reducible refine wpList_load_mid (op := ⟨some 37, _, _, _, _, _⟩) rfl 42 (.tmp 3) rfl w.heap.size 0 ?_ L _ HE.out.q1 Try.underlying42 rfl HE.out.hj ?_); rfl; refine wpList_store_mid rfl 42 (.tmp 6) (.tmp 37) rfl (w.heap.size + 1) 0 L.toArray rfl rfl HE.out.ht HE.out.hi HE.out.hc ?_))
    refine bodyPost_ret (v := .agg L.toArray) ?_ rfl ?_
    · exact results_cell1 (p := 6) (ty := 42) rfl _ _ (w.heap.size + 1) 0 L _ rfl (by simpa using HE.out.hs) Try.underlying42 rfl HE.out.hj
    · exact ⟨rfl, by simpa using below_cells (by omega) L 0 _ HB.out⟩
theorem rwith_any (xs : List UInt8) (hx : xs.length = 20) (i bit : Int) (w : World) :
    Calls Try.prog 27 #[.agg (bcells xs).toArray, .int .i64 i, .int .i64 bit] w fun e w' => e = .returned (.agg (bcells (withI xs i bit)).toArray) ∧ Below w.heap.size w w' := by
  unfold withI
  by_cases h : 0 ≤ i ∧ i < 160
  · rw [if_pos h]
    obtain ⟨j, rfl⟩ : ∃ j : Nat, i = j := ⟨i.toNat, by omega⟩
    have e : ((j : Int)).toNat = j := by omega
    rw [e]
    by_cases hs : bitL xs j = decide (bit ≠ 0)
    · rw [withL_same _ _ _ hs]
      refine rwith_same xs hx (j : Int) bit (.inr ?_) w
      rw [bitI_nat xs j (by omega), hs]
      by_cases hb : bit = 0 <;> simp [hb]
    · exact rwith_turn xs hx j (by omega) bit hs w
  · rw [if_neg h]
    exact rwith_same xs hx i bit (.inl h) w
end Go.Proofs.Ytcoiaddjfeaciaa
end
