/- Contracts of the reference's Bit. Conditions: an id has 20 bytes. Ids with a bit turned, as lists of bytes: plain lemmas without a program. No condition. -/
import Derived.Test.YtbfhfnbhfeedbaaXMShak
section
namespace Go.Proofs.Ytbfhfnbhfeedbaa
set_option maxRecDepth 100000
set_option maxHeartbeats 400000
open Go.RowKit Go.Great

theorem zero42 (W : World) : (zeroValue 64).run Try.prog W = .ok (.agg (bcells (List.replicate 20 0)).toArray) W := by
  have h : (Try.prog.info? 64).map (·.zero) = some (some (.agg (bcells (List.replicate 20 0)).toArray)) := by kernel_rfl
  cases hi : Try.prog.info? 64 with
  | none => rw [hi] at h; cases h
  | some i =>
    rw [hi] at h
    simp only [Option.map_some, Option.some.injEq] at h
    simp [zeroValue, typeInfo, hi, h]
theorem size42 : (Try.prog.info? 64).map (·.size) = some 20 := by kernel_rfl
theorem load42 {w : World} {g : Nat} {xs : List UInt8} {ty : TypeId} (hx : xs.length = 20) (h : w.heap[g]? = some (.cells (bcells xs).toArray ty (0, 0))) : (loadVar 64 ⟨g, 0, none⟩).run Try.prog w = .ok (.agg (bcells xs).toArray) w :=
  run_loadVar_mid w g 0 64 (bcells xs) _ (row_range h) Try.underlying64 rfl (by rw [bcells_length, hx]; exact size42)
theorem rbit_no (X : Array Value) (i : Int) (h : ¬ (0 ≤ i ∧ i < 160)) (w : World) :
    Calls Try.prog 111 #[.agg X, .int .i64 i] w fun e w' => e = .returned (.int .i64 0) ∧ Below w.heap.size w w' := by
  by_cases h1 : i < 0
  · clear h
    go_enter Try.func111, Try.ntmps111
    go_wp2
    go_ret
    exact ⟨rfl, (Below.refl _ w).alloc (Nat.le_refl _) _⟩
  · have h2 : 160 ≤ i := by omega
    clear h
    go_enter Try.func111, Try.ntmps111
    go_wp2
    go_ret
    exact ⟨rfl, (Below.refl _ w).alloc (Nat.le_refl _) _⟩

theorem rbit_fin : ∀ (z : Fin 256) (k : Fin 8), bits .and .i64 ((z.val : Int) / 2 ^ k.val) 1 = if z.val.testBit k.val then 1 else 0 := by decide +kernel
theorem rbit_byte (z : UInt8) (k : Nat) (h : k < 8) : bits .and .i64 ((z.toNat : Int) / 2 ^ k) 1 = if z.toNat.testBit k then 1 else 0 := rbit_fin ⟨z.toNat, z.toNat_lt⟩ ⟨k, h⟩
theorem rbit_yes (xs : List UInt8) (hx : xs.length = 20) (j : Nat) (hj : j < 160) (w : World) :
    Calls Try.prog 111 #[.agg (bcells xs).toArray, .int .i64 (j : Int)] w fun e w' => e = .returned (.int .i64 (if bitL xs j then 1 else 0)) ∧ Below w.heap.size w w' := by
  obtain ⟨X, hX⟩ : ∃ X, X = (bcells xs).toArray := ⟨_, rfl⟩
  obtain ⟨q, hq⟩ : ∃ q, j / 8 = q := ⟨_, rfl⟩
  have hq2 : q < 20 := by omega
  have hc : ∀ W : World, (W.alloc (.cells X 64)).cell? ⟨W.heap.size, q, none⟩ = some (.int .u8 ((xs.getD q 0).toNat : Int)) := fun W => by
    have := row_byte (w := W.alloc (.cells X 64)) (g := W.heap.size) (xs := xs) (ty := 64) (by rw [← hX]; exact heap_alloc_new W _) q (by omega)
    exact this
  have h160 : (j : Int) < 160 := by omega
  have hd : (j : Int) / 8 = (q : Int) := by omega
  have hbt := rbit_byte (xs.getD q 0) (7 - j % 8) (by omega)
  rw [show (xs.getD q 0).toNat.testBit (7 - j % 8) = bitL xs j by rw [← hq]; rfl] at hbt
  have hb := (xs.getD q 0).toNat_lt
  rw [← hX]
  clear hX
  generalize (xs.getD q 0).toNat = b at hc hbt hb
  have hw : wrap64 (b : Int) = (b : Int) := by unfold wrap64; omega
  generalize bitL xs j = bt at hbt ⊢
  clear hq hj hx hb
  cases bt
  all_goals
    simp only [Bool.false_eq_true, if_false, if_true] at hbt ⊢
    go_enter Try.func111, Try.ntmps111
    go_wp2
    go_ret
    exact ⟨rfl, (Below.refl _ w).alloc (Nat.le_refl _) _⟩
/-- Bit i of an id, or 0. -/
def bitI (xs : List UInt8) (i : Int) : Int := if 0 ≤ i ∧ i < 160 then (if bitL xs i.toNat then 1 else 0) else 0
theorem bitI_nat (xs : List UInt8) (j : Nat) (h : j < 160) : bitI xs (j : Int) = if bitL xs j then 1 else 0 := by
  unfold bitI
  rw [if_pos (by omega)]
  rfl
theorem rbit_any (xs : List UInt8) (hx : xs.length = 20) (i : Int) (w : World) :
    Calls Try.prog 111 #[.agg (bcells xs).toArray, .int .i64 i] w fun e w' => e = .returned (.int .i64 (bitI xs i)) ∧ Below w.heap.size w w' := by
  by_cases h : 0 ≤ i ∧ i < 160
  · obtain ⟨j, rfl⟩ : ∃ j : Nat, i = j := ⟨i.toNat, by omega⟩
    rw [bitI_nat xs j (by omega)]
    exact rbit_yes xs hx j (by omega) w
  · have e : bitI xs i = 0 := by unfold bitI; rw [if_neg h]
    rw [e]
    exact rbit_no _ i h w
end Go.Proofs.Ytbfhfnbhfeedbaa
end
section
namespace Go.Proofs.Ytbfhfnbhfeedbaa
set_option maxRecDepth 100000
open Go.RowKit

def withB (x : UInt8) (k : Nat) (b : Bool) : UInt8 := if x.toNat.testBit k = b then x else x ^^^ UInt8.ofNat (2 ^ k)
def withL (xs : List UInt8) (i : Nat) (b : Bool) : List UInt8 := xs.set (i / 8) (withB (xs.getD (i / 8) 0) (7 - i % 8) b)
theorem withL_length (xs : List UInt8) (i : Nat) (b : Bool) : (withL xs i b).length = xs.length := by simp [withL]
theorem two_pow8 : ∀ k : Fin 8, (UInt8.ofNat (2 ^ k.val)).toNat = 2 ^ k.val := by decide
theorem withB_bit (x : UInt8) (k m : Nat) (b : Bool) (hk : k < 8) : (withB x k b).toNat.testBit m = if m = k then b else x.toNat.testBit m := by
  unfold withB
  by_cases h : x.toNat.testBit k = b
  · rw [if_pos h]
    by_cases hm : m = k
    · rw [if_pos hm, hm, h]
    · rw [if_neg hm]
  · rw [if_neg h, UInt8.toNat_xor, Nat.testBit_xor, two_pow8 ⟨k, hk⟩, Nat.testBit_two_pow]
    by_cases hm : m = k
    · subst hm
      rw [if_pos rfl]
      cases b <;> cases hx : x.toNat.testBit m <;> simp_all
    · rw [if_neg hm]
      have : ¬ k = m := fun e => hm e.symm
      simp [this]
theorem withL_bit (xs : List UInt8) (i m : Nat) (b : Bool) (hi : i < 8 * xs.length) : bitL (withL xs i b) m = if m = i then b else bitL xs m := by
  unfold bitL withL
  by_cases hq : m / 8 = i / 8
  · have hlt : i / 8 < xs.length := by omega
    rw [hq, List.getD_eq_getElem?_getD, List.getElem?_set_self hlt, Option.getD_some, withB_bit _ _ _ _ (by omega)]
    by_cases hm : m = i
    · rw [if_pos hm, if_pos (by rw [hm])]
    · rw [if_neg hm, if_neg (by omega)]
  · have hm : m ≠ i := fun e => hq (by rw [e])
    rw [if_neg hm, List.getD_eq_getElem?_getD, List.getElem?_set_ne (fun e => hq e.symm), ← List.getD_eq_getElem?_getD]
theorem withL_same (xs : List UInt8) (i : Nat) (b : Bool) (h : bitL xs i = b) : withL xs i b = xs := by
  unfold withL withB
  unfold bitL at h
  rw [if_pos h]
  by_cases hl : i / 8 < xs.length
  · rw [List.getD_eq_getElem?_getD, List.getElem?_eq_getElem hl]
    exact List.set_getElem_self hl
  · exact List.set_eq_of_length_le (by omega)
theorem ext_bits {xs ys : List UInt8} (h : xs.length = ys.length) (hb : ∀ i, i < 8 * xs.length → bitL xs i = bitL ys i) : xs = ys := by
  apply Decidable.byContradiction
  intro hne
  obtain ⟨j1, j2⟩ := (pfxN_spec xs ys h).2.2.1 hne
  exact j2 (hb _ j1)
theorem xorL_bit : ∀ (xs ys : List UInt8) (i : Nat), xs.length = ys.length → bitL (xorL xs ys) i = (bitL xs i != bitL ys i)
  | [], [], i, _ => by simp [xorL, bitL]
  | x :: xs, y :: ys, i, h => by
    have hl : xs.length = ys.length := by simpa using h
    by_cases h8 : i < 8
    · simp only [xorL, List.zipWith_cons_cons]
      rw [bitL_head _ _ _ h8, bitL_head _ _ _ h8, bitL_head _ _ _ h8, UInt8.toNat_xor, Nat.testBit_xor]
    · have e : i = 8 + (i - 8) := by omega
      have ih := xorL_bit xs ys (i - 8) hl
      simp only [xorL, List.zipWith_cons_cons] at ih ⊢
      rw [e, bitL_tail, bitL_tail, bitL_tail]
      exact ih
theorem bitL_zero (n i : Nat) : bitL (List.replicate n 0) i = false := by
  unfold bitL
  have : ((List.replicate n (0 : UInt8)).getD (i / 8) 0) = 0 := by
    rw [List.getD_eq_getElem?_getD, List.getElem?_replicate]
    split <;> rfl
  rw [this]
  simp
/-- The reference's distance, the first j bits mixed. -/
def xorR (xs ys : List UInt8) : Nat → List UInt8
  | 0 => List.replicate 20 0
  | j + 1 => if bitL xs j = bitL ys j then xorR xs ys j else withL (xorR xs ys j) j true
theorem xorR_length (xs ys : List UInt8) (j : Nat) : (xorR xs ys j).length = 20 := by
  induction j with
  | zero => rfl
  | succ j ih =>
    unfold xorR
    split
    · exact ih
    · rw [withL_length, ih]
theorem xorR_bit (xs ys : List UInt8) (j : Nat) (hj : j ≤ 160) (m : Nat) : bitL (xorR xs ys j) m = (decide (m < j) && (bitL xs m != bitL ys m)) := by
  induction j with
  | zero =>
    unfold xorR
    rw [bitL_zero]
    simp
  | succ j ih =>
    unfold xorR
    by_cases h : bitL xs j = bitL ys j
    · rw [if_pos h, ih (by omega)]
      by_cases hm : m = j
      · subst hm
        simp [h]
      · have : decide (m < j) = decide (m < j + 1) := by
          apply decide_eq_decide.2
          omega
        rw [this]
    · rw [if_neg h, withL_bit _ _ _ _ (by rw [xorR_length]; omega), ih (by omega)]
      by_cases hm : m = j
      · subst hm
        simp [h]
      · rw [if_neg hm]
        have : decide (m < j) = decide (m < j + 1) := by
          apply decide_eq_decide.2
          omega
        rw [this]
theorem xorR_full (xs ys : List UInt8) (hx : xs.length = 20) (hy : ys.length = 20) : xorR xs ys 160 = xorL xs ys := by
  have hl : (xorL xs ys).length = 20 := (xorL_length (hx.trans hy.symm)).trans hx
  apply ext_bits (by rw [xorR_length, hl])
  intro i hi
  rw [xorR_length] at hi
  rw [xorR_bit _ _ _ (by omega), xorL_bit _ _ _ (hx.trans hy.symm)]
  simp [show i < 160 by omega]
end Go.Proofs.Ytbfhfnbhfeedbaa
end
