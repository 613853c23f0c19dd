/- Contracts of the reference's Bit. Conditions: an id has 20 bytes. -/
import Derived.Test.YtieeffebecghiaaPFar
namespace Go.Proofs.Ytieeffebecghiaa
set_option maxRecDepth 100000
set_option maxHeartbeats 400000
open Go.RowKit Go.Great

theorem zero42 (W : World) : (zeroValue 26).run Try.prog W = .ok (.agg (bcells (List.replicate 20 0)).toArray) W := by
  have h : (Try.prog.info? 26).map (·.zero) = some (some (.agg (bcells (List.replicate 20 0)).toArray)) := by kernel_rfl
  cases hi : Try.prog.info? 26 with
  | none => rw [hi] at h; cases h
  | some i =>
    rw [hi] at h
    simp only [Option.map_some, Option.some.injEq] at h
    simp [zeroValue, typeInfo, hi, h]
theorem size42 : (Try.prog.info? 26).map (·.size) = some 20 := by kernel_rfl
theorem load42 {w : World} {g : Nat} {xs : List UInt8} {ty : TypeId} (hx : xs.length = 20) (h : w.heap[g]? = some (.cells (bcells xs).toArray ty (0, 0))) : (loadVar 26 ⟨g, 0, none⟩).run Try.prog w = .ok (.agg (bcells xs).toArray) w :=
  run_loadVar_mid w g 0 26 (bcells xs) _ (row_range h) Try.underlying26 rfl (by rw [bcells_length, hx]; exact size42)
theorem eq42 (xs ys : List UInt8) (hx : xs.length = 20) (hy : ys.length = 20) (W : World) : (Op.equalIn 10000 26 (.agg (bcells xs).toArray) (.agg (bcells ys).toArray)).run Try.prog W = .ok (xs == ys) W :=
  run_equalIn_bytes W 9998 26 5 20 Try.underlying26 Try.underlying5 (fun w => by
    obtain ⟨i0, hi, hz0, hz1, hz2⟩ := info_parts info5
    simp [sizeOf, typeInfo, hi, hz1]) xs ys hx hy

theorem rbit_no (X : Array Value) (i : Int) (h : ¬ (0 ≤ i ∧ i < 160)) (w : World) :
    Calls Try.prog 31 #[.agg X, .int .i64 i] w fun e w' => e = .returned (.int .i64 0) ∧ Below w.heap.size w w' := by
  by_cases h1 : i < 0
  · clear h
    go_enter Try.func31, Try.ntmps31
    go_wp2
    go_ret
    exact ⟨rfl, (Below.refl _ w).alloc (Nat.le_refl _) _⟩
  · have h2 : 160 ≤ i := by omega
    clear h
    go_enter Try.func31, Try.ntmps31
    go_wp2
    go_ret
    exact ⟨rfl, (Below.refl _ w).alloc (Nat.le_refl _) _⟩

theorem rbit_fin : ∀ (z : Fin 256) (k : Fin 8), bits .and .i64 ((z.val : Int) / 2 ^ k.val) 1 = if z.val.testBit k.val then 1 else 0 := by decide +kernel
theorem rbit_byte (z : UInt8) (k : Nat) (h : k < 8) : bits .and .i64 ((z.toNat : Int) / 2 ^ k) 1 = if z.toNat.testBit k then 1 else 0 := rbit_fin ⟨z.toNat, z.toNat_lt⟩ ⟨k, h⟩
theorem rbit_yes (xs : List UInt8) (hx : xs.length = 20) (j : Nat) (hj : j < 160) (w : World) :
    Calls Try.prog 31 #[.agg (bcells xs).toArray, .int .i64 (j : Int)] w fun e w' => e = .returned (.int .i64 (if bitL xs j then 1 else 0)) ∧ Below w.heap.size w w' := by
  obtain ⟨X, hX⟩ : ∃ X, X = (bcells xs).toArray := ⟨_, rfl⟩
  obtain ⟨q, hq⟩ : ∃ q, j / 8 = q := ⟨_, rfl⟩
  have hq2 : q < 20 := by omega
  have hc : ∀ W : World, (W.alloc (.cells X 26)).cell? ⟨W.heap.size, q, none⟩ = some (.int .u8 ((xs.getD q 0).toNat : Int)) := fun W => by
    have := row_byte (w := W.alloc (.cells X 26)) (g := W.heap.size) (xs := xs) (ty := 26) (by rw [← hX]; exact heap_alloc_new W _) q (by omega)
    exact this
  have h160 : (j : Int) < 160 := by omega
  have hd : (j : Int) / 8 = (q : Int) := by omega
  have hbt := rbit_byte (xs.getD q 0) (7 - j % 8) (by omega)
  rw [show (xs.getD q 0).toNat.testBit (7 - j % 8) = bitL xs j by rw [← hq]; rfl] at hbt
  have hb := (xs.getD q 0).toNat_lt
  rw [← hX]
  clear hX
  generalize (xs.getD q 0).toNat = b at hc hbt hb
  have hw : wrap64 (b : Int) = (b : Int) := by unfold wrap64; omega
  generalize bitL xs j = bt at hbt ⊢
  clear hq hj hx hb
  cases bt
  all_goals
    simp only [Bool.false_eq_true, if_false, if_true] at hbt ⊢
    go_enter Try.func31, Try.ntmps31
    go_wp2
    go_ret
    exact ⟨rfl, (Below.refl _ w).alloc (Nat.le_refl _) _⟩
/-- Bit i of an id, or 0. -/
def bitI (xs : List UInt8) (i : Int) : Int := if 0 ≤ i ∧ i < 160 then (if bitL xs i.toNat then 1 else 0) else 0
theorem bitI_nat (xs : List UInt8) (j : Nat) (h : j < 160) : bitI xs (j : Int) = if bitL xs j then 1 else 0 := by
  unfold bitI
  rw [if_pos (by omega)]
  rfl
theorem bit_any (xs : List UInt8) (hx : xs.length = 20) (i : Int) (w : World) :
    Calls Try.prog 29 #[.agg (bcells xs).toArray, .int .i64 i] w fun e w' => e = .returned (.int .i64 (bitI xs i)) ∧ Below w.heap.size w w' := by
  by_cases h : 0 ≤ i ∧ i < 160
  · obtain ⟨j, rfl⟩ : ∃ j : Nat, i = j := ⟨i.toNat, by omega⟩
    rw [bitI_nat xs j (by omega)]
    exact bit_yes xs hx j (by omega) w
  · have e : bitI xs i = 0 := by unfold bitI; rw [if_neg h]
    rw [e]
    exact bit_no _ i h w
theorem rbit_any (xs : List UInt8) (hx : xs.length = 20) (i : Int) (w : World) :
    Calls Try.prog 31 #[.agg (bcells xs).toArray, .int .i64 i] w fun e w' => e = .returned (.int .i64 (bitI xs i)) ∧ Below w.heap.size w w' := by
  by_cases h : 0 ≤ i ∧ i < 160
  · obtain ⟨j, rfl⟩ : ∃ j : Nat, i = j := ⟨i.toNat, by omega⟩
    rw [bitI_nat xs j (by omega)]
    exact rbit_yes xs hx j (by omega) w
  · have e : bitI xs i = 0 := by unfold bitI; rw [if_neg h]
    rw [e]
    exact rbit_no _ i h w
end Go.Proofs.Ytieeffebecghiaa
