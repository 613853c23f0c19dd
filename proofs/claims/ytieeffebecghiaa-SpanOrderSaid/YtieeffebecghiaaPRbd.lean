/- Contract of the reference's With. Conditions: an id has 20 bytes. -/
import Derived.Test.YtieeffebecghiaaPRbc
namespace Go.Proofs.Ytieeffebecghiaa
set_option maxRecDepth 100000
set_option maxHeartbeats 400000
open Go.RowKit Go.Great

theorem rwith_turn (xs : List UInt8) (hx : xs.length = 20) (j : Nat) (hj : j < 160) (bit : Int) (hne : bitL xs j ≠ decide (bit ≠ 0)) (w : World) :
    Calls Try.prog 36 #[.agg (bcells xs).toArray, .int .i64 (j : Int), .int .i64 bit] w fun e w' => e = .returned (.agg (bcells (withL xs j (decide (bit ≠ 0)))).toArray) ∧ Below w.heap.size w w' := by
  obtain ⟨Z, hZ⟩ : ∃ Z, Z = (bcells (List.replicate 20 0)).toArray := ⟨_, rfl⟩
  have hz := fun W => zero42 W
  rw [← hZ] at hz
  have hBt := fun W => rbit_any xs hx (j : Int) W
  obtain ⟨q, hq⟩ : ∃ q, j / 8 = q := ⟨_, rfl⟩
  have hq2 : q < 20 := by omega
  obtain ⟨h1, h2, h4⟩ := heap2 w (.cells (bcells xs).toArray 26) (.cells Z 26)
  have hk : (loadVar 26 ⟨w.heap.size, 0, none⟩).run Try.prog ((w.alloc (.cells (bcells xs).toArray 26)).alloc (.cells Z 26)) = .ok (.agg (bcells xs).toArray) ((w.alloc (.cells (bcells xs).toArray 26)).alloc (.cells Z 26)) := load42 hx h1
  have HK := Lib.hid hk
  obtain ⟨v, hv⟩ : ∃ v : UInt8, v = xs.getD q 0 ^^^ UInt8.ofNat (2 ^ (7 - j % 8)) := ⟨_, rfl⟩
  obtain ⟨M, hM⟩ : ∃ M : Int, ((2 ^ (7 - j % 8) : Nat) : Int) = M := ⟨_, rfl⟩
  have hM2 : (2 : Int) ^ (7 - j % 8) % 256 = M := (pow_mask j).trans hM
  have hxr : bits .xor .u8 ((xs.getD q 0).toNat : Int) M = (v.toNat : Int) := by
    have hp : (2 : Nat) ^ (7 - j % 8) < 256 := by
      have : (2 : Nat) ^ (7 - j % 8) ≤ 2 ^ 7 := Nat.pow_le_pow_right (by omega) (by omega)
      omega
    rw [← hM, u8_xor_nat _ _ (UInt8.toNat_lt _) hp, hv, UInt8.toNat_xor, two_pow8 ⟨7 - j % 8, by omega⟩]
  have hw : withL xs j (decide (bit ≠ 0)) = xs.set q v := by
    unfold withL withB
    rw [hq, if_neg (by unfold bitL at hne; rw [hq] at hne; exact hne), ← hv]
  have hbit : bitI xs (j : Int) = if bit = 0 then 1 else 0 := by
    rw [bitI_nat xs j hj]
    by_cases hb : bit = 0
    · have : bitL xs j = true := by simpa [hb] using hne
      rw [this, if_pos hb]
      rfl
    · have : bitL xs j = false := by simpa [hb] using hne
      rw [this, if_neg hb]
      rfl
  have hend : ∀ W2, Below (w.heap.size + 2) ((w.alloc (.cells (bcells xs).toArray 26)).alloc (.cells Z 26)) W2 →
      W2.cell? ⟨w.heap.size, q, none⟩ = some (.int .u8 ((xs.getD q 0).toNat : Int)) ∧ W2.frozen? ⟨w.heap.size, q, none⟩ = false ∧
      IdEnd2 (W2.setCell ⟨w.heap.size, q, none⟩ (.int .u8 (v.toNat : Int))) w.heap.size (w.heap.size + 1) (bcells (xs.set q v)) ∧ Below w.heap.size w (W2.setCell ⟨w.heap.size, q, none⟩ (.int .u8 (v.toNat : Int))) := fun W2 hb => by
    have r1 : W2.heap[w.heap.size]? = some (.cells (bcells xs).toArray 26 (0, 0)) := by rw [hb.block _ (by omega), h1]
    have r2 : W2.heap[w.heap.size + 1]? = some (.cells Z 26 (0, 0)) := by rw [hb.block _ (by omega), h2]
    refine ⟨row_byte r1 q (by omega), frozen_of_row _ w.heap.size q _ 26 r1, idEnd2 (t := 26) (t' := 26) (zs := List.replicate 20 0) (by simp [hx]) (by simp) ?_ ?_, (h4.trans (hb.mono (by omega))).setCell (p := ⟨w.heap.size, q, none⟩) (Nat.le_refl _) _⟩
    · have := heap_setCell_same W2 w.heap.size q _ 26 (.int .u8 (v.toNat : Int)) r1
      rw [bcells_set] at this
      exact this
    · rw [Below.heap_setCell _ _ _ _ (by simp), r2, hZ]
  have HEND := Lib.hid hend
  have hs0 : ((w.alloc (.cells (bcells xs).toArray 26)).alloc (.cells Z 26)).heap.size = w.heap.size + 2 := by simp
  have HS0 := Lib.hid hs0
  have hd : (j : Int) / 8 = (q : Int) := by omega
  have hwq : IntKind.i64.wrap (q : Int) = (q : Int) := by rw [IntKind.wrap_i64]; omega
  have hq3 : (q : Int) < 20 := by omega
  have n0 : ¬ (j : Int) < 0 := by omega
  have n1 : ¬ (160 : Int) ≤ (j : Int) := by omega
  rw [hbit] at hBt
  have HBT := Lib.hid hBt
  rw [hw]
  generalize bcells (xs.set q v) = L at HEND ⊢
  generalize bcells xs = X at HEND HK HBT HS0 ⊢
  generalize (xs.getD q 0).toNat = b at hxr HEND
  clear hZ hBt h1 h2 h4 hk hend hs0 hne hbit hw hv hM hq hx hj
  by_cases hb : bit = 0
  all_goals
    first | rw [if_pos hb] at HBT | rw [if_neg hb] at HBT
    try subst hb
    go_enter Try.func36, Try.ntmps36
    go_wp2_with (first
      | (go_at_call 31; refine (HBT.out _).mono ?_; rintro e w2 ⟨rfl, hb2⟩; rw [HS0.out] at hb2; obtain ⟨hc, hf, E, hB⟩ := HEND.out w2 hb2; have HE := Lib.hid E; have HB := Lib.hid hB; clear E hB hb2)
      | ((with_reducible refine wpList_loadG (op := ⟨some 17, _, _, _, _, _⟩) ?_ 26 (.tmp 3) rfl _ ?_ _ HK.out ?_); rfl; rfl)
      | ((with_reducible refine wpList_load_mid (op := ⟨some 37, _, _, _, _, _⟩) rfl 26 (.tmp 3) rfl w.heap.size 0 ?_ L _ HE.out.q1 Try.underlying26 rfl HE.out.hj ?_); rfl; refine wpList_store_mid rfl 26 (.tmp 6) (.tmp 37) rfl (w.heap.size + 1) 0 L.toArray rfl rfl HE.out.ht HE.out.hi HE.out.hc ?_))
    refine bodyPost_ret (v := .agg L.toArray) ?_ rfl ?_
    · exact results_cell1 (p := 6) (ty := 26) rfl _ _ (w.heap.size + 1) 0 L _ rfl (by simpa using HE.out.hs) Try.underlying26 rfl HE.out.hj
    · exact ⟨rfl, by simpa using below_cells (by omega) L 0 _ HB.out⟩
theorem rwith_any (xs : List UInt8) (hx : xs.length = 20) (i bit : Int) (w : World) :
    Calls Try.prog 36 #[.agg (bcells xs).toArray, .int .i64 i, .int .i64 bit] w fun e w' => e = .returned (.agg (bcells (withI xs i bit)).toArray) ∧ Below w.heap.size w w' := by
  unfold withI
  by_cases h : 0 ≤ i ∧ i < 160
  · rw [if_pos h]
    obtain ⟨j, rfl⟩ : ∃ j : Nat, i = j := ⟨i.toNat, by omega⟩
    have e : ((j : Int)).toNat = j := by omega
    rw [e]
    by_cases hs : bitL xs j = decide (bit ≠ 0)
    · rw [withL_same _ _ _ hs]
      refine rwith_same xs hx (j : Int) bit (.inr ?_) w
      rw [bitI_nat xs j (by omega), hs]
      by_cases hb : bit = 0 <;> simp [hb]
    · exact rwith_turn xs hx j (by omega) bit hs w
  · rw [if_neg h]
    exact rwith_same xs hx i bit (.inl h) w
end Go.Proofs.Ytieeffebecghiaa
