/- Contract of the reference's Least of layer metric. Conditions: fewer than 20000 ids. -/
import Derived.Test.YtcoiaddjfeaciaaMrb
namespace Go.Proofs.Ytcoiaddjfeaciaa
set_option maxRecDepth 100000
set_option maxHeartbeats 1000000
open Go.RowKit Go.Lib Go.Great

/-- v is a slice of these ids. -/
def SlIs (O : List IDv) (v : Value) (W : World) : Prop := ∃ A c, v = .slice A O.length c ∧ O.length ≤ c ∧ IAt W W.heap.size A O
theorem SlIs.keep {O : List IDv} (v : Value) (w w' : World) (hb : Below w.heap.size w w') (h : SlIs O v w) : SlIs O v w' := by
  obtain ⟨A, c, h1, h2, h3⟩ := h
  exact ⟨A, c, h1, h2, (h3.below hb).more hb.size⟩
theorem IAt.take {w : World} {B : Nat} {A : Option Addr} {L : List IDv} (h : IAt w B A L) (k : Nat) : IAt w B A (L.take k) := by
  rcases h with rfl | ⟨g, off, rfl, hg, hr⟩
  · exact .inl (by simp)
  · refine .inr ⟨g, off, rfl, hg, fun j v hv => ?_⟩
    rw [flatI_take, List.getElem?_take] at hv
    split at hv
    · exact hr j v hv
    · cases hv
def RLstIs (t : IDv) (M : List IDv) (n : Int) (v : Value) (w : World) : Prop := ∃ S, IsSet (kM t) S M ∧ S.length ≤ M.length ∧ SlIs (S.take n.toNat) v w

theorem rmleast_any (t : IDv) (A : Option Addr) (c : Nat) (L : List IDv) (n : Int) (w : World) (hL : L.length ≤ 20000) (hA : IAt w w.heap.size A L) :
    Calls Try.prog 50 #[.agg (encID t).toArray, .slice A L.length c, .int .i64 n] w fun e w' => ∃ v, e = .returned v ∧ RLstIs t L n v w' ∧ Below w.heap.size w w' := by
  obtain ⟨T, hT⟩ : ∃ T, T = (encID t).toArray := ⟨_, rfl⟩
  have hb0 : Below w.heap.size w (w.alloc (.cells T 42)) := (Below.refl _ w).alloc (Nat.le_refl _) _
  have HS := Lib.hid (rmsort_any t A c L (w.alloc (.cells T 42)) hL ((hA.below hb0).more hb0.size))
  have h0 := heap_alloc_new w (.cells T 42)
  have HLT := Lib.hid (by
    have := h0
    rw [hT] at this
    exact range_load42 (row_range this))
  rw [← hT] at HLT HS ⊢
  have HB0 := Lib.hid hb0
  generalize L.length = n0 at HS ⊢
  clear hA hL hT hb0 h0
  go_enter Try.func50, Try.ntmps50
  go_upto_region 2 with (first
    | ((with_reducible refine wpList_loadV (op := ⟨some 8, _, _, _, _, _⟩) rfl 42 (.tmp 3) rfl _ ?_ _ HLT.out ?_); rfl)
    | (go_at_call 48; refine HS.out.mono ?_; rintro e w1 ⟨v, rfl, ⟨S, hset, hlen, hown⟩, hb1⟩))
  obtain ⟨A1, c1, rfl, _, hc1, _⟩ := own_form hown
  have HST := Lib.hid hset
  have HLE : Hid (S.length ≤ L.length) := Lib.hid hlen
  have HA1 := Lib.hid ((IAt.of_own hown).take n.toNat)
  have HB := Lib.hid (HB0.out.trans (hb1.mono HB0.out.size))
  obtain ⟨m, hm⟩ : ∃ m, m = S.length := ⟨_, rfl⟩
  rw [← hm] at hc1 ⊢
  have HM : Hid (m = S.length) := Lib.hid hm
  obtain ⟨k, hk⟩ : ∃ k : Nat, k = (S.take n.toNat).length := ⟨_, rfl⟩
  have hk2 : max 0 (min n (m : Int)) = (k : Int) := by rw [hk, List.length_take, ← hm]; omega
  have HK : Hid (k = (S.take n.toNat).length) := Lib.hid hk
  have hkc : k ≤ c1 := by omega
  clear hset hlen hown hb1 hm HS HLT hk
  go_wp2
  go_ret
  exact ⟨_, rfl, ⟨S, HST.out, HLE.out, A1, c1, by rw [← HK.out]; rfl, by rw [← HK.out]; exact hkc, HA1.out⟩, HB.out⟩

def RkRel (W : World) (t x : IDv) (S : List IDv) (m : Nat) (n i : Value) (wr : World) : Prop := ∃ j : Nat, j ≤ m ∧ i = .int .i64 (j : Int) ∧ n = .int .i64 (rankK (kM t) x (S.take j) : Int) ∧ Below W.heap.size W wr
theorem rank_snoc (t x y : IDv) (M : List IDv) : rankK (kM t) x (M ++ [y]) = rankK (kM t) x M + if kM t y < kM t x then 1 else 0 := by
  unfold rankK
  rw [List.countP_append, List.countP_singleton]
  by_cases h : kM t y < kM t x <;> simp [h]
theorem rmrank_any (t x : IDv) (A : Option Addr) (c : Nat) (L : List IDv) (w : World) (hL : L.length ≤ 20000) (hA : IAt w w.heap.size A L) :
    Calls Try.prog 52 #[.agg (encID t).toArray, .agg (encID x).toArray, .slice A L.length c] w fun e w' => RankIs t x L e ∧ Below w.heap.size w w' := by
  obtain ⟨h1, h2, hb0⟩ := heap2 w (.cells (encID t).toArray 42) (.cells (encID x).toArray 42)
  obtain ⟨W0, hW0⟩ : ∃ W0, W0 = (w.alloc (.cells (encID t).toArray 42)).alloc (.cells (encID x).toArray 42) := ⟨_, rfl⟩
  rw [← hW0] at h1 h2 hb0
  have g1 := (Array.getElem?_eq_some_iff.1 h1).1
  have g2 := (Array.getElem?_eq_some_iff.1 h2).1
  have HL0 := Lib.hid (range_load42 (row_range h1))
  have HT : Hid (∀ W, Below W0.heap.size W0 W → ∀ n : Kept W.heap.size W, (loadVar 42 ⟨w.heap.size, 0, none⟩).run Try.prog n.val = .ok (.agg (encID t).toArray) n.val) := Lib.hid (fun W h => kept_range (Nat.lt_of_lt_of_le g1 h.size) (range_keep (row_range h1) (h.block _ g1)))
  have HX : Hid (∀ W, Below W0.heap.size W0 W → ∀ n : Kept W.heap.size W, (loadVar 42 ⟨w.heap.size + 1, 0, none⟩).run Try.prog n.val = .ok (.agg (encID x).toArray) n.val) := Lib.hid (fun W h => kept_range (Nat.lt_of_lt_of_le g2 h.size) (range_keep (row_range h2) (h.block _ g2)))
  have HS := Lib.hid (rmsort_any t A c L W0 hL ((hA.below hb0).more hb0.size))
  have HB0 := Lib.hid hb0
  have HW := Lib.hid hW0
  have HL : Hid (L.length ≤ 20000) := Lib.hid hL
  have HC : Hid (∀ y W, Calls Try.prog 54 #[.agg (encID t).toArray, .agg (encID y).toArray, .agg (encID x).toArray] W fun e w' => e = .returned (.int .i64 (cfM t y x)) ∧ Below W.heap.size W w') := Lib.hid (fun y W => rmcmp_any t y x W)
  generalize (encID t).toArray = T at HT HL0 HS HW HC ⊢
  generalize (encID x).toArray = X at HX HW HC HL0 ⊢
  generalize L.length = n0 at HS ⊢
  clear hA hL hW0 h1 h2 g1 g2 hb0
  go_enter Try.func52, Try.ntmps52
  go_upto_region 2 with fail
  rw [← HW.out]
  go_upto_region 3 with (first
    | ((with_reducible refine wpList_loadV (op := ⟨some 10, _, _, _, _, _⟩) rfl 42 (.tmp 3) rfl _ ?_ _ HL0.out ?_); rfl)
    | (go_at_call 48; refine HS.out.mono ?_; rintro e W1 ⟨v, rfl, ⟨S, hset, hlen, hown⟩, hb1⟩))
  obtain ⟨A1, c1, rfl, _, hc1, _⟩ := own_form hown
  have HST := Lib.hid hset
  have HA1 := Lib.hid (IAt.of_own hown)
  have HB1 := Lib.hid hb1
  obtain ⟨m, hm⟩ : ∃ m, m = S.length := ⟨_, rfl⟩
  have hm2 : m ≤ 20000 := by have := HL.out; omega
  rw [← hm]
  have HM : Hid (m = S.length) := Lib.hid hm
  have R0 : Hid (RkRel W1 t x S m (.int .i64 0) (.int .i64 0) W1) := Lib.hid ⟨0, by omega, rfl, by simp [rankK], Below.refl _ _⟩
  clear hset hlen hown hb1 hc1 hm HS HL0
  go_upto_region 4 with fail
  go_loopw [7, 9] (RkRel W1 t x S m) (fun _ i _ => m - (intOf i).toNat)
  case atStart => exact R0.out
  case round =>
    obtain ⟨j, hj, rfl, rfl, hb⟩ := hrel
    clear R0
    have hle : rankK (kM t) x (S.take j) ≤ 20000 := by
      have := rank_le (key := kM t) x (S.take j)
      rw [List.length_take] at this
      omega
    have HB := Lib.hid hb
    by_cases hlt : j < m
    · obtain ⟨y, hy⟩ : ∃ y, S[j]? = some y := ⟨S[j]'(by have := HM.out; omega), List.getElem?_eq_getElem _⟩
      obtain ⟨g, off, rfl, hg, hr⟩ := (HA1.out.below hb).some_ (by have := HM.out; omega)
      have HLY := Lib.hid (kept_range (Nat.lt_of_lt_of_le hg hb.size) (range_part hr hy))
      have hbW := HB1.out.trans (hb.mono HB1.out.size)
      have HLT := Lib.hid (HT.out wr hbW)
      have HLX := Lib.hid (HX.out wr hbW)
      have HCY := Lib.hid (HC.out y)
      have HCK := Lib.hid (cfM_lt t y x)
      have HSN := Lib.hid (rank_snoc t x y (S.take j))
      rw [← take_snoc hy] at HSN
      generalize cfM t y x = cv at HCY HCK
      generalize rankK (kM t) x (S.take j) = r at hle HSN ⊢
      clear hr hg hb hy hbW
      by_cases hc : cv < 0
      · go_upto_region 6 with fail
        refine wp_region_kept wr.heap.size wr (Below.refl _ _) (by kernel_rfl) (by kernel_rfl) ?_
        repeat (first
          | (go_big_quiet_want; (with_reducible refine quiet_loadV 42 (.tmp 3) rfl _ ?_ _ HLT.out ?_); rfl; simp only [Act.put, List.setIfInBounds_toArray, List.set_cons_zero, List.set_cons_succ]; go_big_quiet_on)
          | (go_big_quiet_want; (with_reducible refine quiet_loadV 42 (.tmp 4) rfl _ ?_ _ HLX.out ?_); rfl; simp only [Act.put, List.setIfInBounds_toArray, List.set_cons_zero, List.set_cons_succ]; go_big_quiet_on)
          | (go_big_quiet_want; (with_reducible refine quiet_loadV 42 (.tmp 22) rfl _ ?_ _ HLY.out ?_); rfl; simp only [Act.put, List.setIfInBounds_toArray, List.set_cons_zero, List.set_cons_succ]; go_big_quiet_on)
          | go_big_quiet_step (first | (go_at_call 54; with_reducible exact kept_of (Nat.le_refl _) HCY.out _)))
        refine wpQuiet_nil ?_
        rintro wk ⟨⟨_, hwk⟩, rfl⟩
        have HREL : Hid (RkRel W1 t x S m (.int .i64 ((r : Int) + 1)) (.int .i64 ((j : Int) + 1)) wk) := Lib.hid ⟨j + 1, by omega, by go_num, by rw [HSN.out, if_pos (HCK.out.1 hc)]; go_num, HB.out.trans (hwk.mono HB.out.size)⟩
        clear hwk HLT HLX HLY HCY HCK HSN HB
        go_wp2
        go_roundw
        case rel => exact HREL.out
        case measure => simp [intOf]; omega
      · go_upto_region 6 with fail
        refine wp_region_kept wr.heap.size wr (Below.refl _ _) (by kernel_rfl) (by kernel_rfl) ?_
        repeat (first
          | (go_big_quiet_want; (with_reducible refine quiet_loadV 42 (.tmp 3) rfl _ ?_ _ HLT.out ?_); rfl; simp only [Act.put, List.setIfInBounds_toArray, List.set_cons_zero, List.set_cons_succ]; go_big_quiet_on)
          | (go_big_quiet_want; (with_reducible refine quiet_loadV 42 (.tmp 4) rfl _ ?_ _ HLX.out ?_); rfl; simp only [Act.put, List.setIfInBounds_toArray, List.set_cons_zero, List.set_cons_succ]; go_big_quiet_on)
          | (go_big_quiet_want; (with_reducible refine quiet_loadV 42 (.tmp 22) rfl _ ?_ _ HLY.out ?_); rfl; simp only [Act.put, List.setIfInBounds_toArray, List.set_cons_zero, List.set_cons_succ]; go_big_quiet_on)
          | go_big_quiet_step (first | (go_at_call 54; with_reducible exact kept_of (Nat.le_refl _) HCY.out _)))
        refine wpQuiet_nil ?_
        rintro wk ⟨⟨_, hwk⟩, rfl⟩
        have HREL : Hid (RkRel W1 t x S m (.int .i64 (r : Int)) (.int .i64 ((j : Int) + 1)) wk) := Lib.hid ⟨j + 1, by omega, by go_num, by rw [HSN.out, if_neg (fun e => hc (HCK.out.2 e))]; rfl, HB.out.trans (hwk.mono HB.out.size)⟩
        clear hwk HLT HLX HLY HCY HCK HSN HB
        go_wp2
        go_roundw
        case rel => exact HREL.out
        case measure => simp [intOf]; omega
    · have hjm : j = S.length := by have := HM.out; omega
      have HF : Hid (RankIs t x L (.returned (.int .i64 (rankK (kM t) x (S.take j) : Int)))) := Lib.hid ⟨S, HST.out, by rw [hjm, List.take_length]⟩
      have HBF := Lib.hid (HB0.out.trans ((HB1.out.trans (hb.mono HB1.out.size)).mono HB0.out.size))
      generalize rankK (kM t) x (S.take j) = r at hle HF ⊢
      clear hb hjm
      go_wp2
      go_ret
      exact ⟨HF.out, HBF.out⟩
end Go.Proofs.Ytcoiaddjfeaciaa
