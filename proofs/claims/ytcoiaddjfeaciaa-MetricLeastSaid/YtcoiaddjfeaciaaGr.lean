/- Contracts of slices.Index and slices.Contains at ids. Conditions: fewer than 100000 ids. Contract of slices.BinarySearchFunc at ids, with the closure of package metric. Conditions: fewer than 100000 ids, sorted. -/
import Derived.Test.YtcoiaddjfeaciaaGq
section
namespace Go.Proofs.Ytcoiaddjfeaciaa
set_option maxRecDepth 100000
set_option maxHeartbeats 1000000
open Go.RowKit Go.Lib Go.Great

def IxRel (W : World) (L : List IDv) (x : IDv) (i : Value) (wr : World) : Prop := ∃ j : Nat, j ≤ L.length ∧ i = .int .i64 (j : Int) ∧ (∀ q, q < j → L[q]? ≠ some x) ∧ Below W.heap.size W wr
def IxPost (L : List IDv) (x : IDv) (e : Ending) : Prop := ∃ i : Int, e = .returned (.int .i64 i) ∧ (0 ≤ i ↔ x ∈ L)
theorem index_any (A : Option Addr) (c : Nat) (L : List IDv) (x : IDv) (w : World) (hL : L.length ≤ 100000) (hA : IAt w w.heap.size A L) :
    Calls Try.prog 88 #[.slice A L.length c, .agg (encID x).toArray] w fun e w' => IxPost L x e ∧ Below w.heap.size w w' := by
  obtain ⟨X, hX⟩ : ∃ X, X = (encID x).toArray := ⟨_, rfl⟩
  rw [← hX]
  have hb0 : Below w.heap.size w (w.alloc (.cells X 26)) := (Below.refl _ w).alloc (Nat.le_refl _) _
  obtain ⟨W0, hW0⟩ : ∃ W0, W0 = w.alloc (.cells X 26) := ⟨_, rfl⟩
  have h0 := heap_alloc_new w (.cells X 26)
  rw [← hW0] at hb0 h0
  have HA := Lib.hid ((hA.below hb0).more hb0.size)
  have HB0 := Lib.hid hb0
  have HW := Lib.hid hW0
  have HH : Hid (W0.heap[w.heap.size]? = some (.cells (encID x).toArray 26 (0, 0))) := Lib.hid (by rw [← hX]; exact h0)
  have HX := Lib.hid hX
  have R0 : Hid (IxRel W0 L x (.int .i64 0) W0) := Lib.hid ⟨0, by omega, rfl, fun q hq => by omega, Below.refl _ _⟩
  obtain ⟨n, hn⟩ : ∃ n, n = L.length := ⟨_, rfl⟩
  rw [← hn] at hL ⊢
  have HN := Lib.hid hn
  clear hA hX hb0 h0 hW0 hn
  go_enter Try.func88, Try.ntmps88
  go_upto_region 2 with fail
  rw [← HW.out]
  go_loopw [8] (IxRel W0 L x) (fun i _ => n - (intOf i).toNat)
  case atStart => exact R0.out
  case round =>
    obtain ⟨j, hj, rfl, hq, hb⟩ := hrel
    clear R0
    have HQ := Lib.hid hq
    have HB := Lib.hid hb
    by_cases hlt : j < n
    · obtain ⟨y, hy⟩ : ∃ y, L[j]? = some y := ⟨L[j]'(by have := HN.out; omega), List.getElem?_eq_getElem _⟩
      obtain ⟨g, off, rfl, hg, hr⟩ := (HA.out.below hb).some_ (by have := HN.out; omega)
      have HLY := Lib.hid (kept_range26 (Nat.lt_of_lt_of_le hg hb.size) (range_part hr hy))
      have hgx : w.heap.size < W0.heap.size := (Array.getElem?_eq_some_iff.1 HH.out).1
      have hLX := kept_range26 (Nat.lt_of_lt_of_le hgx hb.size) (range_keep (row_range HH.out) (hb.block _ hgx))
      rw [← HX.out] at hLX
      have HLX := Lib.hid hLX
      have HY := Lib.hid hy
      have hE := fun W => eq61 x.val y.val x.property y.property W
      change ∀ W, (Op.equalIn 10000 26 (.agg (encID x).toArray) (.agg (encID y).toArray)).run Try.prog W = .ok (x.val == y.val) W at hE
      rw [← HX.out] at hE
      clear hr hg hgx hLX hb hq hy
      by_cases hxy : x = y
      · have hE2 : ∀ W, (Op.equalIn 10000 26 (.agg X) (.agg (encID y).toArray)).run Try.prog W = .ok true W := fun W => by rw [hE, hxy]; simp
        have HP : Hid (IxPost L x (.returned (.int .i64 (j : Int)))) := Lib.hid ⟨j, rfl, by
          constructor
          · intro _
            rw [hxy]
            exact List.mem_iff_getElem?.2 ⟨j, HY.out⟩
          · intro _
            omega⟩
        clear hE hxy
        go_upto_region 4 with fail
        refine wp_region_kept wr.heap.size wr (Below.refl _ _) (by kernel_rfl) (by kernel_rfl) ?_
        repeat (first
          | (go_big_quiet_want; (with_reducible refine quiet_loadV 26 (.tmp 3) rfl _ ?_ _ HLX.out ?_); rfl; simp only [Act.put, List.setIfInBounds_toArray, List.set_cons_zero, List.set_cons_succ]; go_big_quiet_on)
          | (go_big_quiet_want; (with_reducible refine quiet_loadV 26 (.tmp 14) rfl _ ?_ _ HLY.out ?_); rfl; simp only [Act.put, List.setIfInBounds_toArray, List.set_cons_zero, List.set_cons_succ]; go_big_quiet_on)
          | go_big_quiet_step (fail))
        refine wpQuiet_nil ?_
        rintro wk ⟨⟨_, hwk⟩, rfl⟩
        have HF := Lib.hid (HB0.out.trans ((HB.out.trans (hwk.mono HB.out.size)).mono HB0.out.size))
        clear hwk HLX HLY
        go_wp2
        go_ret
        exact ⟨HP.out, HF.out⟩
      · have hE2 : ∀ W, (Op.equalIn 10000 26 (.agg X) (.agg (encID y).toArray)).run Try.prog W = .ok false W := fun W => by
          rw [hE, beq_eq_false_iff_ne.2 (fun e => hxy (Subtype.ext e))]
        have HXY := Lib.hid hxy
        clear hE hxy
        go_upto_region 4 with fail
        refine wp_region_kept wr.heap.size wr (Below.refl _ _) (by kernel_rfl) (by kernel_rfl) ?_
        repeat (first
          | (go_big_quiet_want; (with_reducible refine quiet_loadV 26 (.tmp 3) rfl _ ?_ _ HLX.out ?_); rfl; simp only [Act.put, List.setIfInBounds_toArray, List.set_cons_zero, List.set_cons_succ]; go_big_quiet_on)
          | (go_big_quiet_want; (with_reducible refine quiet_loadV 26 (.tmp 14) rfl _ ?_ _ HLY.out ?_); rfl; simp only [Act.put, List.setIfInBounds_toArray, List.set_cons_zero, List.set_cons_succ]; go_big_quiet_on)
          | go_big_quiet_step (fail))
        refine wpQuiet_nil ?_
        rintro wk ⟨⟨_, hwk⟩, rfl⟩
        have HREL : Hid (IxRel W0 L x (.int .i64 ((j : Int) + 1)) wk) := Lib.hid ⟨j + 1, by have := HN.out; omega, by go_num, fun q hq => by
          by_cases e : q = j
          · subst e
            rw [HY.out]
            intro e2
            injection e2 with e2
            exact HXY.out e2.symm
          · exact HQ.out q (by omega), HB.out.trans (hwk.mono HB.out.size)⟩
        clear hwk HLX HLY HQ HB HY
        go_wp2
        go_roundw
        case rel => exact HREL.out
        case measure => simp [intOf]; omega
    · have HP : Hid (IxPost L x (.returned (.int .i64 (-1)))) := Lib.hid ⟨-1, rfl, by
        constructor
        · intro h
          omega
        · intro h
          obtain ⟨q, hq⟩ := List.mem_iff_getElem?.1 h
          have := (List.getElem?_eq_some_iff.1 hq).1
          exact absurd hq (HQ.out q (by have := HN.out; omega))⟩
      have HF := Lib.hid (HB0.out.trans (HB.out.mono HB0.out.size))
      clear hb hq HB HQ
      go_wp2
      go_ret
      exact ⟨HP.out, HF.out⟩

theorem contains_any (A : Option Addr) (c : Nat) (L : List IDv) (x : IDv) (w : World) (hL : L.length ≤ 100000) (hA : IAt w w.heap.size A L) :
    Calls Try.prog 73 #[.slice A L.length c, .agg (encID x).toArray] w fun e w' => e = .returned (.bool (decide (x ∈ L))) ∧ Below w.heap.size w w' := by
  obtain ⟨X, hX⟩ : ∃ X, X = (encID x).toArray := ⟨_, rfl⟩
  have hb0 : Below w.heap.size w (w.alloc (.cells X 26)) := (Below.refl _ w).alloc (Nat.le_refl _) _
  have HI := Lib.hid (index_any A c L x (w.alloc (.cells X 26)) hL ((hA.below hb0).more hb0.size))
  have h0 := heap_alloc_new w (.cells X 26)
  have HLX := Lib.hid (by
    have := h0
    rw [hX] at this
    exact range_load26 (row_range this))
  rw [← hX] at HLX HI ⊢
  have HB0 := Lib.hid hb0
  generalize L.length = n at HI ⊢
  clear hA hX hb0 h0 hL
  go_enter Try.func73, Try.ntmps73
  go_wp2_with (first
    | ((with_reducible refine wpList_loadV (op := ⟨some 6, _, _, _, _, _⟩) rfl 26 (.tmp 3) rfl _ ?_ _ HLX.out ?_); rfl)
    | (go_at_call 88; refine HI.out.mono ?_; rintro e w1 ⟨⟨i, rfl, hi⟩, hb1⟩))
  go_ret
  refine ⟨?_, HB0.out.trans (hb1.mono HB0.out.size)⟩
  congr 2
end Go.Proofs.Ytcoiaddjfeaciaa
end
section
namespace Go.Proofs.Ytcoiaddjfeaciaa
set_option maxRecDepth 100000
set_option maxHeartbeats 1000000
open Go.RowKit Go.Lib Go.Great

def BsRel (W : World) (t x : IDv) (S : List IDv) (i j : Value) (wr : World) : Prop := ∃ a b : Nat, i = .int .i64 (a : Int) ∧ j = .int .i64 (b : Int) ∧ a ≤ b ∧ b ≤ S.length ∧ (∀ q y, q < a → S[q]? = some y → kM t y < kM t x) ∧ (∀ q y, b ≤ q → S[q]? = some y → ¬ kM t y < kM t x) ∧ Below W.heap.size W wr
def BsPost (t x : IDv) (S : List IDv) (e : Ending) : Prop := ∃ b : Bool, e = .returned (.tuple #[.int .i64 (rankK (kM t) x S : Int), .bool b])

theorem kept_ofS {P : Program} {f : FuncId} {args : Array Value} {v : Value} {B : Nat} {W0 : World} (hB : B ≤ W0.heap.size) (h : ∀ n : Kept B W0, Calls P f args n.val fun e w' => e = .returned v ∧ Below n.val.heap.size n.val w') (n : Kept B W0) :
    Calls P f args n.val fun e w' => e = .returned v ∧ ∃ m : Kept B W0, w' = m.val :=
  (h n).mono (by rintro e w' ⟨rfl, hb⟩; exact ⟨rfl, ⟨w', n.property.trans (hb.mono (Nat.le_trans hB n.property.size))⟩, rfl⟩)
theorem kept_clo {t x y : IDv} {p : Nat} {W0 wr : World} (hp : p < W0.heap.size ∧ W0.rangeAt p 0 (encID t)) (hb : Below W0.heap.size W0 wr) (n : Kept wr.heap.size wr) :
    Calls Try.prog 89 #[.agg (encID y).toArray, .agg (encID x).toArray, .pointer (some ⟨p, 0, none⟩)] n.val fun e w' => e = .returned (.int .i64 (cfM t y x)) ∧ Below n.val.heap.size n.val w' := by
  have h1 := Nat.lt_of_lt_of_le hp.1 hb.size
  refine (clo89_g t y x p n.val (Nat.lt_of_lt_of_le h1 n.property.size) (range_keep (range_keep hp.2 (hb.block p hp.1)) (n.property.block p h1))).mono ?_
  rintro e w' ⟨he, hg⟩
  exact ⟨he, hg.1⟩

theorem bsearch_any (t x : IDv) (A : Option Addr) (c p : Nat) (S : List IDv) (w : World) (hL : S.length ≤ 100000) (hS : S.Pairwise (fun a b => kM t a < kM t b)) (hA : IAt w w.heap.size A S) (hp : p < w.heap.size) (hpt : w.rangeAt p 0 (encID t)) :
    Calls Try.prog 76 #[.slice A S.length c, .agg (encID x).toArray, nearF p] w fun e w' => BsPost t x S e ∧ Below w.heap.size w w' := by
  obtain ⟨X, hX⟩ : ∃ X, X = (encID x).toArray := ⟨_, rfl⟩
  rw [← hX]
  have hb0 : Below w.heap.size w (w.alloc (.cells X 26)) := (Below.refl _ w).alloc (Nat.le_refl _) _
  obtain ⟨W0, hW0⟩ : ∃ W0, W0 = w.alloc (.cells X 26) := ⟨_, rfl⟩
  have h0 := heap_alloc_new w (.cells X 26)
  rw [← hW0] at hb0 h0
  have HA := Lib.hid ((hA.below hb0).more hb0.size)
  have HB0 := Lib.hid hb0
  have HW := Lib.hid hW0
  have HS := Lib.hid hS
  have HH : Hid (W0.heap[w.heap.size]? = some (.cells (encID x).toArray 26 (0, 0))) := Lib.hid (by rw [← hX]; exact h0)
  have HPT : Hid (p < W0.heap.size ∧ W0.rangeAt p 0 (encID t)) := Lib.hid ⟨Nat.lt_of_lt_of_le hp hb0.size, range_keep hpt (hb0.block p hp)⟩
  have HX := Lib.hid hX
  obtain ⟨n, hn⟩ : ∃ n, n = S.length := ⟨_, rfl⟩
  have R0 : Hid (BsRel W0 t x S (.int .i64 0) (.int .i64 (n : Int)) W0) := Lib.hid ⟨0, n, rfl, rfl, by omega, by omega, fun q y hq => by omega, fun q y hq hy => by have := (List.getElem?_eq_some_iff.1 hy).1; omega, Below.refl _ _⟩
  rw [← hn] at hL ⊢
  have HN := Lib.hid hn
  clear hA hX hb0 h0 hW0 hn hp hpt hS
  unfold nearF
  go_enter Try.func76, Try.ntmps76
  go_upto_region 3 with fail
  rw [← HW.out]
  go_loopw [9, 10] (BsRel W0 t x S) (fun i j _ => (intOf j - intOf i).toNat)
  case atStart => exact R0.out
  case round =>
    obtain ⟨a, b, rfl, rfl, hab, hbn, ha, hb2, hb⟩ := hrel
    clear R0
    rw [← HN.out] at hbn
    have HQ1 := Lib.hid ha
    have HQ2 := Lib.hid hb2
    have HB := Lib.hid hb
    clear ha hb2
    by_cases hlt : a < b
    · go_upto_region 5 with fail
      obtain ⟨h, hh⟩ : ∃ h : Nat, h = (a + b) / 2 := ⟨_, rfl⟩
      have he : ((a : Int) + (b : Int)) / 2 = (h : Int) := by omega
      have h1 : a ≤ h := by omega
      have h2 : h < b := by omega
      rw [he]
      clear he hh
      obtain ⟨y, hy⟩ : ∃ y, S[h]? = some y := ⟨S[h]'(by have := HN.out; omega), List.getElem?_eq_getElem _⟩
      obtain ⟨g, off, rfl, hg, hr⟩ := (HA.out.below hb).some_ (by have := HN.out; omega)
      have HLY := Lib.hid (kept_range26 (Nat.lt_of_lt_of_le hg hb.size) (range_part hr hy))
      have hgx : w.heap.size < W0.heap.size := (Array.getElem?_eq_some_iff.1 HH.out).1
      have hLX := kept_range26 (Nat.lt_of_lt_of_le hgx hb.size) (range_keep (row_range HH.out) (hb.block _ hgx))
      have hC := kept_clo (x := x) (y := y) HPT.out hb
      rw [← HX.out] at hLX hC
      have HLX := Lib.hid hLX
      have HC := Lib.hid hC
      have HCK := Lib.hid (cfM_lt t y x)
      have HY := Lib.hid hy
      generalize cfM t y x = cv at HC HCK
      clear hr hg hgx hLX hb hy hC
      by_cases hc : cv < 0
      · refine wp_region_kept wr.heap.size wr (Below.refl _ _) (by kernel_rfl) (by kernel_rfl) ?_
        repeat (first
          | (go_big_quiet_want; (with_reducible refine quiet_loadV 26 (.tmp 27) rfl _ ?_ _ HLY.out ?_); rfl; simp only [Act.put, List.setIfInBounds_toArray, List.set_cons_zero, List.set_cons_succ]; go_big_quiet_on)
          | (go_big_quiet_want; (with_reducible refine quiet_loadV 26 (.tmp 4) rfl _ ?_ _ HLX.out ?_); rfl; simp only [Act.put, List.setIfInBounds_toArray, List.set_cons_zero, List.set_cons_succ]; go_big_quiet_on)
          | go_big_quiet_step (first | (go_at_call 89; with_reducible exact kept_ofS (Nat.le_refl _) HC.out _)))
        refine wpQuiet_nil ?_
        rintro wk ⟨⟨_, hwk⟩, rfl⟩
        have HREL : Hid (BsRel W0 t x S (.int .i64 ((h : Int) + 1)) (.int .i64 (b : Int)) wk) := Lib.hid ⟨h + 1, b, by go_num, rfl, by omega, by have := HN.out; omega, fun q z hq hz => by
          by_cases e : q = h
          · subst e
            rw [HY.out] at hz
            injection hz with hz
            subst hz
            exact HCK.out.1 hc
          · exact Nat.lt_trans (pair_get HS.out (by omega : q < h) hz HY.out) (HCK.out.1 hc), HQ2.out, HB.out.trans (hwk.mono HB.out.size)⟩
        clear hwk HLX HLY HQ1 HQ2 HB HY HC HCK
        go_wp2
        go_roundw
        case rel => exact HREL.out
        case measure => simp [intOf]; omega
      · refine wp_region_kept wr.heap.size wr (Below.refl _ _) (by kernel_rfl) (by kernel_rfl) ?_
        repeat (first
          | (go_big_quiet_want; (with_reducible refine quiet_loadV 26 (.tmp 27) rfl _ ?_ _ HLY.out ?_); rfl; simp only [Act.put, List.setIfInBounds_toArray, List.set_cons_zero, List.set_cons_succ]; go_big_quiet_on)
          | (go_big_quiet_want; (with_reducible refine quiet_loadV 26 (.tmp 4) rfl _ ?_ _ HLX.out ?_); rfl; simp only [Act.put, List.setIfInBounds_toArray, List.set_cons_zero, List.set_cons_succ]; go_big_quiet_on)
          | go_big_quiet_step (first | (go_at_call 89; with_reducible exact kept_ofS (Nat.le_refl _) HC.out _)))
        refine wpQuiet_nil ?_
        rintro wk ⟨⟨_, hwk⟩, rfl⟩
        have HREL : Hid (BsRel W0 t x S (.int .i64 (a : Int)) (.int .i64 (h : Int)) wk) := Lib.hid ⟨a, h, rfl, rfl, h1, by have := HN.out; omega, HQ1.out, fun q z hq hz => by
          have hn : ¬ kM t y < kM t x := fun e => hc (HCK.out.2 e)
          by_cases e : q = h
          · subst e
            rw [HY.out] at hz
            injection hz with hz
            subst hz
            exact hn
          · have := pair_get HS.out (by omega : h < q) HY.out hz
            omega, HB.out.trans (hwk.mono HB.out.size)⟩
        clear hwk HLX HLY HQ1 HQ2 HB HY HC HCK
        go_wp2
        go_roundw
        case rel => exact HREL.out
        case measure => simp [intOf]; omega
    · obtain rfl : a = b := by omega
      have HR : Hid (rankK (kM t) x S = a) := Lib.hid (rank_split x S a (by have := HN.out; omega) HQ1.out HQ2.out)
      rw [HN.out] at hbn
      rw [← HN.out] at hbn
      by_cases hat : a < n
      · have hat' : (a : Int) < (n : Int) := by omega
        obtain ⟨y, hy⟩ : ∃ y, S[a]? = some y := ⟨S[a]'(by have := HN.out; omega), List.getElem?_eq_getElem _⟩
        obtain ⟨g, off, rfl, hg, hr⟩ := (HA.out.below hb).some_ (by have := HN.out; omega)
        have HLY := Lib.hid (kept_range26 (Nat.lt_of_lt_of_le hg hb.size) (range_part hr hy))
        have hgx : w.heap.size < W0.heap.size := (Array.getElem?_eq_some_iff.1 HH.out).1
        have hLX := kept_range26 (Nat.lt_of_lt_of_le hgx hb.size) (range_keep (row_range HH.out) (hb.block _ hgx))
        have hC := kept_clo (x := x) (y := y) HPT.out hb
        rw [← HX.out] at hLX hC
        have HLX := Lib.hid hLX
        have HC := Lib.hid hC
        have HCK := Lib.hid (cfM_lt t y x)
        have HY := Lib.hid hy
        generalize cfM t y x = cv at HC HCK
        clear hr hg hgx hLX hb hy hC
        by_cases hc : cv = 0
        · go_upto_region 8 with fail
          refine wp_region_kept wr.heap.size wr (Below.refl _ _) (by kernel_rfl) (by kernel_rfl) ?_
          repeat (first
            | (go_big_quiet_want; (with_reducible refine quiet_loadV 26 (.tmp 43) rfl _ ?_ _ HLY.out ?_); rfl; simp only [Act.put, List.setIfInBounds_toArray, List.set_cons_zero, List.set_cons_succ]; go_big_quiet_on)
            | (go_big_quiet_want; (with_reducible refine quiet_loadV 26 (.tmp 4) rfl _ ?_ _ HLX.out ?_); rfl; simp only [Act.put, List.setIfInBounds_toArray, List.set_cons_zero, List.set_cons_succ]; go_big_quiet_on)
            | go_big_quiet_step (first | (go_at_call 89; with_reducible exact kept_ofS (Nat.le_refl _) HC.out _)))
          refine wpQuiet_nil ?_
          rintro wk ⟨⟨_, hwk⟩, rfl⟩
          have HF := Lib.hid (HB0.out.trans ((HB.out.trans (hwk.mono HB.out.size)).mono HB0.out.size))
          clear hwk HLX HLY HB HC HCK HQ1 HQ2
          go_wp2
          go_ret2
          exact ⟨⟨_, by rw [HR.out]; rfl⟩, HF.out⟩
        · go_upto_region 8 with fail
          refine wp_region_kept wr.heap.size wr (Below.refl _ _) (by kernel_rfl) (by kernel_rfl) ?_
          repeat (first
            | (go_big_quiet_want; (with_reducible refine quiet_loadV 26 (.tmp 43) rfl _ ?_ _ HLY.out ?_); rfl; simp only [Act.put, List.setIfInBounds_toArray, List.set_cons_zero, List.set_cons_succ]; go_big_quiet_on)
            | (go_big_quiet_want; (with_reducible refine quiet_loadV 26 (.tmp 4) rfl _ ?_ _ HLX.out ?_); rfl; simp only [Act.put, List.setIfInBounds_toArray, List.set_cons_zero, List.set_cons_succ]; go_big_quiet_on)
            | go_big_quiet_step (first | (go_at_call 89; with_reducible exact kept_ofS (Nat.le_refl _) HC.out _)))
          refine wpQuiet_nil ?_
          rintro wk ⟨⟨_, hwk⟩, rfl⟩
          have HF := Lib.hid (HB0.out.trans ((HB.out.trans (hwk.mono HB.out.size)).mono HB0.out.size))
          clear hwk HLX HLY HB HC HCK HQ1 HQ2
          go_wp2
          go_ret2
          exact ⟨⟨_, by rw [HR.out]; rfl⟩, HF.out⟩
      · have hat' : ¬ (a : Int) < (n : Int) := by omega
        clear hb HQ1 HQ2
        go_upto_region 8 with fail
        refine wp_region_kept wr.heap.size wr (Below.refl _ _) (by kernel_rfl) (by kernel_rfl) ?_
        repeat (first | go_big_quiet_step (fail))
        refine wpQuiet_nil ?_
        rintro wk ⟨⟨_, hwk⟩, rfl⟩
        have HF := Lib.hid (HB0.out.trans ((HB.out.trans (hwk.mono HB.out.size)).mono HB0.out.size))
        clear hwk HB
        go_wp2
        go_ret2
        exact ⟨⟨_, by rw [HR.out]; rfl⟩, HF.out⟩
end Go.Proofs.Ytcoiaddjfeaciaa
end
