/- Good of the program: rosters. Conditions: at most 10,000 instances, targets of at most 100,000 bytes. The closure of Bytes of package inst. No condition. -/
import Derived.Test.YtkceipkgebgigaaXIiq
import Derived.Test.YtkceipkgebgigaaXIik
import Derived.Test.YtkceipkgebgigaaXIin
import Derived.Test.YtkceipkgebgigaaXJLrg
section
namespace Go.Proofs.Ytkceipkgebgigaa
open Go.Shelf Go.RowKit Go.Lib Go.Great
set_option maxRecDepth 100000
set_option maxHeartbeats 2000000
instance : Inhabited Ins := ⟨zeroI⟩
/-- What is asked of the one at a place. -/
def okAt (L : List Ins) (k : Nat) : Bool := goodI L[k]! && (decide (k = 0) || decide (cmpP L[k - 1]! L[k]! < 0))
/-- A roster is good. -/
def goodR (L : List Ins) : Bool := decide (L.length ≤ 16) && (List.range L.length).all (okAt L)
theorem goodR_iff (L : List Ins) : goodR L = true ↔ L.length ≤ 16 ∧ ∀ k, k < L.length → okAt L k = true := by
  unfold goodR
  rw [Bool.and_eq_true, decide_eq_true_eq, List.all_eq_true]
  simp only [List.mem_range]
theorem row_at {w : World} {g off k : Nat} {L : List Ins} (h : w.rangeAt g off (flatE encI L)) (hk : k < L.length) : w.rangeAt g (off + k * 28) (encI L[k]!) := by
  intro j v hv
  have hj : j < 28 := by
    have := (List.getElem?_eq_some_iff.1 hv).1
    rwa [encI_length] at this
  have e := flatE_get encI_length (by omega) L k _ j (List.getElem?_eq_getElem hk) hj
  rw [getElem!_pos L k hk] at hv
  rw [hv] at e
  rw [Nat.add_assoc]
  exact h _ v e
theorem row_load {w W : World} {B g off : Nat} {L : List Ins} (h : w.rangeAt g off (flatE encI L)) (hg : g < B) (hb : Below B w W) {k : Nat} (hk : k < L.length) : (loadVar 28 ⟨g, off + k * 28, none⟩).run Try.prog W = .ok (.agg (encI L[k]!).toArray) W :=
  load28 (row_at (rangeAt_below h (hb.block g hg)) hk)
theorem gd_long (A : Option Addr) (n c : Nat) (w : World) (hn : 16 < n) : Calls Try.prog 40 #[.slice A n c] w fun e w' => e = .returned (.bool false) ∧ w' = w := by
  have hn' : (n : Int) > 16 := by omega
  go_enter Try.func40, Try.ntmps40
  go_wp2
  go_ret
  exact ⟨rfl, rfl⟩
theorem gd_none (A : Option Addr) (c : Nat) (w : World) : Calls Try.prog 40 #[.slice A 0 c] w fun e w' => e = .returned (.bool true) ∧ w' = w := by
  go_enter Try.func40, Try.ntmps40
  go_wp2
  go_loopg [10] 0 (fun _ s wr => s = .int .i64 0 ∧ wr = w)
  case atStart => exact ⟨rfl, rfl⟩
  case round =>
    obtain ⟨rfl, rfl⟩ := hrel
    go_wp2
    go_ret
    exact ⟨rfl, rfl⟩
theorem gd_some (b off c : Nat) (L : List Ins) (w : World) (hL : L.length ≤ 16) (ht : ∀ k, k < L.length → L[k]!.tgt.length ≤ 100000) (hb : b < w.heap.size) (hr : w.rangeAt b off (flatE encI L)) :
    Calls Try.prog 40 #[.slice (some ⟨b, off, none⟩) L.length c] w fun e w' => e = .returned (.bool (goodR L)) ∧ Below w.heap.size w w' := by
  have HLD : Hid (∀ k, k < L.length → ∀ W, Below w.heap.size w W → (loadVar 28 ⟨b, off + k * 28, none⟩).run Try.prog W = .ok (.agg (encI L[k]!).toArray) W) := Lib.hid (fun k hk W hW => row_load hr hb hW hk)
  have HGD : Hid (∀ k, k < L.length → ∀ W, Calls Try.prog 14 #[.agg (encI L[k]!).toArray] W fun e w' => e = .returned (.bool (goodI L[k]!)) ∧ Below W.heap.size W w') := Lib.hid (fun k hk W => igood_any _ (ht k hk) W)
  have HBP : Hid (∀ (i j : Nat) (W : World), Calls Try.prog 79 #[.agg (encI L[i]!).toArray, .agg (encI L[j]!).toArray] W fun e w' => e = .returned (.int .i64 (cmpP L[i]! L[j]!)) ∧ Below W.heap.size W w') := Lib.hid (fun i j W => byp_any _ _ W)
  have HT : Hid ((∀ k, k < L.length → okAt L k = true) → goodR L = true) := Lib.hid (fun h => (goodR_iff L).2 ⟨hL, h⟩)
  have HF : Hid (∀ k, k < L.length → okAt L k = false → goodR L = false) := Lib.hid (fun k hk h => by
    cases hg : goodR L with
    | false => rfl
    | true => rw [((goodR_iff L).1 hg).2 k hk] at h; cases h)
  have HO : Hid (∀ k, okAt L k = (goodI L[k]! && (decide (k = 0) || decide (cmpP L[k - 1]! L[k]! < 0)))) := Lib.hid (fun k => rfl)
  generalize goodR L = r at *
  generalize hn : L.length = n at *
  have hlen : ¬ (n : Int) > 16 := by omega
  clear hr ht
  go_enter Try.func40, Try.ntmps40
  go_wp2
  go_loopw [10] (fun i wr => ∃ k : Nat, i = .int .i64 (k : Int) ∧ k ≤ n ∧ (∀ j, j < k → okAt L j = true) ∧ Below w.heap.size w wr) (fun i _ => n - (RowKit.intOf i).toNat)
  case atStart => exact ⟨0, rfl, by omega, fun j hj => by omega, Below.refl _ _⟩
  case round =>
    obtain ⟨k, rfl, hk, hF, hbr⟩ := hrel
    have HD := Lib.hid hF
    clear hF
    by_cases hlt : k < n
    · have hlt' : (k : Int) < (n : Int) := by omega
      have hs0 := Lib.hid hbr.size
      have hbn : Below w.heap.size w (wr.alloc (.cells (encI L[k]!).toArray 28)) := hbr.alloc hbr.size _
      have HBN := Lib.hid hbn
      have hnew := heap_alloc_new wr (.cells (encI L[k]!).toArray 28)
      have HQ4 : Hid (∀ q : Kept (wr.alloc (.cells (encI L[k]!).toArray 28)).heap.size (wr.alloc (.cells (encI L[k]!).toArray 28)), (loadVar 28 ⟨wr.heap.size, 0, none⟩).run Try.prog q.val = .ok (.agg (encI L[k]!).toArray) q.val) := Lib.hid (fun q =>
        load28 (row_range (by rw [q.property.block _ (Array.getElem?_eq_some_iff.1 hnew).1]; exact hnew)))
      have hld := HLD.out k hlt wr hbr
      have HGK := Lib.hid (HGD.out k hlt)
      obtain ⟨Y, hY⟩ : ∃ Y : Ins, Y = L[k]! := ⟨_, rfl⟩
      have HY := Lib.hid hY
      have hok := HO.out k
      rw [← hY] at hnew hok hbn hld
      rw [← HY.out] at HQ4 HGK HBN
      have HLDV := Lib.hid hld
      have HW2 : Hid (∃ W2, W2 = wr.alloc (.cells (encI Y).toArray 28)) := Lib.hid ⟨_, rfl⟩
      clear hY hld hbn hnew
      cases hgk : goodI Y with
      | false =>
        rw [hgk] at hok HGK
        have HRF : Hid (r = false) := Lib.hid (HF.out k hlt (by rw [hok]; rfl))
        clear HT HF HO HD HLD HGD HBP hbr hok hgk
        go_upto_region 6 with (first
          | ((with_reducible refine wpList_loadV (op := ⟨some 14, _, _, _, _, _⟩) rfl 28 (.tmp 13) rfl _ ?_ _ HLDV.out ?_); rfl)
          | (with_reducible refine wpList_alloc28 (o := ⟨some 4, _, _, _, _, _⟩) wr.heap.size rfl rfl 4 rfl rfl ?_)
          | ((with_reducible refine wpList_store28n (o := ⟨none, _, _, _, _, _⟩) rfl (.tmp 4) (.tmp 14) rfl wr.heap.size rfl zeroI Y ?_ ?_ ?_); rfl; rfl))
        generalize (encI Y).toArray = X at *
        generalize wr.alloc (.cells X 28) = W2 at *
        simp only [Act.put, List.setIfInBounds_toArray, List.set_cons_zero, List.set_cons_succ]
        refine wp_region_kept W2.heap.size W2 (Below.refl _ _) (by kernel_rfl) (by kernel_rfl) ?_
        repeat (first
          | (go_big_quiet_want; (with_reducible refine quiet_loadV 28 (.tmp 4) rfl _ ?_ _ HQ4.out ?_); rfl; simp only [Act.put, List.setIfInBounds_toArray, List.set_cons_zero, List.set_cons_succ]; go_big_quiet_on)
          | go_big_quiet_step (first | (go_at_call 14; with_reducible exact kept_of (Nat.le_refl _) HGK.out _)))
        refine wpQuiet_nil ?_
        rintro wk ⟨⟨_, hwk⟩, rfl⟩
        go_wp2
        go_ret
        exact ⟨by rw [HRF.out]; rfl, HBN.out.trans (hwk.mono HBN.out.size)⟩
      | true =>
        rw [hgk] at hok HGK
        rw [Bool.true_and] at hok
        rcases Nat.eq_zero_or_pos k with rfl | hpos
        · have HRN : Hid (∃ k' : Nat, (RowKit.intOf (.int .i64 (((0 : Nat) : Int) + 1)) : Int) = (k' : Int)) := Lib.hid ⟨1, rfl⟩
          have HNX : Hid (∀ wx, Below w.heap.size w wx → ∃ k : Nat, Value.int .i64 1 = .int .i64 (k : Int) ∧ k ≤ n ∧ (∀ j, j < k → okAt L j = true) ∧ Below w.heap.size w wx) := Lib.hid (fun wx hx => ⟨1, rfl, by omega, fun j hj => by
            obtain rfl : j = 0 := by omega
            rw [hok]; rfl, hx⟩)
          clear HT HF HO HD HLD HGD HBP hbr hok hgk HRN
          go_upto_region 6 with (first
            | ((with_reducible refine wpList_loadV (op := ⟨some 14, _, _, _, _, _⟩) rfl 28 (.tmp 13) rfl _ ?_ _ HLDV.out ?_); rfl)
            | (with_reducible refine wpList_alloc28 (o := ⟨some 4, _, _, _, _, _⟩) wr.heap.size rfl rfl 4 rfl rfl ?_)
            | ((with_reducible refine wpList_store28n (o := ⟨none, _, _, _, _, _⟩) rfl (.tmp 4) (.tmp 14) rfl wr.heap.size rfl zeroI Y ?_ ?_ ?_); rfl; rfl))
          generalize (encI Y).toArray = X at *
          generalize wr.alloc (.cells X 28) = W2 at *
          simp only [Act.put, List.setIfInBounds_toArray, List.set_cons_zero, List.set_cons_succ]
          refine wp_region_kept W2.heap.size W2 (Below.refl _ _) (by kernel_rfl) (by kernel_rfl) ?_
          repeat (first
            | (go_big_quiet_want; (with_reducible refine quiet_loadV 28 (.tmp 4) rfl _ ?_ _ HQ4.out ?_); rfl; simp only [Act.put, List.setIfInBounds_toArray, List.set_cons_zero, List.set_cons_succ]; go_big_quiet_on)
            | go_big_quiet_step (first | (go_at_call 14; with_reducible exact kept_of (Nat.le_refl _) HGK.out _)))
          refine wpQuiet_nil ?_
          rintro wk ⟨⟨_, hwk⟩, rfl⟩
          have HBW := Lib.hid (HNX.out _ (HBN.out.trans (hwk.mono HBN.out.size)))
          clear hwk
          go_wp2
          go_roundw
          case rel => exact HBW.out
          case measure => simp [RowKit.intOf]; omega
        · obtain ⟨m, rfl⟩ : ∃ m, k = m + 1 := ⟨k - 1, by omega⟩
          have hlm : m < n := by omega
          have HQP : Hid (∀ q : Kept (wr.alloc (.cells (encI Y).toArray 28)).heap.size (wr.alloc (.cells (encI Y).toArray 28)), (loadVar 28 ⟨b, off + m * 28, none⟩).run Try.prog q.val = .ok (.agg (encI L[m]!).toArray) q.val) := Lib.hid (fun q =>
            HLD.out m hlm _ (HBN.out.trans (q.property.mono HBN.out.size)))
          have HCP := Lib.hid (HBP.out m (m + 1))
          rw [← HY.out] at HCP
          rw [show decide (m + 1 = 0) = false from decide_eq_false (by omega), Bool.false_or, Nat.add_sub_cancel] at hok
          obtain ⟨q, hq⟩ : ∃ q, q = cmpP L[m]! Y := ⟨_, rfl⟩
          rw [← hq] at hok HCP
          have hge : (q : Int) ≥ 0 ↔ okAt L (m + 1) = false := by
            rw [hok, decide_eq_false_iff_not]; omega
          have HNX : Hid (okAt L (m + 1) = true → ∀ wx, Below w.heap.size w wx → ∃ k : Nat, Value.int .i64 ((m : Int) + 1 + 1) = .int .i64 (k : Int) ∧ k ≤ n ∧ (∀ j, j < k → okAt L j = true) ∧ Below w.heap.size w wx) := Lib.hid (fun h wx hx => ⟨m + 1 + 1, by simp, by omega, fun j hj => by
            by_cases e : j = m + 1
            · subst e; exact h
            · exact HD.out j (by omega), hx⟩)
          have HRF := Lib.hid (HF.out (m + 1) hlt)
          cases hc : okAt L (m + 1) with
          | false =>
            have hge' := hge.2 hc
            have HRR : Hid (r = false) := Lib.hid (HRF.out hc)
            clear HT HF HO HD HLD HGD HBP hbr hok hgk hge hc HNX HRF hq
            go_upto_region 6 with (first
              | ((with_reducible refine wpList_loadV (op := ⟨some 14, _, _, _, _, _⟩) rfl 28 (.tmp 13) rfl _ ?_ _ HLDV.out ?_); rfl)
              | (with_reducible refine wpList_alloc28 (o := ⟨some 4, _, _, _, _, _⟩) wr.heap.size rfl rfl 4 rfl rfl ?_)
              | ((with_reducible refine wpList_store28n (o := ⟨none, _, _, _, _, _⟩) rfl (.tmp 4) (.tmp 14) rfl wr.heap.size rfl zeroI Y ?_ ?_ ?_); rfl; rfl))
            generalize (encI Y).toArray = X at *
            generalize (encI L[m]!).toArray = Z at *
            generalize wr.alloc (.cells X 28) = W2 at *
            simp only [Act.put, List.setIfInBounds_toArray, List.set_cons_zero, List.set_cons_succ]
            refine wp_region_kept W2.heap.size W2 (Below.refl _ _) (by kernel_rfl) (by kernel_rfl) ?_
            repeat (first
              | (go_big_quiet_want; (with_reducible refine quiet_loadV 28 (.tmp 4) rfl _ ?_ _ HQ4.out ?_); rfl; simp only [Act.put, List.setIfInBounds_toArray, List.set_cons_zero, List.set_cons_succ]; go_big_quiet_on)
              | (go_big_quiet_want; (with_reducible refine quiet_loadV 28 (.tmp 25) rfl _ ?_ _ HQP.out ?_); rfl; simp only [Act.put, List.setIfInBounds_toArray, List.set_cons_zero, List.set_cons_succ]; go_big_quiet_on)
              | go_big_quiet_step (first | (go_at_call 14; with_reducible exact kept_of (Nat.le_refl _) HGK.out _) | (go_at_call 79; with_reducible exact kept_of (Nat.le_refl _) HCP.out _)))
            refine wpQuiet_nil ?_
            rintro wk ⟨⟨_, hwk⟩, rfl⟩
            go_wp2
            go_ret
            exact ⟨by rw [HRR.out]; rfl, HBN.out.trans (hwk.mono HBN.out.size)⟩
          | true =>
            have hge' : ¬ q ≥ 0 := fun h => by rw [hge.1 h] at hc; cases hc
            have HNY := Lib.hid (HNX.out hc)
            clear HT HF HO HD HLD HGD HBP hbr hok hgk hge hc HNX HRF hq
            go_upto_region 6 with (first
              | ((with_reducible refine wpList_loadV (op := ⟨some 14, _, _, _, _, _⟩) rfl 28 (.tmp 13) rfl _ ?_ _ HLDV.out ?_); rfl)
              | (with_reducible refine wpList_alloc28 (o := ⟨some 4, _, _, _, _, _⟩) wr.heap.size rfl rfl 4 rfl rfl ?_)
              | ((with_reducible refine wpList_store28n (o := ⟨none, _, _, _, _, _⟩) rfl (.tmp 4) (.tmp 14) rfl wr.heap.size rfl zeroI Y ?_ ?_ ?_); rfl; rfl))
            generalize (encI Y).toArray = X at *
            generalize (encI L[m]!).toArray = Z at *
            generalize wr.alloc (.cells X 28) = W2 at *
            simp only [Act.put, List.setIfInBounds_toArray, List.set_cons_zero, List.set_cons_succ]
            refine wp_region_kept W2.heap.size W2 (Below.refl _ _) (by kernel_rfl) (by kernel_rfl) ?_
            repeat (first
              | (go_big_quiet_want; (with_reducible refine quiet_loadV 28 (.tmp 4) rfl _ ?_ _ HQ4.out ?_); rfl; simp only [Act.put, List.setIfInBounds_toArray, List.set_cons_zero, List.set_cons_succ]; go_big_quiet_on)
              | (go_big_quiet_want; (with_reducible refine quiet_loadV 28 (.tmp 25) rfl _ ?_ _ HQP.out ?_); rfl; simp only [Act.put, List.setIfInBounds_toArray, List.set_cons_zero, List.set_cons_succ]; go_big_quiet_on)
              | go_big_quiet_step (first | (go_at_call 14; with_reducible exact kept_of (Nat.le_refl _) HGK.out _) | (go_at_call 79; with_reducible exact kept_of (Nat.le_refl _) HCP.out _)))
            refine wpQuiet_nil ?_
            rintro wk ⟨⟨_, hwk⟩, rfl⟩
            have HBW := Lib.hid (HNY.out _ (HBN.out.trans (hwk.mono HBN.out.size)))
            clear hwk
            go_wp2
            go_roundw
            case rel => exact HBW.out
            case measure => simp [RowKit.intOf]; omega
    · have hlt' : ¬ (k : Int) < (n : Int) := by omega
      have HRT : Hid (r = true) := Lib.hid (HT.out (fun j hj => HD.out j (by omega)))
      have HBR := Lib.hid hbr
      clear HT HF HO HD HLD HGD HBP hbr
      go_wp2
      go_ret
      exact ⟨by rw [HRT.out]; rfl, HBR.out⟩
theorem goodR_long {L : List Ins} (h : 16 < L.length) : goodR L = false := by
  cases hg : goodR L with
  | false => rfl
  | true => have := ((goodR_iff L).1 hg).1; omega
/-- Good of the program. -/
theorem gd_any (A : Option Addr) (c : Nat) (L : List Ins) (w : World) (ht : ∀ x ∈ L, x.tgt.length ≤ 100000) (hA : IAt w w.heap.size A L) :
    Calls Try.prog 40 #[.slice A L.length c] w fun e w' => e = .returned (.bool (goodR L)) ∧ Below w.heap.size w w' := by
  by_cases hl : 16 < L.length
  · rw [goodR_long hl]
    refine (gd_long A L.length c w hl).mono ?_
    rintro e w' ⟨rfl, rfl⟩
    exact ⟨rfl, Below.refl _ _⟩
  · rcases hA with rfl | ⟨g, off, rfl, hg, hr⟩
    · refine (gd_none A c w).mono ?_
      rintro e w' ⟨rfl, rfl⟩
      exact ⟨rfl, Below.refl _ _⟩
    · exact gd_some g off c L w (by omega) (fun k hk => ht _ (by rw [getElem!_pos L k hk]; exact List.getElem_mem hk)) hg hr
end Go.Proofs.Ytkceipkgebgigaa
end
section
namespace Go.Proofs.Ytkceipkgebgigaa
open Go.Shelf Go.RowKit Go.Lib Go.Great
set_option maxRecDepth 100000
set_option maxHeartbeats 1000000
/-- While Bytes runs: the instance's block, and that of the bytes so far. -/
structure BYW (w : World) (i : Ins) (p : Nat) (xs : List UInt8) (W : World) : Prop where
  h1 : W.heap[w.heap.size]? = some (.cells (encI i).toArray 28 (0, 0))
  h2 : ∃ A c, W.heap[p]? = some (.cells #[.slice A xs.length c] 30 (0, 0)) ∧ BAt W W.heap.size A xs ∧ xs.length ≤ c
  be : Below w.heap.size w W
  hp : w.heap.size < p
theorem BYW.bel {w W W' : World} {i : Ins} {p : Nat} {xs : List UInt8} (r : BYW w i p xs W) (hb : Below W.heap.size W W') : BYW w i p xs W' := by
  obtain ⟨h1, ⟨A, c, h2, h3, h4⟩, h5, h6⟩ := r
  exact ⟨(hb.block _ (Array.getElem?_eq_some_iff.1 h1).1).trans h1, ⟨A, c, (hb.block _ (Array.getElem?_eq_some_iff.1 h2).1).trans h2, (h3.below hb).more hb.size, h4⟩, h5.trans (hb.mono h5.size), h6⟩
theorem BYW.cell {w W : World} {i : Ins} {p : Nat} {xs : List UInt8} (r : BYW w i p xs W) {j : Nat} {v : Value} (hv : (tailI i)[j]? = some v) : W.cell? ⟨w.heap.size, 20 + j, none⟩ = some v := by
  rw [cell_of_row _ _ _ _ 28 (0, 0) r.h1, encI_get]
  exact hv
theorem clo46_any {w W : World} {i : Ins} {p : Nat} {xs : List UInt8} (r : BYW w i p xs W) (hl : xs.length ≤ 900000) (n k : Nat) (hn : n < 18446744073709551616) (h1 : 1 ≤ k) (h8 : k ≤ 8) {j : Nat} {v : Value} (hv : (tailI i)[j]? = some v) :
    Calls Try.prog 46 #[.int .u64 (n : Int), .int .i64 (k : Int), .pointer (some ⟨p, 0, none⟩)] W fun e W' => e = .returned (.tuple #[]) ∧ BYW w i p (xs ++ putB n k) W' ∧ W'.cell? ⟨w.heap.size, 20 + j, none⟩ = some v := by
  obtain ⟨A, c, hh, hA, hc⟩ := r.h2
  have c0 : W.cell? ⟨p, 0, none⟩ = some (.slice A xs.length c) := by
    have := cell_of_row W _ 0 _ 30 (0, 0) hh
    simpa using this
  have hlt := (Array.getElem?_eq_some_iff.1 hh).1
  have hlt0 := (Array.getElem?_eq_some_iff.1 r.h1).1
  have HP : Hid (Calls Try.prog 47 #[.slice A xs.length c, .int .u64 (n : Int), .int .i64 (k : Int)] W fun e w' => ∃ A' c', e = .returned (.slice A' (xs ++ putB n k).length c') ∧ w'.ownsRow W.heap.size 5 1 (.slice A' (xs ++ putB n k).length c') (xs ++ putB n k).length (bcells (xs ++ putB n k)) ∧ Below W.heap.size W w' ∧ w'.cell? ⟨p, 0, none⟩ = some (.slice A xs.length c) ∧ w'.frozen? ⟨p, 0, none⟩ = false) := Lib.hid ((put_yes A c n k xs W hA (by omega) hn h1 h8).mono (by
    rintro e w' ⟨v', rfl, ho, hb⟩
    have hh' := (hb.block _ hlt).trans hh
    obtain ⟨A', c', rfl, _, _⟩ := own_bat ho
    refine ⟨A', c', rfl, ho, hb, ?_, frozen_of_row _ _ _ _ _ hh'⟩
    have := cell_of_row w' _ 0 _ 30 (0, 0) hh'
    simpa using this))
  have HE : Hid (∀ w' A' c', w'.ownsRow W.heap.size 5 1 (.slice A' (xs ++ putB n k).length c') (xs ++ putB n k).length (bcells (xs ++ putB n k)) → Below W.heap.size W w' → BYW w i p (xs ++ putB n k) (w'.setCell ⟨p, 0, none⟩ (.slice A' (xs ++ putB n k).length c')) ∧ (w'.setCell ⟨p, 0, none⟩ (.slice A' (xs ++ putB n k).length c')).cell? ⟨w.heap.size, 20 + j, none⟩ = some v) := Lib.hid (fun w' A' c' ho hb => by
    have r2 := r.bel hb
    have hh' := (hb.block _ hlt).trans hh
    have hst := heap_setCell_same w' _ 0 _ 30 (.slice A' (xs ++ putB n k).length c') hh'
    have hg := grownBy_setCell (World.grownBy.refl w' (some (p))) 0 (.slice A' (xs ++ putB n k).length c')
    obtain ⟨A2, c2, e2, hA', hge⟩ := own_bat ho
    injection e2 with e2 _ e3
    subst e2 e3
    have hcc : (xs ++ putB n k).length ≤ c' := by
      rcases ho.2 with ⟨e0, h0⟩ | ⟨g, cap, cur, e0, _, _, hcp, _⟩
      · rw [h0]; omega
      · injection e0 with _ _ e3
        rw [e3]; exact hcp
    have r3 : BYW w i p (xs ++ putB n k) (w'.setCell ⟨p, 0, none⟩ (.slice A' (xs ++ putB n k).length c')) := by
      refine ⟨(hg.block _ (Nat.lt_of_lt_of_le hlt0 hb.size) (by intro e; injection e with e; have := r.hp; omega)).trans r2.h1, ⟨A', c', by simpa using hst, ?_, hcc⟩, r2.be.setCell (p := ⟨p, 0, none⟩) (by have := r.hp; show w.heap.size ≤ p; omega) _, r.hp⟩
      have := hA'.set (g := p) (j := 0) (.slice A' (xs ++ putB n k).length c') (fun g' off e _ => by have := hge g' off e; omega)
      simpa [World.setCell] using this
    exact ⟨r3, r3.cell hv⟩)
  clear hA hh r hlt hlt0 hv
  generalize (xs ++ putB n k).length = m at HP HE
  go_enter Try.func46, Try.ntmps46
  go_wp2_with (go_at_call 47; (with_reducible refine HP.out.mono ?_); rintro e w1 ⟨A1, k1, rfl, ho1, hb1, cc1, ff1⟩; have HO := Lib.hid (HE.out _ _ _ ho1 hb1); clear ho1)
  go_end0
  exact ⟨rfl, HO.out⟩
end Go.Proofs.Ytkceipkgebgigaa
end
